/-
  How often each rumor is still to be told. (Knows no program.)
-/
import Derived.Test.YtagdacfgpgcbcaaTrn
namespace Go.Proofs.Ytagdacfgpgcbcaa

/-- What is still wanted of each node. -/
structure Inv (c : Int) (L : List Itm) (W : Int → Int) : Prop where
  is : ∀ x ∈ L, W x.1 = c - x.2.2.2 ∧ x.2.2.2 < c
  none_ : ∀ k, (∀ x ∈ L, x.1 ≠ k) → W k = 0
def decW (W : Int → Int) (k : Int) : Int → Int := fun z => if z = k then W z - 1 else W z
def setW (W : Int → Int) (k y : Int) : Int → Int := fun z => if z = k then y else W z
def decs (W : Int → Int) (l : List Itm) : Int → Int := l.foldl (fun W x => decW W x.1) W
theorem Inv.nil (c : Int) : Inv c [] (fun _ => 0) := ⟨(fun _ h => by cases h), fun _ _ => rfl⟩

theorem Inv.tell {c : Int} {L : List Itm} {W : Int → Int} (h : Inv c L W) {x : Itm} (hx : x ∈ L) : Inv c (tellQ c L x) (decW W x.1) := by
  obtain ⟨h1, h2⟩ := h.is x hx
  have other : ∀ y ∈ L, y.1 ≠ x.1 → decW W x.1 y.1 = c - y.2.2.2 ∧ y.2.2.2 < c := fun y hy hne => by
    unfold decW; rw [if_neg hne]; exact h.is y hy
  by_cases ht : x.2.2.2 + 1 < c
  · have e : tellQ c L x = keepQ L (x.1, x.2.1, x.2.2.1, x.2.2.2 + 1) := by unfold tellQ; rw [if_pos ht]
    rw [e]
    refine ⟨fun y hy => ?_, fun k hk => ?_⟩
    · rcases (insQ_mem _ _ _).1 hy with rfl | hy
      · refine ⟨?_, ht⟩
        unfold decW
        rw [if_pos rfl, h1]
        simp only
        omega
      · obtain ⟨a, b⟩ := (lessQ_mem _ _ _).1 hy
        exact other y a b
    · have hne : k ≠ x.1 := fun e => hk _ ((insQ_mem _ _ _).2 (Or.inl rfl)) e.symm
      unfold decW
      rw [if_neg hne]
      refine h.none_ k fun y hy e => ?_
      exact hk y ((insQ_mem _ _ _).2 (Or.inr ((lessQ_mem _ _ _).2 ⟨hy, by rw [e]; exact hne⟩))) e
  · have e : tellQ c L x = lessQ L x.1 := by unfold tellQ; rw [if_neg ht]
    rw [e]
    refine ⟨fun y hy => ?_, fun k hk => ?_⟩
    · obtain ⟨a, b⟩ := (lessQ_mem _ _ _).1 hy
      exact other y a b
    · unfold decW
      by_cases hne : k = x.1
      · rw [if_pos hne, hne, h1]; omega
      · rw [if_neg hne]
        exact h.none_ k fun y hy e => hk y ((lessQ_mem _ _ _).2 ⟨hy, by rw [e]; exact hne⟩) e

/-- The sum of all that is still to be told. -/
def phi (c : Int) (L : List Itm) : Nat := (L.map fun x => (c - x.2.2.2).toNat).sum
theorem phi_ins (c : Int) (x : Itm) (L : List Itm) : phi c (insQ x L) = (c - x.2.2.2).toNat + phi c L := by
  unfold phi
  rw [((insQ_perm x L).map _).sum_nat]
  rfl
theorem phi_less {c : Int} {L : List Itm} (h : L.Pairwise (fun x y => x.1 ≠ y.1)) {x : Itm} (hx : x ∈ L) : phi c (lessQ L x.1) + (c - x.2.2.2).toNat = phi c L := by
  induction L with
  | nil => cases hx
  | cons y r ih =>
    rw [List.pairwise_cons] at h
    rcases List.mem_cons.1 hx with rfl | hx'
    · have e : lessQ (x :: r) x.1 = r := by
        unfold lessQ
        rw [List.filter_cons_of_neg (by simp)]
        exact lessQ_none fun y hy => Ne.symm (h.1 y hy)
      rw [e]
      simp [phi]
      omega
    · have hne := h.1 x hx'
      have e : lessQ (y :: r) x.1 = y :: lessQ r x.1 := List.filter_cons_of_pos (by simpa using hne)
      rw [e]
      have := ih h.2 hx'
      simp [phi] at this ⊢
      omega
theorem phi_tell {c : Int} {L : List Itm} (hL : Qi L) {x : Itm} (hx : x ∈ L) (ht : x.2.2.2 < c) : phi c (tellQ c L x) + 1 ≤ phi c L := by
  have h := phi_less (c := c) hL.nodes hx
  unfold tellQ
  split
  · unfold keepQ
    rw [phi_ins]
    simp only
    omega
  · omega
theorem phi_pos {c : Int} {L : List Itm} {W : Int → Int} (h : Inv c L W) (hne : L ≠ []) : 1 ≤ phi c L := by
  cases L with
  | nil => exact absurd rfl hne
  | cons x r =>
    have := (h.is x List.mem_cons_self).2
    simp [phi]
    omega

theorem tells_all {c : Int} (hc : c ≤ 192) (l : List Itm) : ∀ {L : List Itm} {W : Int → Int}, Inv c L W → Qi L → (∀ x ∈ l, x ∈ L) → l.Pairwise (fun x y => x.1 ≠ y.1) →
    Inv c (l.foldl (tellQ c) L) (decs W l) ∧ phi c (l.foldl (tellQ c) L) + l.length ≤ phi c L := by
  induction l with
  | nil => intro L W h _ _ _; exact ⟨h, Nat.le_refl _⟩
  | cons x r ih =>
    intro L W h hL hx hp
    rw [List.pairwise_cons] at hp
    have hx0 := hx x List.mem_cons_self
    obtain ⟨h1, h2⟩ := ih (h.tell hx0) (hL.tell hc (hL.ok x hx0)) (fun y hy => tell_mem (hx y (List.mem_cons_of_mem _ hy)) (Ne.symm (hp.1 y hy))) hp.2
    refine ⟨h1, ?_⟩
    have h3 := phi_tell (c := c) hL hx0 (h.is x hx0).2
    show phi c (r.foldl (tellQ c) (tellQ c L x)) + (r.length + 1) ≤ _
    omega
theorem decs_snoc (W : Int → Int) (l : List Itm) (x : Itm) : decs W (l ++ [x]) = decW (decs W l) x.1 := by
  unfold decs; rw [List.foldl_append]; rfl
theorem decs_other (l : List Itm) : ∀ (W : Int → Int) (k : Int), (∀ x ∈ l, x.1 ≠ k) → decs W l k = W k := by
  induction l with
  | nil => intro W k _; rfl
  | cons x r ih =>
    intro W k h
    show decs (decW W x.1) r k = W k
    rw [ih _ _ fun y hy => h y (List.mem_cons_of_mem _ hy)]
    unfold decW
    rw [if_neg (fun e => h x List.mem_cons_self e.symm)]
theorem decs_at {l : List Itm} (h : l.Pairwise (fun x y => x.1 ≠ y.1)) (W : Int → Int) {i : Nat} (hi : i < l.length) : decs W (l.take i) l[i].1 = W l[i].1 := by
  refine decs_other _ _ _ fun x hx e => ?_
  obtain ⟨j, hj, rfl⟩ := List.mem_iff_getElem.1 hx
  rw [List.getElem_take] at e
  have hj' : j < i := by rw [List.length_take] at hj; omega
  exact List.pairwise_iff_getElem.1 h j i (by omega) hi hj' e

/-- While rumors are put: none was told. -/
structure Fresh (L : List Itm) : Prop where
  is : ∀ x ∈ L, x = (x.1, 1, 0, 0)
theorem Fresh.nil : Fresh [] := ⟨fun _ h => by cases h⟩
theorem phi_fresh {c : Int} {L : List Itm} (h : Fresh L) : phi c L = L.length * c.toNat := by
  obtain ⟨h⟩ := h
  induction L with
  | nil => simp [phi]
  | cons x r ih =>
    have e := h x List.mem_cons_self
    have := ih fun y hy => h y (List.mem_cons_of_mem _ hy)
    have e2 : x.2.2.2 = 0 := by rw [e]
    simp only [phi, List.map_cons, List.sum_cons, List.length_cons] at this ⊢
    rw [this, e2, Nat.add_mul]
    simp
    omega
/-- One more is put. -/
theorem put_fresh {c : Int} (hc : 1 ≤ c) {L : List Itm} {W : Int → Int} (hI : Inv c L W) (hF : Fresh L) (hl : L.length ≤ 31) {k : Int} (h0 : 0 ≤ k) (h1 : k < 64) :
    Inv c (putQ L (k, 1, 0)) (setW W k c) ∧ Fresh (putQ L (k, 1, 0)) ∧ (putQ L (k, 1, 0)).length ≤ L.length + 1 := by
  have hm : mayS k 0 = true := mayS_mk h0 h1 (by decide) (by decide)
  by_cases hk : ∃ x ∈ L, x.1 = k
  · obtain ⟨x, hx, rfl⟩ := hk
    have hs : staleQ L (x.1, 1, 0) = true := by
      refine List.any_eq_true.2 ⟨x, hx, ?_⟩
      have e := hF.is x hx
      have e1 : x.2.1 = 1 := by rw [e]
      have e2 : x.2.2.1 = 0 := by rw [e]
      simp [e1, e2, newerS]
    have e : putQ L (x.1, 1, 0) = L := by simp [putQ, hm, hs]
    rw [e]
    refine ⟨⟨fun y hy => ?_, fun k' hk' => ?_⟩, hF, by omega⟩
    · unfold setW
      have ey := hF.is y hy
      have e1 : y.2.2.2 = 0 := by rw [ey]
      by_cases hy2 : y.1 = x.1
      · rw [if_pos hy2, e1]; omega
      · rw [if_neg hy2]; exact hI.is y hy
    · unfold setW
      rw [if_neg (fun e => hk' x hx e.symm)]
      exact hI.none_ k' hk'
  · have hk' : ∀ x ∈ L, x.1 ≠ k := fun x hx e => hk ⟨x, hx, e⟩
    have hs : staleQ L (k, 1, 0) = false := by
      unfold staleQ
      rw [List.any_eq_false]
      intro x hx
      simp [hk' x hx]
    have e : putQ L (k, 1, 0) = insQ (k, 1, 0, 0) L := by
      have e1 : keepQ L (k, 1, 0, 0) = insQ (k, 1, 0, 0) L := by unfold keepQ; rw [lessQ_none hk']
      simp [putQ, hm, hs, updI, e1]
      exact List.take_of_length_le (by rw [insQ_length]; omega)
    rw [e]
    refine ⟨⟨fun y hy => ?_, fun k2 hk2 => ?_⟩, ⟨fun y hy => ?_⟩, by rw [insQ_length]; omega⟩
    · rcases (insQ_mem _ _ _).1 hy with rfl | hy
      · unfold setW; simp; omega
      · unfold setW; rw [if_neg (hk' y hy)]; exact hI.is y hy
    · have hne : k2 ≠ k := fun e => hk2 _ ((insQ_mem _ _ _).2 (Or.inl rfl)) e.symm
      unfold setW
      rw [if_neg hne]
      exact hI.none_ k2 fun y hy => hk2 y ((insQ_mem _ _ _).2 (Or.inr hy))
    · rcases (insQ_mem _ _ _).1 hy with rfl | hy
      · rfl
      · exact hF.is y hy
theorem cap_byte {n : Int} (h1 : n ≤ 255) : 1 ≤ capS n ∧ capS n ≤ 24 := by
  have h2 := cap_mono (a := n) (b := 255) h1 (by decide)
  have h3 : capS 255 = 24 := by decide
  have h4 := (cap_range n (by omega)).1
  omega
end Go.Proofs.Ytagdacfgpgcbcaa
