/-
  Mathematics of the reference's roll: a list of what is known, in the order in which it came.
-/
import Derived.Test.YtkodeahhckibmaaDoorLvm
namespace Go.Proofs.YtkodeahhckibmaaDoor
open Go.RowKit

/-- The first one of a node. -/
def getK (K : List Upd) (n : Int) : Option Upd := K.find? fun u => u.n == n
def tabK (K : List Upd) : Tab := fun j => getK K j
/-- What is known with u put in. -/
def putK : List Upd → Upd → List Upd
  | [], u => [u]
  | x :: r, u => if x.n == u.n then u :: r else x :: putK r u
theorem getK_put (K : List Upd) (u : Upd) (n : Int) : getK (putK K u) n = if n = u.n then some u else getK K n := by
  induction K with
  | nil =>
    unfold putK getK
    rw [List.find?_cons]
    by_cases h : n = u.n
    · subst h; simp
    · have : (u.n == n) = false := by simp; omega
      rw [this, if_neg h]
  | cons x r ih =>
    unfold putK
    cases hx : (x.n == u.n)
    · simp only [Bool.false_eq_true, if_false]
      unfold getK at ih ⊢
      rw [List.find?_cons, List.find?_cons, ih]
      have hx' : x.n ≠ u.n := by simpa using hx
      cases hxn : (x.n == n)
      · rfl
      · have : n ≠ u.n := by
          have : x.n = n := by simpa using hxn
          omega
        simp [this]
    · simp only [if_true]
      have hx' : x.n = u.n := by simpa using hx
      unfold getK
      rw [List.find?_cons, List.find?_cons, hx']
      by_cases h : n = u.n
      · subst h; simp
      · have : (u.n == n) = false := by simp; omega
        rw [this, if_neg h]
theorem tabK_put (K : List Upd) (u : Upd) {j : Nat} (h : u.n = j) : tabK (putK K u) = (tabK K).set j u := by
  funext i
  unfold tabK
  rw [getK_put]
  by_cases e : i = j
  · subst e; rw [if_pos h.symm, Tab.set_same]
  · rw [if_neg (by omega), Tab.set_other _ _ e]
theorem putK_mem {K : List Upd} {u x : Upd} (h : x ∈ putK K u) : x = u ∨ x ∈ K := by
  induction K with
  | nil => unfold putK at h; exact Or.inl (List.mem_singleton.1 h)
  | cons y r ih =>
    unfold putK at h
    split at h
    · rcases List.mem_cons.1 h with h | h
      · exact Or.inl h
      · exact Or.inr (List.mem_cons_of_mem _ h)
    · rcases List.mem_cons.1 h with h | h
      · exact Or.inr (by rw [h]; exact List.mem_cons_self ..)
      · rcases ih h with h | h
        · exact Or.inl h
        · exact Or.inr (List.mem_cons_of_mem _ h)
/-- No node twice. -/
def Nod (K : List Upd) : Prop := K.Pairwise fun u v => u.n ≠ v.n
theorem nod_put {K : List Upd} (h : Nod K) (u : Upd) : Nod (putK K u) := by
  unfold Nod at *
  induction K with
  | nil => exact List.pairwise_singleton _ _
  | cons x r ih =>
    obtain ⟨h1, h2⟩ := List.pairwise_cons.1 h
    unfold putK
    split
    · rename_i hx
      have hx' : x.n = u.n := by simpa using hx
      exact List.pairwise_cons.2 ⟨fun y hy => by rw [← hx']; exact h1 y hy, h2⟩
    · rename_i hx
      have hx' : x.n ≠ u.n := by simpa using hx
      refine List.pairwise_cons.2 ⟨fun y hy => ?_, ih h2⟩
      rcases putK_mem hy with rfl | hy
      · exact hx'
      · exact h1 y hy
theorem putK_length (K : List Upd) (u : Upd) : (putK K u).length ≤ K.length + 1 := by
  induction K with
  | nil => exact Nat.le_refl _
  | cons x r ih =>
    unfold putK
    split
    · simp
    · simp only [List.length_cons]; omega
/-- Where the first one of a node stands. -/
theorem putK_at (K : List Upd) (u : Upd) {j : Nat} (hj : j < K.length) (hn : K[j].n = u.n) (h : ∀ i, i < j → ∀ hi : i < K.length, K[i].n ≠ u.n) : putK K u = K.set j u := by
  induction K generalizing j with
  | nil => cases hj
  | cons x r ih =>
    unfold putK
    cases j with
    | zero =>
      have : x.n = u.n := hn
      rw [this]
      simp
    | succ j =>
      have hx := h 0 (by omega) (by simp)
      have hx' : (x.n == u.n) = false := by simpa using hx
      rw [hx']
      simp only [Bool.false_eq_true, if_false, List.set_cons_succ]
      rw [ih (j := j) (by simpa using hj) (by simpa using hn) (fun i hi hi' => by have := h (i + 1) (by omega) (by simpa using hi'); simpa using this)]
theorem putK_end (K : List Upd) (u : Upd) (h : ∀ x ∈ K, x.n ≠ u.n) : putK K u = K ++ [u] := by
  induction K with
  | nil => rfl
  | cons x r ih =>
    unfold putK
    have hx' : (x.n == u.n) = false := by simpa using h x (List.mem_cons_self ..)
    rw [hx']
    simp only [Bool.false_eq_true, if_false, List.cons_append]
    rw [ih (fun y hy => h y (List.mem_cons_of_mem _ hy))]
theorem getK_some {K : List Upd} {n : Int} {u : Upd} (h : getK K n = some u) : u ∈ K ∧ u.n = n := by
  unfold getK at h
  exact ⟨List.mem_of_find?_eq_some h, by simpa using List.find?_some h⟩
theorem getK_of {K : List Upd} (hK : Nod K) {u : Upd} (h : u ∈ K) : getK K u.n = some u := by
  unfold Nod at hK
  induction K with
  | nil => cases h
  | cons x r ih =>
    obtain ⟨h1, h2⟩ := List.pairwise_cons.1 hK
    unfold getK at ih ⊢
    rw [List.find?_cons]
    rcases List.mem_cons.1 h with rfl | h
    · simp
    · have : (x.n == u.n) = false := by simpa using h1 u h
      rw [this]
      exact ih h2 h
/-- What the reference tells, at any number, is what a roll does. -/
theorem getK_get {k : Nat} {K : List Upd} (hI : Inv k (tabK K)) (hK : Nod K) (hn : ∀ u ∈ K, 0 ≤ u.n) (n : Int) : getK K n = getS (tabK K) n := by
  unfold getS
  split
  · rename_i h
    unfold tabK
    rw [show ((n.toNat : Nat) : Int) = n by omega]
  · rename_i h
    cases hg : getK K n with
    | none => rfl
    | some u =>
      obtain ⟨hu, hun⟩ := getK_some hg
      have h0 := hn u hu
      have : tabK K u.n.toNat = some u := by unfold tabK; rw [show ((u.n.toNat : Nat) : Int) = u.n by omega]; exact getK_of hK hu
      have := (may_iff u).1 (hI.may _ u this).1
      omega
/-- All that is known, in whatever order, has one band. -/
theorem bandK {k : Nat} {K : List Upd} (hI : Inv k (tabK K)) (hK : Nod K) (hn : ∀ u ∈ K, 0 ≤ u.n) : bandS K = bandS (allS (tabK K)) := by
  refine Bnd.eq_of_bits (bandS_lt _) (bandS_lt _) fun j hj => ?_
  rw [testBit_all hI hj, testBit_band]
  unfold liveAt
  cases h : tabK K j with
  | none =>
    rw [List.any_eq_false.2]
    · rfl
    · intro u hu
      have : u.n.toNat ≠ j := by
        intro e
        have : getK K u.n = some u := getK_of hK hu
        have h0 := hn u hu
        unfold tabK at h
        rw [show (j : Int) = u.n by omega, this] at h
        cases h
      simp [this]
  | some x =>
    obtain ⟨hx, hxn⟩ := getK_some (show getK K j = some x from h)
    simp only [Option.isSome_some, Bool.true_and, ud_some]
    have hnode : Bnd.nodeS x.n = true := (Bnd.nodeS_iff _).2 (by omega)
    cases hl : liveS x.s
    · rw [List.any_eq_false]
      intro u hu
      by_cases e : u.n.toNat = j
      · have h0 := hn u hu
        have : getK K u.n = some u := getK_of hK hu
        rw [show u.n = (j : Int) by omega] at this
        have e2 : some x = some u := (show getK K j = some x from h).symm.trans this
        cases e2
        simp [hl]
      · simp [e]
    · rw [List.any_eq_true]
      refine ⟨x, hx, ?_⟩
      rw [hl, hnode]
      simp
      omega

/-- A roll of the reference that may be. -/
structure Good (k : Nat) (K : List Upd) : Prop where
  nod : Nod K
  inv : Inv k (tabK K)
  pos : ∀ u ∈ K, 0 ≤ u.n
  len : K.length ≤ 64
theorem good_len {K : List Upd} (hK : Nod K) (hn : ∀ u ∈ K, 0 ≤ u.n ∧ u.n < 64) : K.length ≤ 64 := by
  have h1 : (K.map fun u => u.n.toNat).Nodup := by
    unfold List.Nodup
    rw [List.pairwise_map]
    refine List.Pairwise.imp_of_mem (fun {u v} hu hv h e => ?_) hK
    have := hn u hu
    have := hn v hv
    omega
  have h2 : (K.map fun u => u.n.toNat) ⊆ List.range 64 := by
    intro x hx
    obtain ⟨u, hu, rfl⟩ := List.mem_map.1 hx
    have := hn u hu
    exact List.mem_range.2 (by omega)
  have h3 : ∀ (n : Nat) (l : List Nat), l.Nodup → (∀ x ∈ l, x < n) → l.length ≤ n := by
    intro n
    induction n with
    | zero =>
      intro l _ h
      cases l with
      | nil => exact Nat.le_refl _
      | cons x r => have := h x (List.mem_cons_self ..); omega
    | succ n ih =>
      intro l hl h
      have := ih (l.erase n) (hl.erase n) (fun x hx => by
        have := (hl.mem_erase_iff).1 hx
        have := h x this.2
        omega)
      rw [List.length_erase] at this
      split at this <;> omega
  have := h3 64 _ h1 (fun x hx => List.mem_range.1 (h2 hx))
  simpa using this
theorem good_mk {k : Nat} {K : List Upd} (hK : Nod K) (hI : Inv k (tabK K)) (hn : ∀ u ∈ K, 0 ≤ u.n) : Good k K := by
  refine ⟨hK, hI, hn, good_len hK fun u hu => ⟨hn u hu, ?_⟩⟩
  have h0 := hn u hu
  have : tabK K u.n.toNat = some u := by unfold tabK; rw [show ((u.n.toNat : Nat) : Int) = u.n by omega]; exact getK_of hK hu
  exact ((may_iff u).1 (hI.may _ u this).1).2.1
theorem good_put {k : Nat} {K : List Upd} (h : Good k K) {u : Upd} {j : Nat} (hu : u.n = j) (hI : Inv k ((tabK K).set j u)) : Good k (putK K u) := by
  refine good_mk (nod_put h.nod u) (by rw [tabK_put K u hu]; exact hI) fun x hx => ?_
  rcases putK_mem hx with rfl | hx
  · omega
  · exact h.pos x hx
theorem tabK_new (k : Nat) : tabK [⟨k, 0, 0⟩] = newS k := by
  funext j
  unfold tabK getK newS
  rw [List.find?_cons]
  by_cases h : j = k
  · subst h; rw [Tab.set_same]; simp
  · have : ((k : Int) == (j : Int)) = false := by simp; omega
    rw [Tab.set_other _ _ h]
    simp only [this]
    rfl
theorem good_new {k : Nat} (hk : k < 64) : Good k [⟨k, 0, 0⟩] := good_mk (List.pairwise_singleton _ _) (by rw [tabK_new]; exact inv_new hk) fun u hu => by
  rw [List.mem_singleton.1 hu]
  dsimp only
  omega

/-- What is news, as the reference finds it. -/
theorem pick_filter (g : Tab) (b : Nat → Bool) (p : Upd → Bool) : ∀ n, (pickN g b n).filter p = pickN g (fun j => b j && p (ud (g j))) n := by
  intro n
  induction n with
  | zero => rfl
  | succ n ih =>
    simp only [pickN, List.filter_append, ih]
    congr 1
    by_cases hb : b n = true <;> by_cases h : p (ud (g n)) = true <;> simp [hb, h]
theorem eqU_iff (u v : Upd) : eqU u v = true ↔ u = v := by
  constructor
  · intro h
    simp [eqU] at h
    exact upd_eq h.1 h.2.1 h.2.2
  · rintro rfl; simp [eqU]
theorem news_ref {k : Nat} {f g : Tab} (hf : Inv k f) (hg : Inv k g) (hgr : Grow f g) : (allS g).filter (fun u => !(allS f).any fun v => eqU v u) = newsS f g 0 := by
  show _ = pickN g (fun j => neE (g j) (f j)) 64
  unfold allS
  rw [pick_filter]
  refine pick_ext _ _ _ _ 64 fun j hj => ⟨?_, rfl⟩
  have hyes : ∀ u, f j = some u → ((pickN f (fun j => (f j).isSome) 64).any fun v => eqU v u) = true := by
    intro u e
    rw [List.any_eq_true]
    exact ⟨u, mem_all hj e, (eqU_iff u u).2 rfl⟩
  have hno : ∀ u, g j = some u → f j ≠ some u → ((pickN f (fun j => (f j).isSome) 64).any fun v => eqU v u) = false := by
    intro u hu e
    have hun := (hg.may j u hu).2.1
    rw [List.any_eq_false]
    intro v hv
    obtain ⟨i, _, hi⟩ := all_mem (show v ∈ allS f from hv)
    have hvn := (hf.may i v hi).2.1
    intro h
    have : v = u := (eqU_iff v u).1 h
    subst this
    have : i = j := by omega
    subst this
    exact e hi
  cases hgj : g j with
  | none =>
    have : f j = none := by
      rcases hgr j with h | ⟨u, h, _⟩
      · rw [← h]; exact hgj
      · rw [hgj] at h; cases h
    rw [this]
    rfl
  | some u =>
    rw [ud_some]
    cases hfj : f j with
    | none => rw [hno u hgj (by rw [hfj]; exact fun e => by cases e)]; rfl
    | some v =>
      by_cases e : v = u
      · subst e; rw [hyes v hfj, ne_self]; rfl
      · have : neE (some u) (some v) = true := by
          cases h : neE (some u) (some v)
          · have := ne_not h
            cases this
            exact absurd rfl e
          · rfl
        rw [this, hno u hgj (by rw [hfj]; exact fun e' => e (Option.some.inj e'))]
        rfl
end Go.Proofs.YtkodeahhckibmaaDoor
