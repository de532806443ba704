/-
  Others; dead; what RollLive needs. Mathematics of who is live. Mathematics of the reference's roll: a list of what is known, in the order in which it came. The reference's roll behind a pointer: New, Get, Mine, All, Live.
-/
import Derived.Test.YtpoofjnfaijjjaaGreatDoorMRMat
import Derived.Test.YtpoofjnfaijjjaaGreatDoorMRBrf
import Derived.Test.YtpoofjnfaijjjaaGreatDoorMNRba
import Derived.Deep.RegionHeld3
namespace Go.Proofs.YtpoofjnfaijjjaaGreatDoor.Ro
open Go.RowKit
structure Ow (w0 : World) (p k : Nat) (f : Tab) (w : World) : Prop where
  roll : Rl p k f w
  tab : Bnd.Tab w
  below : Below w0.heap.size w0 w
section
variable {w0 : World} {p k : Nat} {f : Tab} {w w' : World}
theorem Ow.later (h : Ow w0 p k f w) (b : Below w.heap.size w w') : Ow w0 p k f w' := ⟨h.roll.below b, h.tab.below h.tab.lt b, h.below.trans (b.mono h.below.size)⟩
theorem Ow.drew (h : Ow w0 p k f w) : Ow w0 p k f w.drew := h.later (below_drewN _ _ 1)
theorem Ow.cme (h : Ow w0 p k f w) : w.cell? ⟨p, 0, none⟩ = some (.int .i64 k) := h.roll.cme
end
def othS (k : Nat) (f : Tab) : List Int := Bnd.lst (Bnd.lessS (bandS (allS f)) k)
theorem rd_row {B : Nat} {v : Value} {l : List Int} {w : World} (h : w.ownsRow B 3 1 v l.length (l.map (Value.int .i64))) : Rn.Rd .i64 v l w := by
  rcases h.2 with ⟨rfl, h0⟩ | ⟨g, cap, cur, hv, hb, hg, h1, h2, h3, h4⟩
  · exact ⟨none, 0, by rw [h0], by omega, by unfold maxLen; omega, fun _ => rfl, Or.inl h0⟩
  · refine ⟨some ⟨g, 0, none⟩, cap, hv, h1, h2, (fun e => by cases e), Or.inr ⟨g, 0, rfl, fun j hj => ?_⟩⟩
    have := World.ownsRow.cells h (g := g) (by rw [hv]; rfl) j (.int .i64 l[j]) (by simp [List.getElem?_eq_getElem hj])
    rw [add_off] at this
    exact this
set_option maxRecDepth 100000 in
set_option maxHeartbeats 1000000 in
theorem others_any (p k : Nat) (f : Tab) (w : World) (hR : Rl p k f w) (hT : Bnd.Tab w) :
    Calls Tryz.prog 88 #[.pointer (some ⟨p, 0, none⟩)] w fun e w' => (∃ v, e = .returned v ∧ Rn.Rd .i64 v (othS k f) w' ∧ ∀ g, v.ownBlock = some g → w.heap.size ≤ g) ∧ Below w.heap.size w w' := by
  have hS : Ow w p k f w := ⟨hR, hT, Below.refl _ _⟩
  unfold othS
  have hL := fun w' (h : Rl p k f w') => rlive_any p k f w' h
  have hlt := bandS_lt (allS f)
  generalize bandS (allS f) = b at *
  have hlt2 := Bnd.lessS_lt hlt (k : Int)
  go_enter Tryz.func88, Tryz.ntmps88
  go_wp2_with fail
  go_region_held3 (fun w' => w'.cell? ⟨p, 0, none⟩ = some (.int .i64 k)) (first | exact Ow.cme hS | exact Ow.cme (Ow.drew hS)) ((first
    | (go_at_call 64; refine (hL _ (by first | exact Ow.roll hS | exact Ow.roll (Ow.drew hS))).mono ?_; rintro e w4 ⟨rfl, hb4⟩; first | have hS := Ow.later hS hb4 | have hS := Ow.later (Ow.drew hS) hb4)
    | (go_at_call 135; refine (Bnd.less_any _ hlt _ _).mono ?_; rintro e w5 ⟨rfl, rfl⟩)
    | (go_at_call 134; refine (Bnd.list_any _ hlt2 _ (by first | exact Ow.tab hS | exact Ow.tab (Ow.drew hS))).mono ?_; rintro e w6 ⟨v6, rfl, hv6, hb6⟩; have hg6 := fun g hg => Nat.le_trans (Ow.below hS).size (World.ownsRow.lt hv6 g hg).1; have hv6 := rd_row hv6; first | have hS := Ow.later hS hb6 | have hS := Ow.later (Ow.drew hS) hb6)))
  all_goals go_wp2_with fail
  all_goals go_ret
  all_goals exact ⟨⟨v6, rfl, hv6, hg6⟩, hS.below⟩
theorem testBit_band (l : List Upd) (j : Nat) : (bandS l).testBit j = l.any (fun u => liveS u.s && (Bnd.nodeS u.n && decide (u.n.toNat = j))) := by
  unfold bandS
  have : ∀ b : Nat, (l.foldl (fun b u => if liveS u.s then Bnd.withS b u.n else b) b).testBit j = (b.testBit j || l.any (fun u => liveS u.s && (Bnd.nodeS u.n && decide (u.n.toNat = j)))) := by
    induction l with
    | nil => intro b; simp
    | cons u l ih =>
      intro b
      rw [List.foldl_cons, ih, List.any_cons]
      cases h : liveS u.s
      · simp
      · simp only [if_true, Bool.true_and]
        rw [Bnd.testBit_withS, Bool.or_assoc]
  rw [this 0, Nat.zero_testBit, Bool.false_or]
def liveAt (f : Tab) (j : Nat) : Bool := (f j).isSome && liveS (ud (f j)).s
theorem mem_all {f : Tab} {j : Nat} {u : Upd} (hj : j < 64) (h : f j = some u) : u ∈ allS f := by
  have : ∀ n, j < n → u ∈ pickN f (fun j => (f j).isSome) n := by
    intro n
    induction n with
    | zero => intro h; omega
    | succ n ih =>
      intro hn
      simp only [pickN]
      by_cases e : j = n
      · subst e
        simp [h, ud]
      · exact List.mem_append_left _ (ih (by omega))
  exact this 64 hj
theorem testBit_all {k : Nat} {f : Tab} (hI : Inv k f) {j : Nat} (hj : j < 64) : (bandS (allS f)).testBit j = liveAt f j := by
  rw [testBit_band]
  cases h : liveAt f j
  · rw [List.any_eq_false]
    intro u hu
    obtain ⟨i, hi, hf⟩ := all_mem hu
    obtain ⟨_, h2, _⟩ := hI.may i u hf
    by_cases e : u.n.toNat = j
    · have : i = j := by omega
      subst this
      unfold liveAt at h
      rw [hf, ud_some] at h
      simp at h
      simp [h]
    · simp [e]
  · unfold liveAt at h
    rw [Bool.and_eq_true] at h
    obtain ⟨u, hu⟩ := Option.isSome_iff_exists.1 h.1
    have h2 := h.2
    rw [hu, ud_some] at h2
    rw [List.any_eq_true]
    obtain ⟨h3, h4, _⟩ := hI.may j u hu
    refine ⟨u, mem_all hj hu, ?_⟩
    have : Bnd.nodeS u.n = true := (Bnd.nodeS_iff _).2 (by omega)
    rw [h2, this]
    simp
    omega
def getK (K : List Upd) (n : Int) : Option Upd := K.find? fun u => u.n == n
def tabK (K : List Upd) : Tab := fun j => getK K j
def putK : List Upd → Upd → List Upd
  | [], u => [u]
  | x :: r, u => if x.n == u.n then u :: r else x :: putK r u
theorem getK_put (K : List Upd) (u : Upd) (n : Int) : getK (putK K u) n = if n = u.n then some u else getK K n := by
  induction K with
  | nil =>
    unfold putK getK
    rw [List.find?_cons]
    by_cases h : n = u.n
    · subst h; simp
    · have : (u.n == n) = false := by simp; omega
      rw [this, if_neg h]
  | cons x r ih =>
    unfold putK
    cases hx : (x.n == u.n)
    · simp only [Bool.false_eq_true, if_false]
      unfold getK at ih ⊢
      rw [List.find?_cons, List.find?_cons, ih]
      have hx' : x.n ≠ u.n := by simpa using hx
      cases hxn : (x.n == n)
      · rfl
      · have : n ≠ u.n := by
          have : x.n = n := by simpa using hxn
          omega
        simp [this]
    · simp only [if_true]
      have hx' : x.n = u.n := by simpa using hx
      unfold getK
      rw [List.find?_cons, List.find?_cons, hx']
      by_cases h : n = u.n
      · subst h; simp
      · have : (u.n == n) = false := by simp; omega
        rw [this, if_neg h]
theorem tabK_put (K : List Upd) (u : Upd) {j : Nat} (h : u.n = j) : tabK (putK K u) = (tabK K).set j u := by
  funext i
  unfold tabK
  rw [getK_put]
  by_cases e : i = j
  · subst e; rw [if_pos h.symm, Tab.set_same]
  · rw [if_neg (by omega), Tab.set_other _ _ e]
theorem putK_mem {K : List Upd} {u x : Upd} (h : x ∈ putK K u) : x = u ∨ x ∈ K := by
  induction K with
  | nil => unfold putK at h; exact Or.inl (List.mem_singleton.1 h)
  | cons y r ih =>
    unfold putK at h
    split at h
    · rcases List.mem_cons.1 h with h | h
      · exact Or.inl h
      · exact Or.inr (List.mem_cons_of_mem _ h)
    · rcases List.mem_cons.1 h with h | h
      · exact Or.inr (by rw [h]; exact List.mem_cons_self ..)
      · rcases ih h with h | h
        · exact Or.inl h
        · exact Or.inr (List.mem_cons_of_mem _ h)
def Nod (K : List Upd) : Prop := K.Pairwise fun u v => u.n ≠ v.n
theorem nod_put {K : List Upd} (h : Nod K) (u : Upd) : Nod (putK K u) := by
  unfold Nod at *
  induction K with
  | nil => exact List.pairwise_singleton _ _
  | cons x r ih =>
    obtain ⟨h1, h2⟩ := List.pairwise_cons.1 h
    unfold putK
    split
    · rename_i hx
      have hx' : x.n = u.n := by simpa using hx
      exact List.pairwise_cons.2 ⟨fun y hy => by rw [← hx']; exact h1 y hy, h2⟩
    · rename_i hx
      have hx' : x.n ≠ u.n := by simpa using hx
      refine List.pairwise_cons.2 ⟨fun y hy => ?_, ih h2⟩
      rcases putK_mem hy with rfl | hy
      · exact hx'
      · exact h1 y hy
theorem putK_at (K : List Upd) (u : Upd) {j : Nat} (hj : j < K.length) (hn : K[j].n = u.n) (h : ∀ i, i < j → ∀ hi : i < K.length, K[i].n ≠ u.n) : putK K u = K.set j u := by
  induction K generalizing j with
  | nil => cases hj
  | cons x r ih =>
    unfold putK
    cases j with
    | zero =>
      have : x.n = u.n := hn
      rw [this]
      simp
    | succ j =>
      have hx := h 0 (by omega) (by simp)
      have hx' : (x.n == u.n) = false := by simpa using hx
      rw [hx']
      simp only [Bool.false_eq_true, if_false, List.set_cons_succ]
      rw [ih (j := j) (by simpa using hj) (by simpa using hn) (fun i hi hi' => by have := h (i + 1) (by omega) (by simpa using hi'); simpa using this)]
theorem putK_end (K : List Upd) (u : Upd) (h : ∀ x ∈ K, x.n ≠ u.n) : putK K u = K ++ [u] := by
  induction K with
  | nil => rfl
  | cons x r ih =>
    unfold putK
    have hx' : (x.n == u.n) = false := by simpa using h x (List.mem_cons_self ..)
    rw [hx']
    simp only [Bool.false_eq_true, if_false, List.cons_append]
    rw [ih (fun y hy => h y (List.mem_cons_of_mem _ hy))]
theorem getK_some {K : List Upd} {n : Int} {u : Upd} (h : getK K n = some u) : u ∈ K ∧ u.n = n := by
  unfold getK at h
  exact ⟨List.mem_of_find?_eq_some h, by simpa using List.find?_some h⟩
theorem getK_of {K : List Upd} (hK : Nod K) {u : Upd} (h : u ∈ K) : getK K u.n = some u := by
  unfold Nod at hK
  induction K with
  | nil => cases h
  | cons x r ih =>
    obtain ⟨h1, h2⟩ := List.pairwise_cons.1 hK
    unfold getK at ih ⊢
    rw [List.find?_cons]
    rcases List.mem_cons.1 h with rfl | h
    · simp
    · have : (x.n == u.n) = false := by simpa using h1 u h
      rw [this]
      exact ih h2 h
theorem getK_get {k : Nat} {K : List Upd} (hI : Inv k (tabK K)) (hK : Nod K) (hn : ∀ u ∈ K, 0 ≤ u.n) (n : Int) : getK K n = getS (tabK K) n := by
  unfold getS
  split
  · rename_i h
    unfold tabK
    rw [show ((n.toNat : Nat) : Int) = n by omega]
  · rename_i h
    cases hg : getK K n with
    | none => rfl
    | some u =>
      obtain ⟨hu, hun⟩ := getK_some hg
      have h0 := hn u hu
      have : tabK K u.n.toNat = some u := by unfold tabK; rw [show ((u.n.toNat : Nat) : Int) = u.n by omega]; exact getK_of hK hu
      have := (may_iff u).1 (hI.may _ u this).1
      omega
theorem bandK {k : Nat} {K : List Upd} (hI : Inv k (tabK K)) (hK : Nod K) (hn : ∀ u ∈ K, 0 ≤ u.n) : bandS K = bandS (allS (tabK K)) := by
  refine Bnd.eq_of_bits (bandS_lt _) (bandS_lt _) fun j hj => ?_
  rw [testBit_all hI hj, testBit_band]
  unfold liveAt
  cases h : tabK K j with
  | none =>
    rw [List.any_eq_false.2]
    · rfl
    · intro u hu
      have : u.n.toNat ≠ j := by
        intro e
        have : getK K u.n = some u := getK_of hK hu
        have h0 := hn u hu
        unfold tabK at h
        rw [show (j : Int) = u.n by omega, this] at h
        cases h
      simp [this]
  | some x =>
    obtain ⟨hx, hxn⟩ := getK_some (show getK K j = some x from h)
    simp only [Option.isSome_some, Bool.true_and, ud_some]
    have hnode : Bnd.nodeS x.n = true := (Bnd.nodeS_iff _).2 (by omega)
    cases hl : liveS x.s
    · rw [List.any_eq_false]
      intro u hu
      by_cases e : u.n.toNat = j
      · have h0 := hn u hu
        have : getK K u.n = some u := getK_of hK hu
        rw [show u.n = (j : Int) by omega] at this
        have e2 : some x = some u := (show getK K j = some x from h).symm.trans this
        cases e2
        simp [hl]
      · simp [e]
    · rw [List.any_eq_true]
      refine ⟨x, hx, ?_⟩
      rw [hl, hnode]
      simp
      omega
structure Good (k : Nat) (K : List Upd) : Prop where
  nod : Nod K
  inv : Inv k (tabK K)
  pos : ∀ u ∈ K, 0 ≤ u.n
  len : K.length ≤ 64
theorem good_len {K : List Upd} (hK : Nod K) (hn : ∀ u ∈ K, 0 ≤ u.n ∧ u.n < 64) : K.length ≤ 64 := by
  have h1 : (K.map fun u => u.n.toNat).Nodup := by
    unfold List.Nodup
    rw [List.pairwise_map]
    refine List.Pairwise.imp_of_mem (fun {u v} hu hv h e => ?_) hK
    have := hn u hu
    have := hn v hv
    omega
  have h2 : (K.map fun u => u.n.toNat) ⊆ List.range 64 := by
    intro x hx
    obtain ⟨u, hu, rfl⟩ := List.mem_map.1 hx
    have := hn u hu
    exact List.mem_range.2 (by omega)
  have h3 : ∀ (n : Nat) (l : List Nat), l.Nodup → (∀ x ∈ l, x < n) → l.length ≤ n := by
    intro n
    induction n with
    | zero =>
      intro l _ h
      cases l with
      | nil => exact Nat.le_refl _
      | cons x r => have := h x (List.mem_cons_self ..); omega
    | succ n ih =>
      intro l hl h
      have := ih (l.erase n) (hl.erase n) (fun x hx => by
        have := (hl.mem_erase_iff).1 hx
        have := h x this.2
        omega)
      rw [List.length_erase] at this
      split at this <;> omega
  have := h3 64 _ h1 (fun x hx => List.mem_range.1 (h2 hx))
  simpa using this
theorem good_mk {k : Nat} {K : List Upd} (hK : Nod K) (hI : Inv k (tabK K)) (hn : ∀ u ∈ K, 0 ≤ u.n) : Good k K := by
  refine ⟨hK, hI, hn, good_len hK fun u hu => ⟨hn u hu, ?_⟩⟩
  have h0 := hn u hu
  have : tabK K u.n.toNat = some u := by unfold tabK; rw [show ((u.n.toNat : Nat) : Int) = u.n by omega]; exact getK_of hK hu
  exact ((may_iff u).1 (hI.may _ u this).1).2.1
theorem good_put {k : Nat} {K : List Upd} (h : Good k K) {u : Upd} {j : Nat} (hu : u.n = j) (hI : Inv k ((tabK K).set j u)) : Good k (putK K u) := by
  refine good_mk (nod_put h.nod u) (by rw [tabK_put K u hu]; exact hI) fun x hx => ?_
  rcases putK_mem hx with rfl | hx
  · omega
  · exact h.pos x hx
theorem tabK_new (k : Nat) : tabK [⟨k, 0, 0⟩] = newS k := by
  funext j
  unfold tabK getK newS
  rw [List.find?_cons]
  by_cases h : j = k
  · subst h; rw [Tab.set_same]; simp
  · have : ((k : Int) == (j : Int)) = false := by simp; omega
    rw [Tab.set_other _ _ h]
    simp only [this]
    rfl
theorem good_new {k : Nat} (hk : k < 64) : Good k [⟨k, 0, 0⟩] := good_mk (List.pairwise_singleton _ _) (by rw [tabK_new]; exact inv_new hk) fun u hu => by
  rw [List.mem_singleton.1 hu]
  dsimp only
  omega
structure Rf (B q k : Nat) (v : Value) (K : List Upd) (w : World) : Prop where
  heap : w.heap[q]? = some (.cells #[.int .i64 k, v] 152 (0, 0))
  row : Own B v K w
  ne : v.ownBlock ≠ some q
section
variable {B q k : Nat} {v : Value} {K : List Upd} {w w' : World}
theorem Rf.c0 (h : Rf B q k v K w) : w.cell? ⟨q, 0, none⟩ = some (.int .i64 k) := by simp [World.cell?, h.heap]
theorem Rf.c1 (h : Rf B q k v K w) : w.cell? ⟨q, 1, none⟩ = some v := by simp [World.cell?, h.heap]
theorem Rf.lt (h : Rf B q k v K w) : q < w.heap.size := (Array.getElem?_eq_some_iff.1 h.heap).1
theorem Rf.below (h : Rf B q k v K w) (b : Below w.heap.size w w') : Rf B q k v K w' := ⟨(b.block q h.lt).trans h.heap, h.row.below b, h.ne⟩
end
theorem Own.at0 {B g n cap : Nat} {l : List Upd} {w : World} (h : Own B (.slice (some ⟨g, 0, none⟩) n cap) l w) {j : Nat} (hj : j < l.length) :
    w.cell? ⟨g, j * 3, none⟩ = some (.int .i64 l[j].n) ∧ w.cell? ⟨g, j * 3 + 1, none⟩ = some (.int .u64 l[j].i) ∧ w.cell? ⟨g, j * 3 + 2, none⟩ = some (.int .i64 l[j].s) := by
  obtain ⟨_, _, e, _, _, e3⟩ := h.ru
  cases e
  rcases e3 with e3 | ⟨g', off', e, e3⟩
  · omega
  · cases e
    simpa using e3 j hj
theorem Own.ex {B n cap : Nat} {a : Option Addr} {l : List Upd} {w : World} (h : Own B (.slice a n cap) l w) (hl : 0 < l.length) : ∃ g, a = some ⟨g, 0, none⟩ := by
  rcases h.2 with ⟨_, h0⟩ | ⟨g, _, _, e, _⟩
  · omega
  · exact ⟨g, by simpa using (Value.slice.inj e).1⟩
set_option maxHeartbeats 1000000 in
theorem rnew_none (me : Int) (h : ¬ (0 ≤ me ∧ me < 64)) (w : World) : Calls Tryz.prog 34 #[.int .i64 me] w fun e w' => e = .returned (.pointer none) ∧ Below w.heap.size w w' := by
  have h0 : me < 0 ∨ 64 ≤ me := by omega
  clear h
  go_enter Tryz.func34, Tryz.ntmps34
  go_wp2_with fail
  all_goals go_ret
  all_goals exact ⟨rfl, Below.refl _ _⟩
theorem rf_new (k : Nat) (w : World) : Rf w.heap.size (w.heap.size + 1) k (.slice (some ⟨w.heap.size, 0, none⟩) 1 1) [⟨k, 0, 0⟩] ((w.alloc (.cells #[.int .i64 k, .int .u64 0, .int .i64 0] 39)).alloc (.cells #[.int .i64 k, .slice (some ⟨w.heap.size, 0, none⟩) 1 1] 152)) := by
  refine ⟨?_, ?_, ?_⟩
  · have := heap_alloc_new (w.alloc (.cells #[.int .i64 k, .int .u64 0, .int .i64 0] 39)) (.cells #[.int .i64 k, .slice (some ⟨w.heap.size, 0, none⟩) 1 1] 152)
    simpa using this
  · refine Own.below ?_ (below_alloc _ _)
    exact ⟨rfl, Or.inr ⟨w.heap.size, 1, #[.int .i64 k, .int .u64 0, .int .i64 0], rfl, Nat.le_refl _, heap_alloc_new _ _, Nat.le_refl _, by unfold maxLen; omega, rfl, rfl⟩⟩
  · simp [Value.ownBlock]
set_option maxHeartbeats 1000000 in
theorem rnew_some (k : Nat) (hk : k < 64) (w : World) : Calls Tryz.prog 34 #[.int .i64 k] w fun e w' => (∃ q, e = .returned (.pointer (some ⟨q, 0, none⟩)) ∧ w.heap.size ≤ q ∧ ∃ v, Rf w.heap.size q k v [⟨k, 0, 0⟩] w') ∧ Below w.heap.size w w' := by
  have h0 : ¬ (k : Int) < 0 := by omega
  have h1 : ¬ 64 ≤ (k : Int) := by omega
  have hR := rf_new k w
  have hb : Below w.heap.size w ((w.alloc (.cells #[.int .i64 k, .int .u64 0, .int .i64 0] 39)).alloc (.cells #[.int .i64 k, .slice (some ⟨w.heap.size, 0, none⟩) 1 1] 152)) := ((Below.refl _ _).alloc (Nat.le_refl _) _).alloc (by simp) _
  go_enter Tryz.func34, Tryz.ntmps34
  go_wp2_with fail
  go_ret
  exact ⟨⟨_, rfl, Nat.le_succ _, _, hR⟩, hb⟩
theorem getK_step {K : List Upd} {n : Int} {j : Nat} (hj : j < K.length) (h : getK (K.take j) n = none) : getK (K.take (j + 1)) n = if K[j].n == n then some K[j] else none := by
  unfold getK at *
  rw [List.take_add_one, List.getElem?_eq_getElem hj, List.find?_append, h]
  simp only [Option.toList_some, List.find?_cons, List.find?_nil, Option.none_or]
  cases (K[j].n == n) <;> rfl
theorem getK_first {K : List Upd} {n : Int} {j : Nat} (hj : j < K.length) (h : getK (K.take j) n = none) (hn : K[j].n = n) : getK K n = some K[j] := by
  have := getK_step hj h
  rw [show (K[j].n == n) = true by simpa using hn] at this
  unfold getK at *
  have h2 : List.find? (fun u : Upd => u.n == n) (K.take (j + 1) ++ K.drop (j + 1)) = some K[j] := by rw [List.find?_append, this]; rfl
  rw [List.take_append_drop] at h2
  exact h2
set_option maxRecDepth 100000 in
set_option maxHeartbeats 1000000 in
theorem rget_any (B q k : Nat) (v : Value) (K : List Upd) (n : Int) (w : World) (hl : K.length ≤ 1000000) (hR : Rf B q k v K w) :
    Calls Tryz.prog 55 #[.pointer (some ⟨q, 0, none⟩), .int .i64 n] w fun e w' => e = .returned (.tuple #[.agg #[.int .i64 (ud (getK K n)).n, .int .u64 (ud (getK K n)).i, .int .i64 (ud (getK K n)).s], .bool (getK K n).isSome]) ∧ Below w.heap.size w w' := by
  have ba := below_alloc w (.cells #[.int .i64 0, .int .u64 0, .int .i64 0] 39)
  have hR1 := hR.below ba
  have hB1 := Bx.new 39 0 0 0 w
  obtain ⟨r, HR⟩ : ∃ r, Hid (getK K n = r) := ⟨_, rfl⟩
  rw [HR.out]
  obtain ⟨a, cap, rfl, hc1, hc2, h3⟩ := hR.row.ru
  have hll : (K.length : Int) ≤ 1000000 := by omega
  have x1 := hR1.c1
  go_enter Tryz.func55, Tryz.ntmps55
  go_wp2_with fail
  generalize hw1 : w.alloc (.cells #[.int .i64 0, .int .u64 0, .int .i64 0] 39) = w1 at *
  clear hw1
  go_loopg [6] K.length (fun gk t6 wr => ∃ j : Nat, j + gk = K.length ∧ t6 = .int .i64 j ∧ Hid (getK (K.take j) n = none) ∧ wr = w1)
  case atStart => exact ⟨0, by omega, rfl, rfl, rfl⟩
  case round =>
    obtain ⟨j, hj, rfl, hno, rfl⟩ := hrel
    by_cases hlt : (j : Int) < K.length
    · have hj' : j < K.length := by omega
      have j0 : (0 : Int) ≤ j := by omega
      obtain ⟨g, rfl⟩ := hR1.row.ex (by omega)
      obtain ⟨c0, c1, c2⟩ := hR1.row.at0 hj'
      have hstep : Hid _ := getK_step hj' hno.out
      have hfirst := fun h => getK_first hj' hno.out h
      generalize K[j] = u at *
      cases hu : (u.n == n)
      case false =>
        have HS : Hid (getK (K.take (j + 1)) n = none) := by show _ = _; rw [hstep.out, hu]; rfl
        clear hstep hfirst
        go_wp2_with fail
        go_roundg (gk - 1)
        case rel => exact ⟨j + 1, by omega, by go_num, HS, rfl⟩
        case measure => omega
      case true =>
        have hr : r = some u := by rw [← HR.out]; exact hfirst (by simpa using hu)
        subst hr
        have y0 := hB1.c0
        have y1 := hB1.c1
        have y2 := hB1.c2
        have z0 := hB1.free 0
        have z1 := hB1.free 1
        have z2 := hB1.free 2
        have hE := hB1.set u.n u.i u.s
        have hbl := below_set3 ba (Nat.le_refl w.heap.size) (.int .i64 u.n) (.int .u64 u.i) (.int .i64 u.s)
        clear hstep hfirst
        go_wp2_with fail
        generalize World.setCell _ _ _ = w7 at *
        clear y0 y1 y2 z0 z1 z2 c0 c1 c2 x1
        have r0 := hE.c0
        have r1 := hE.c1
        have r2 := hE.c2
        refine bodyPost_ret (v := .tuple #[.agg #[.int .i64 u.n, .int .u64 u.i, .int .i64 u.s], .bool true]) ?_ rfl ⟨rfl, hbl⟩
        rw [results_cell_tmp rfl]
        go_simp
    · have hr : r = none := by rw [← HR.out, ← hno.out, List.take_of_length_le (by omega)]
      subst hr
      have y0 := hB1.c0
      have y1 := hB1.c1
      have y2 := hB1.c2
      have z0 := hB1.free 0
      have z1 := hB1.free 1
      have z2 := hB1.free 2
      have hE := hB1.set 0 0 0
      have hbl := below_set3 ba (Nat.le_refl w.heap.size) (.int .i64 0) (.int .u64 0) (.int .i64 0)
      go_wp2_with fail
      generalize World.setCell _ _ _ = w7 at *
      clear y0 y1 y2 z0 z1 z2 x1
      have r0 := hE.c0
      have r1 := hE.c1
      have r2 := hE.c2
      refine bodyPost_ret (v := .tuple #[.agg #[.int .i64 0, .int .u64 0, .int .i64 0], .bool false]) ?_ rfl ⟨rfl, hbl⟩
      rw [results_cell_tmp rfl]
      go_simp
set_option maxRecDepth 100000 in
set_option maxHeartbeats 1000000 in
theorem rmine_any (B q k : Nat) (v : Value) (K : List Upd) (w : World) (hl : K.length ≤ 1000000) (hR : Rf B q k v K w) :
    Calls Tryz.prog 36 #[.pointer (some ⟨q, 0, none⟩)] w fun e w' => e = .returned (.agg #[.int .i64 (ud (getK K k)).n, .int .u64 (ud (getK K k)).i, .int .i64 (ud (getK K k)).s]) ∧ Below w.heap.size w w' := by
  have ba := below_alloc w (.cells #[.int .i64 0, .int .u64 0, .int .i64 0] 39)
  have hR1 := hR.below ba
  have hB1 := Bx.new 39 0 0 0 w
  have x0 := hR1.c0
  have hG := rget_any B q k v K k _ hl hR1
  generalize ud (getK K k) = u at *
  generalize (getK K k).isSome = c at *
  go_enter Tryz.func36, Tryz.ntmps36
  go_wp2_with fail
  refine hG.mono ?_
  rintro e w2 ⟨rfl, hb2⟩
  have bc := below_alloc w2 (.cells #[.int .i64 u.n, .int .u64 u.i, .int .i64 u.s] 39)
  have hB2 := (hB1.below hb2).below bc
  have hX := Bx.new 39 u.n u.i u.s w2
  have hbl := ((ba.trans (hb2.mono ba.size)).trans (bc.mono (Nat.le_trans ba.size hb2.size)))
  have y0 := hB2.c0
  have y1 := hB2.c1
  have y2 := hB2.c2
  have z0 := hB2.free 0
  have z1 := hB2.free 1
  have z2 := hB2.free 2
  have q0 := hX.c0
  have q1 := hX.c1
  have q2 := hX.c2
  have hE := hB2.set u.n u.i u.s
  have hbl2 := below_set3 hbl (Nat.le_refl w.heap.size) (.int .i64 u.n) (.int .u64 u.i) (.int .i64 u.s)
  go_wp2_with fail
  generalize World.setCell _ _ _ = w7 at *
  clear y0 y1 y2 z0 z1 z2 q0 q1 q2 x0
  have r0 := hE.c0
  have r1 := hE.c1
  have r2 := hE.c2
  refine bodyPost_ret (v := .agg #[.int .i64 u.n, .int .u64 u.i, .int .i64 u.s]) ?_ rfl ⟨rfl, hbl2⟩
  rw [results_cell rfl]
  go_simp
set_option maxRecDepth 100000 in
set_option maxHeartbeats 1000000 in
theorem rall_any (B q k : Nat) (v : Value) (K : List Upd) (w : World) (hl : K.length ≤ 1000000) (hR : Rf B q k v K w) :
    Calls Tryz.prog 62 #[.pointer (some ⟨q, 0, none⟩)] w fun e w' => (∃ v', e = .returned v' ∧ Own w.heap.size v' (allS (tabK K)) w') ∧ Below w.heap.size w w' := by
  show Calls Tryz.prog 62 #[.pointer (some ⟨q, 0, none⟩)] w fun e w' => (∃ v', e = .returned v' ∧ Own w.heap.size v' (pickN (tabK K) (fun j => (tabK K j).isSome) 64) w') ∧ Below w.heap.size w w'
  go_enter Tryz.func62, Tryz.ntmps62
  go_wp2_with fail
  go_loopg [3, 4] 64 (fun gk t3 t4 wr => ∃ j : Nat, j + gk = 64 ∧ t4 = .int .i64 j ∧ Own w.heap.size t3 (pickN (tabK K) (fun j => (tabK K j).isSome) j) wr ∧ Below w.heap.size w wr)
  case atStart => exact ⟨0, by omega, rfl, Own.empty (heap_alloc_new w _) (Nat.le_refl _), below_alloc _ _⟩
  case round =>
    obtain ⟨j, hj, rfl, hO, hB⟩ := hrel
    by_cases hlt : (j : Int) < 64
    · have hG := rget_any B q k v K j _ hl (hR.below hB)
      have hE : ∀ z, (tabK K j).isSome = z → Hid (pickN (tabK K) (fun j => (tabK K j).isSome) (j + 1) = pickN (tabK K) (fun j => (tabK K j).isSome) j ++ (if z then [ud (tabK K j)] else [])) := fun z e => by subst e; rfl
      have hlen := pickN_length (tabK K) (fun j => (tabK K j).isSome) j
      rw [show getK K j = tabK K j from rfl] at hG
      generalize pickN (tabK K) (fun j => (tabK K j).isSome) j = M at *
      generalize ud (tabK K j) = u at *
      cases hc : (tabK K j).isSome
      case false =>
        have HE := hE _ hc
        rw [hc] at hG
        clear hE
        go_wp2_with fail
        refine hG.mono ?_
        rintro e w2 ⟨rfl, hb2⟩
        have ba := below_alloc w2 (.cells #[.int .i64 u.n, .int .u64 u.i, .int .i64 u.s] 39)
        have hO2 := (hO.below hb2).below ba
        have hB2 := (hB.trans (hb2.mono hB.size)).trans (ba.mono (Nat.le_trans hB.size hb2.size))
        go_wp2_with fail
        go_roundg (gk - 1)
        case rel => exact ⟨j + 1, by omega, by go_num, by rw [HE.out]; simpa using hO2, hB2⟩
        case measure => omega
      case true =>
        have HE := hE _ hc
        rw [hc] at hG
        clear hE
        go_wp2_with fail
        refine hG.mono ?_
        rintro e w2 ⟨rfl, hb2⟩
        have ba := below_alloc w2 (.cells #[.int .i64 u.n, .int .u64 u.i, .int .i64 u.s] 39)
        have hX := Bx.new 39 u.n u.i u.s w2
        have hO2 := (hO.below hb2).below ba
        have hB2 := (hB.trans (hb2.mono hB.size)).trans (ba.mono (Nat.le_trans hB.size hb2.size))
        generalize hw3 : w2.alloc (.cells #[.int .i64 u.n, .int .u64 u.i, .int .i64 u.s] 39) = w3 at *
        have HW3 : Hid _ := hw3
        have bc := below_alloc w3 (.cells #[.int .i64 u.n, .int .u64 u.i, .int .i64 u.s] 39)
        have hO3 := hO2.below bc
        have hB3 := hB2.trans (bc.mono hB2.size)
        have hU3 := Ru.one (u := u) (Bx.new 39 u.n u.i u.s w3)
        have hz3 := hB3.size
        have x0 := hX.c0
        have x1 := hX.c1
        have x2 := hX.c2
        clear hb2 ba hO hB hX
        go_wp2_with (at_builtin; refine wpList_app _ rfl (.tmp 19) (.tmp 21) rfl w.heap.size _ M rfl hO3 hz3 w3.heap.size 0 1 [u] 1 rfl rfl hU3 (by simp; omega) ?_; intro v' w' h1 h3 h4)
        have hB4 : Below w.heap.size w w' := hB3.trans ⟨h3.os, h3.tape, h3.output, h3.size, fun z hz => h3.block z (by omega) (fun e => by have := (hO3.lt z e.symm).1; omega)⟩
        clear h3 h4 hU3 hO3 hB3
        go_roundg (gk - 1)
        case rel => exact ⟨j + 1, by omega, by go_num, by rw [HE.out]; simpa using h1, hB4⟩
        case measure => omega
    · obtain rfl : j = 64 := by omega
      go_wp2_with fail
      go_ret
      exact ⟨⟨_, rfl, hO⟩, hB⟩
set_option maxRecDepth 100000 in
set_option maxHeartbeats 1000000 in
theorem rflive_any (B q k : Nat) (v : Value) (K : List Upd) (w : World) (hl : K.length ≤ 1000000) (hR : Rf B q k v K w) :
    Calls Tryz.prog 60 #[.pointer (some ⟨q, 0, none⟩)] w fun e w' => e = .returned (.int .u64 (bandS K)) ∧ Below w.heap.size w w' := by
  obtain ⟨a, cap, rfl, hc1, hc2, h3⟩ := hR.row.ru
  have hll : (K.length : Int) ≤ 1000000 := by omega
  go_enter Tryz.func60, Tryz.ntmps60
  go_wp2_with fail
  go_loopg [3, 4] K.length (fun gk t3 t4 wr => ∃ j : Nat, j + gk = K.length ∧ t4 = .int .i64 j ∧ t3 = .int .u64 (bandS (K.take j)) ∧ Below w.heap.size w wr)
  case atStart => exact ⟨0, by omega, rfl, rfl, Below.refl _ _⟩
  case round =>
    obtain ⟨j, hj, rfl, rfl, hB⟩ := hrel
    have hR1 := hR.below hB
    have x1 := hR1.c1
    by_cases hlt : (j : Int) < K.length
    · have hj' : j < K.length := by omega
      have j0 : (0 : Int) ≤ j := by omega
      obtain ⟨g, rfl⟩ := hR1.row.ex (by omega)
      have hcell := fun w' (h : Rf B q k (.slice (some ⟨g, 0, none⟩) K.length cap) K w') => h.row.at0 hj'
      have hT : Hid _ := bandS_take K j hj'
      have hblt := bandS_lt (K.take j)
      generalize bandS (K.take j) = b at *
      generalize K[j] = u at *
      obtain ⟨c0, c1, c2⟩ := hcell _ hR1
      go_wp2_with fail
      refine (flive_any _ _ _ _).mono ?_
      cases hv : liveS u.s
      case false =>
        rintro e w2 ⟨rfl, hb2⟩
        rw [hv] at hT
        have hB3 := hB.trans (hb2.mono hB.size)
        go_wp2_with fail
        go_roundg (gk - 1)
        case rel => exact ⟨j + 1, by omega, by go_num, by rw [hT.out]; rfl, hB3⟩
        case measure => omega
      case true =>
        rintro e w2 ⟨rfl, hb2⟩
        rw [hv] at hT
        have hB3 := hB.trans (hb2.mono hB.size)
        have hR3 := hR1.below hb2
        have y1 := hR3.c1
        obtain ⟨d0, d1, d2⟩ := hcell _ hR3
        clear x1 c0 c1 c2
        go_wp2_with fail
        refine (Bnd.rwith_any b hblt _ _).mono ?_
        rintro e w3 ⟨rfl, rfl⟩
        go_wp2_with fail
        go_roundg (gk - 1)
        case rel => exact ⟨j + 1, by omega, by go_num, by rw [hT.out]; rfl, hB3⟩
        case measure => omega
    · obtain rfl : j = K.length := by omega
      rw [List.take_length]
      go_wp2_with fail
      go_ret
      exact ⟨rfl, hB⟩
section
variable {w0 : World} {B q k : Nat} {v : Value} {K : List Upd} {w w' : World}
end
end Go.Proofs.YtpoofjnfaijjjaaGreatDoor.Ro
