/-
  The reference's doubts, a list in whatever order: mathematics, the state, Drop.
-/
import Derived.Test.YtahiiieifdhgeaaDre
namespace Go.Proofs.Ytahiiieifdhgeaa
open Go.RowKit Go.Maps

/-! ## Lists in whatever order -/
theorem insD_perm (x : Dbt) (L : List Dbt) : (insD x L).Perm (x :: L) := by
  induction L with
  | nil => exact List.Perm.refl _
  | cons y r ih =>
    unfold insD
    split
    · exact List.Perm.refl _
    · exact (List.Perm.cons y ih).trans (List.Perm.swap x y r)
theorem lessD_perm {K L : List Dbt} (h : K.Perm L) (n : Int) : (lessD K n).Perm (lessD L n) := h.filter _
theorem keep_perm {K L : List Dbt} (h : K.Perm L) (x : Dbt) : (lessD K x.n ++ [x]).Perm (keepD L x) :=
  (List.perm_append_comm (l₁ := lessD K x.n) (l₂ := [x])).trans ((List.Perm.cons x (lessD_perm h x.n)).trans (insD_perm x _).symm)
theorem has_perm {K L : List Dbt} (h : K.Perm L) (hL : Di L) (n : Int) : decide ((lessD K n).length < K.length) = hasD L n := by
  rw [(lessD_perm h n).length_eq, h.length_eq]
  cases hh : hasD L n
  · rw [lessD_none (hasD_false hh).1]; simp
  · obtain ⟨h1, h2⟩ := hasD_true hh
    have := lessD_length hL h1
    rw [h2] at this
    simp; omega
theorem set_perm {K L : List Dbt} (h : K.Perm L) (hL : Di L) {k : Nat} (hk : k < K.length) {x : Dbt} (hx : x.n = K[k].n) : (K.set k x).Perm (keepD L x) := by
  have e1 : K = K.take k ++ K[k] :: K.drop (k + 1) := by rw [List.getElem_cons_drop, List.take_append_drop]
  have e2 : K.set k x = K.take k ++ x :: K.drop (k + 1) := by
    rw [List.set_eq_take_append_cons_drop, if_pos hk]
  generalize K.take k = A at e1 e2
  generalize K.drop (k + 1) = R at e1 e2
  generalize K[k] = y at *
  have p1 : (y :: (A ++ R)).Perm L := (List.perm_middle.symm.trans (by rw [← e1])).trans h
  have hnd : (L.map Dbt.n).Nodup := List.pairwise_map.2 (hL.sort.imp fun h => by omega)
  have hnd2 := ((p1.map Dbt.n).nodup_iff).2 hnd
  rw [List.map_cons, List.nodup_cons] at hnd2
  have hno : ∀ z ∈ A ++ R, z.n ≠ x.n := fun z hz e => hnd2.1 (by rw [← hx, ← e]; exact List.mem_map_of_mem hz)
  have p2 : (A ++ R).Perm (lessD L x.n) := by
    have := lessD_perm p1 x.n
    rw [show lessD (y :: (A ++ R)) x.n = lessD (A ++ R) x.n from List.filter_cons_of_neg (by simp [hx]), lessD_none hno] at this
    exact this
  rw [e2]
  exact List.perm_middle.trans ((List.Perm.cons x p2).trans (insD_perm x _).symm)
theorem filter_next (m : Int) : ∀ L : List Dbt, L.Pairwise (fun x y => x.n < y.n) → L.filter (fun x => decide (x.n < m + 1)) = L.filter (fun x => decide (x.n < m)) ++ L.filter (fun x => x.n == m)
  | [], _ => rfl
  | x :: r, h => by
    rw [List.pairwise_cons] at h
    have ih := filter_next m r h.2
    by_cases h1 : x.n < m
    · rw [List.filter_cons_of_pos (by simp; omega), List.filter_cons_of_pos (by simpa using h1), List.filter_cons_of_neg (by simp; omega), ih]
      rfl
    · have e1 : r.filter (fun x => decide (x.n < m)) = [] := List.filter_eq_nil_iff.2 fun y hy => by have := h.1 y hy; simp; omega
      rw [e1, List.nil_append] at ih
      by_cases h2 : x.n = m
      · rw [List.filter_cons_of_pos (by simp; omega), List.filter_cons_of_neg (by simpa using h1), List.filter_cons_of_pos (by simpa using h2), ih, e1]
        rfl
      · rw [List.filter_cons_of_neg (by simp; omega), List.filter_cons_of_neg (by simpa using h1), List.filter_cons_of_neg (by simpa using h2), ih, e1]
        rfl
theorem filter_one {L : List Dbt} (hL : Di L) (m : Int) : (L.filter (fun x => x.n == m)).length ≤ 1 := by
  have hs := hL.sort.filter (fun x => x.n == m)
  have ha : ∀ x ∈ L.filter (fun x => x.n == m), x.n = m := fun x hx => by simpa using (List.mem_filter.1 hx).2
  generalize L.filter (fun x => x.n == m) = l at *
  match l, hs, ha with
  | [], _, _ => exact Nat.zero_le _
  | [x], _, _ => exact Nat.le_refl _
  | x :: y :: r, hs, ha =>
    have h1 := (List.pairwise_cons.1 hs).1 y List.mem_cons_self
    have h2 := ha x List.mem_cons_self
    have h3 := ha y (List.mem_cons_of_mem _ List.mem_cons_self)
    omega
theorem filter_perm {K L : List Dbt} (h : K.Perm L) (hL : Di L) (m : Int) : K.filter (fun x => x.n == m) = L.filter (fun x => x.n == m) := by
  have hp := h.filter (fun x => x.n == m)
  have h1 := filter_one hL m
  generalize L.filter (fun x => x.n == m) = l at *
  match l, h1, hp with
  | [], _, hp => exact hp.eq_nil
  | [x], _, hp => exact List.perm_singleton.1 hp
theorem filter_all {L : List Dbt} (hL : Di L) : L.filter (fun x => decide (x.n < 64)) = L := List.filter_eq_self.2 fun x hx => by simpa using (hL.ok x hx).n1
theorem filter_none {L : List Dbt} (hL : Di L) : L.filter (fun x => decide (x.n < 0)) = [] := List.filter_eq_nil_iff.2 fun x hx => by have := (hL.ok x hx).n0; simp; omega
theorem take_snoc (f : Dbt → Bool) {K : List Dbt} {k : Nat} (hk : k < K.length) : (K.take (k + 1)).filter f = (K.take k).filter f ++ (if f K[k] then [K[k]] else []) := by
  rw [← List.take_append_getElem hk, List.filter_append]
  cases h : f K[k] <;> simp [h]

/-! ## The state -/
theorem OwD.blk {T : TypeId} {B : Nat} {v : Value} {l : List Dbt} {w : World} (h : OwD T B v l w) {g : Nat} (hg : v.ownBlock = some g) : B ≤ g ∧ ∃ cur, w.heap[g]? = some (.cells cur T (0, 0)) := by
  rcases h.2 with ⟨rfl, _⟩ | ⟨g', cap, cur, rfl, hb, hh, _⟩
  · cases hg
  · cases hg
    exact ⟨hb, cur, hh⟩
/-- Block q is the reference's doubts, of the list K, whose row lies from block B on. -/
structure Rg (B q : Nat) (K : List Dbt) (w : World) : Prop where
  lt_ : q < B
  is : ∃ v, w.heap[q]? = some (.cells #[v] 31 (0, 0)) ∧ OwD 68 B v K w
section
variable {B q : Nat} {K : List Dbt} {w w' : World}
theorem Rg.lt (h : Rg B q K w) : q < w.heap.size := by
  obtain ⟨v, h1, _⟩ := h.is
  exact (Array.getElem?_eq_some_iff.1 h1).1
theorem Rg.keep (h : Rg B q K w) (e : w'.heap[q]? = w.heap[q]?) (hw : ∀ g cur, B ≤ g → w.heap[g]? = some (.cells cur 68 (0, 0)) → w'.heap[g]? = w.heap[g]?) : Rg B q K w' := by
  obtain ⟨v, h1, h2⟩ := h.is
  refine ⟨h.lt_, v, e.trans h1, h2.keep fun g hg _ => ?_⟩
  obtain ⟨k1, cur, k2⟩ := h2.blk hg
  exact hw g cur k1 k2
theorem Rg.below (h : Rg B q K w) (k : Below w.heap.size w w') : Rg B q K w' := h.keep (k.block q h.lt) fun g _ _ hc => k.block g (Array.getElem?_eq_some_iff.1 hc).1
theorem Rg.mono {C : Nat} (h : Rg C q K w) (hB : B ≤ C) (hq : q < B) : Rg B q K w := by
  obtain ⟨v, h1, h2⟩ := h.is
  exact ⟨hq, v, h1, h2.mono hB⟩
theorem Rg.new (w : World) {B : Nat} (hB : w.heap.size < B) : Rg B w.heap.size [] (w.alloc (.cells #[.slice none 0 0] 31)) := ⟨hB, _, heap_alloc_new w _, OwD.nil _ _ _⟩
theorem Rg.set (hq : q < B) {v : Value} {M : List Dbt} (hO : OwD 68 B v M w) (hh : ∃ u, w.heap[q]? = some (.cells #[u] 31 (0, 0))) : Rg B q M (w.setCell ⟨q, 0, none⟩ v) := by
  obtain ⟨u, hh⟩ := hh
  exact ⟨hq, v, by simp [World.setCell, Array.getElem?_modify, hh], hO.keep fun g hg _ => Below.heap_setCell _ _ _ _ (by have := (hO.lt g hg).1; simp; omega)⟩
end
theorem But.setCell {B q : Nat} {a w : World} (h : But B [q] a w) (u : Value) : But B [q] a (w.setCell ⟨q, 0, none⟩ u) :=
  ⟨h.os, h.tape, h.output, by simpa [World.setCell] using h.size, fun k hk hp => (Below.heap_setCell _ _ _ _ (by simpa using hp)).trans (h.block k hk hp)⟩

set_option maxHeartbeats 2000000 in
set_option maxRecDepth 100000 in
theorem rdrop_any (B q : Nat) (K : List Dbt) (hK : K.length ≤ 1000) (n : Int) (w : World) (hR : Rg B q K w) :
    Calls Try.prog 12 #[.pointer (some ⟨q, 0, none⟩), .int .i64 n] w fun e w' => e = .returned (.bool (decide ((lessD K n).length < K.length))) ∧ Rg w.heap.size q (lessD K n) w' ∧ But w.heap.size [q] w w' := by
  have hrz := hR.lt
  obtain ⟨v, hh, hOK⟩ := hR.is
  clear hR
  obtain ⟨a, cap, rfl, hcap, hmx, hRb⟩ := hOK.rb
  have hc : w.cell? ⟨q, 0, none⟩ = some (.slice a K.length cap) := by simp [World.cell?, hh]
  have ba := below_alloc w (.cells #[] 68)
  have hE := OwD.empty (B := w.heap.size) (heap_alloc_new w (.cells #[] 68)) (Nat.le_refl _)
  obtain ⟨N, HN⟩ : ∃ N, Hid (K.length = N) := ⟨_, rfl⟩
  rw [HN.out] at hc hcap
  rw [HN.out]
  have HALL : Hid (K.take N = K) := by rw [← HN.out, List.take_length]; exact rfl
  obtain ⟨M, HM⟩ : ∃ M, Hid (lessD K n = M) := ⟨_, rfl⟩
  rw [HM.out]
  have hNc : (N : Int) ≤ cap := by omega
  have hNl : N ≤ 1000 := by rw [← HN.out]; exact hK
  clear hmx hRb
  go_enter Try.func12, Try.ntmps12
  go_wp2_with fail
  go_loopg [5, 6] N (fun gk t5 t6 wr => ∃ k : Nat, k + gk = N ∧ t6 = .int .i64 k ∧ OwD 68 w.heap.size t5 (lessD (K.take k) n) wr ∧ Below w.heap.size w wr)
  case atStart => exact ⟨0, by omega, rfl, hE, ba⟩
  case round =>
    clear hE ba
    obtain ⟨k, hk, rfl, hO, hBk⟩ := hrel
    have c1 := (World.cell?_of_block (w := w) (hBk.block q hrz)).trans hc
    have hz := hBk.size
    by_cases hlt : (k : Int) < N
    · have hkl : k < K.length := by rw [HN.out]; omega
      obtain ⟨g, off, cap', e, _, _, hg, h7⟩ := hOK.rb.at hkl
      cases e
      have h7 := h7.keep (hBk.block g hg)
      have HS : Hid (lessD (K.take (k + 1)) n = lessD (K.take k) n ++ (if K[k].n != n then [K[k]] else [])) := take_snoc (fun x => x.n != n) hkl
      have hll : (lessD (K.take k) n).length ≤ 1000 := Nat.le_trans (lessD_length_le _ _) (by rw [List.length_take]; omega)
      generalize K[k] = x at *
      generalize lessD (K.take k) n = P at *
      obtain ⟨d0, d1, d2, d3, d4, d5, d6⟩ := h7
      have k0 : (0 : Int) ≤ k := by omega
      cases hx : (x.n != n)
      case false =>
        rw [hx] at HS
        simp only [Bool.false_eq_true, if_false, List.append_nil] at HS
        go_wp2_with fail
        go_roundg (gk - 1)
        case rel => exact ⟨k + 1, by omega, by go_num, by rw [HS.out]; exact hO, hBk⟩
        case measure => omega
      case true =>
        rw [hx] at HS
        simp only [if_true] at HS
        have bc := below_alloc wr (dC x 68)
        have hB4 := hBk.trans (bc.mono hz)
        have hO4 := hO.below bc
        have hY := Rb.one (Bd.new 68 x wr)
        have hz4 := hB4.size
        unfold dC at hB4 hO4 hY hz4
        clear bc
        go_wp2_with (at_builtin; refine wpList_appD Try.underlying29 Try.infoE _ rfl (.tmp 29) (.tmp 37) rfl w.heap.size _ P rfl hO4 hz4 wr.heap.size 0 1 [x] 1 rfl rfl hY (by simp; omega) ?_; intro v' w' h1 h3 h4)
        have hB5 : Below w.heap.size w w' := hB4.trans ⟨h3.os, h3.tape, h3.output, h3.size, fun q hq => h3.block q (by omega) (fun e => by have := (hO4.lt q e.symm).1; omega)⟩
        clear h3 h4 hY
        go_wp2_with fail
        go_roundg (gk - 1)
        case rel => exact ⟨k + 1, by omega, by go_num, by rw [HS.out]; exact h1, hB5⟩
        case measure => omega
    · obtain rfl : k = N := by omega
      rw [HALL.out, HM.out] at hO
      have hu := (hBk.block q hrz).trans hh
      have f1 : wr.frozen? ⟨q, 0, none⟩ = false := by simp [World.frozen?, hu]
      obtain ⟨av, acap, rfl, _⟩ := hO.rb
      have hend := Rg.set hrz hO ⟨_, hu⟩
      have hbt := (But.of (S := [q]) hBk).setCell (.slice av M.length acap)
      by_cases hlm : M.length < k
      · have e1 : decide (M.length < k) = true := by simpa using hlm
        have hlm2 : (M.length : Int) < k := by omega
        go_wp2_with fail
        go_ret
        exact ⟨rfl, hend, hbt⟩
      · have e1 : decide (M.length < k) = false := by simpa using hlm
        have hlm2 : ¬ (M.length : Int) < k := by omega
        go_wp2_with fail
        go_ret
        exact ⟨rfl, hend, hbt⟩
end Go.Proofs.Ytahiiieifdhgeaa
