/-
  The reference's queue: ahead, less, put, Items.
-/
import Derived.Test.YtagdacfgpgcbcaaTak
import Derived.Test.YtagdacfgpgcbcaaKpt
import Derived.Test.YtagdacfgpgcbcaaTrn
namespace Go.Proofs.Ytagdacfgpgcbcaa
open Go.RowKit Go.Maps

set_option maxHeartbeats 1000000 in
theorem ahead_any (x y : Itm) (w : World) : Calls Try.prog 37 #[itmV x, itmV y] w fun e w' => e = .returned (.bool (ltI x y)) ∧ Below w.heap.size w w' := by
  obtain ⟨x1, x2, x3, x4⟩ := x
  obtain ⟨y1, y2, y3, y4⟩ := y
  unfold itmV ltI
  simp only
  cases h1 : decide (x4 < y4)
  case true =>
    go_enter Try.func37, Try.ntmps37
    go_wp2_with fail
    go_ret
    exact ⟨rfl, ((Below.refl _ _).alloc (Nat.le_refl _) _).alloc (by simp) _⟩
  case false =>
    cases h2 : (x4 == y4)
    case false =>
      go_enter Try.func37, Try.ntmps37
      go_wp2_with fail
      go_ret
      exact ⟨rfl, ((Below.refl _ _).alloc (Nat.le_refl _) _).alloc (by simp) _⟩
    case true =>
      cases h3 : decide (x1 < y1)
      all_goals go_enter Try.func37, Try.ntmps37
      all_goals go_wp2_with fail
      all_goals go_ret
      all_goals exact ⟨rfl, ((Below.refl _ _).alloc (Nat.le_refl _) _).alloc (by simp) _⟩

/-- Below block number B all is as it was, but for block r. -/
structure But (B r : Nat) (w w' : World) : Prop where
  os : w'.os = w.os
  tape : w'.tape = w.tape
  output : w'.output = w.output
  size : w.heap.size ≤ w'.heap.size
  block : ∀ k, k < B → k ≠ r → w'.heap[k]? = w.heap[k]?
section
variable {B C r : Nat} {a w w' : World}
theorem But.of (h : Below B w w') : But B r w w' := ⟨h.os, h.tape, h.output, h.size, fun k hk _ => h.block k hk⟩
theorem But.refl (B r : Nat) (w : World) : But B r w w := ⟨rfl, rfl, rfl, Nat.le_refl _, fun _ _ _ => rfl⟩
theorem But.setCell (h : But B r a w) (u : Value) : But B r a (w.setCell ⟨r, 0, none⟩ u) :=
  ⟨h.os, h.tape, h.output, by simpa [World.setCell] using h.size, fun k hk hp => (Below.heap_setCell _ _ _ _ (by simpa using hp)).trans (h.block k hk hp)⟩
theorem But.trans (h : But B r a w) (k : But B r w w') : But B r a w' :=
  ⟨k.os.trans h.os, k.tape.trans h.tape, k.output.trans h.output, Nat.le_trans h.size k.size, fun i hi hp => (k.block i hi hp).trans (h.block i hi hp)⟩
theorem But.mono (h : But C r w w') (hB : B ≤ C) : But B r w w' := ⟨h.os, h.tape, h.output, h.size, fun i hi hp => h.block i (by omega) hp⟩
theorem But.to (h : But B r w w') (hp : B ≤ r) : Below B w w' := ⟨h.os, h.tape, h.output, h.size, fun i hi => h.block i hi (by omega)⟩
theorem But.drew (h : But B r a w) : But B r a w.drew := ⟨h.os, h.tape, h.output, h.size, fun i hi hp => h.block i hi hp⟩
end

/-- Block r is the reference's queue, of the rumors L, whose row lies from block B on. -/
structure Rq (B r : Nat) (L : List Itm) (w : World) : Prop where
  lt_ : r < B
  is : ∃ a cap, w.heap[r]? = some (.cells #[.slice a L.length cap] 31 (0, 0)) ∧ Ri (.slice a L.length cap) L w ∧ (∀ g, (Value.slice a L.length cap).ownBlock = some g → B ≤ g ∧ ∃ cur, w.heap[g]? = some (.cells cur 63 (0, 0))) ∧ (a = none ∨ ∃ g off, a = some ⟨g, off, none⟩)
section
variable {B r : Nat} {L : List Itm} {w w' : World}
theorem Rq.lt (h : Rq B r L w) : r < w.heap.size := by
  obtain ⟨a, cap, h1, _⟩ := h.is
  exact (Array.getElem?_eq_some_iff.1 h1).1
/-- What reads stays, where the blocks with cells stay. -/
theorem Ri.keep2 {v : Value} {l : List Itm} (h : Ri v l w) (hw : ∀ g off x, v.ownBlock = some g → w.cell? ⟨g, off, none⟩ = some x → w'.heap[g]? = w.heap[g]?) : Ri v l w' := by
  obtain ⟨a, cap, rfl, h1, h2, h3⟩ := h
  refine ⟨a, cap, rfl, h1, h2, ?_⟩
  rcases h3 with h3 | ⟨g, off, rfl, h3⟩
  · exact Or.inl h3
  · refine Or.inr ⟨g, off, rfl, fun j hj => ?_⟩
    obtain ⟨c0, c1, c2, c3⟩ := h3 j hj
    have e := hw g _ _ rfl c0
    exact ⟨(World.cell?_of_block (w := w) e).trans c0, (World.cell?_of_block (w := w) e).trans c1, (World.cell?_of_block (w := w) e).trans c2, (World.cell?_of_block (w := w) e).trans c3⟩
theorem Rq.keep (h : Rq B r L w) (e : w'.heap[r]? = w.heap[r]?) (hw : ∀ g cur, B ≤ g → w.heap[g]? = some (.cells cur 63 (0, 0)) → w'.heap[g]? = w.heap[g]?) : Rq B r L w' := by
  obtain ⟨a, cap, h1, h2, h3, h4⟩ := h.is
  refine ⟨h.lt_, a, cap, e.trans h1, h2.keep2 fun g off x hg _ => ?_, fun g hg => ?_, h4⟩
  · obtain ⟨k1, cur, k2⟩ := h3 g hg
    exact hw g cur k1 k2
  · obtain ⟨k1, cur, k2⟩ := h3 g hg
    exact ⟨k1, cur, (hw g cur k1 k2).trans k2⟩
theorem Rq.below (h : Rq B r L w) (k : Below w.heap.size w w') : Rq B r L w' := h.keep (k.block r h.lt) fun g _ _ hc => k.block g (Array.getElem?_eq_some_iff.1 hc).1
theorem Rq.new (w : World) {B : Nat} (hB : w.heap.size < B) : Rq B w.heap.size [] (w.alloc (.cells #[.slice none 0 0] 31)) :=
  ⟨hB, none, 0, heap_alloc_new w _, Ri.nil _, (fun g hg => by cases hg), Or.inl rfl⟩
/-- Another row is put in. -/
theorem Rq.set (hr : r < B) {v : Value} {M : List Itm} (hO : OwI 63 B v M w) (hh : ∃ u, w.heap[r]? = some (.cells #[u] 31 (0, 0))) : Rq B r M (w.setCell ⟨r, 0, none⟩ v) := by
  have hlt := hO.lt
  have had : ∀ a n cap, v = .slice a n cap → (a = none ∨ ∃ g off, a = some ⟨g, off, none⟩) := by
    intro a n cap e
    rcases hO.2 with ⟨e', _⟩ | ⟨g, c, cur, e', _⟩
    · rw [e'] at e; cases e; exact Or.inl rfl
    · rw [e'] at e; cases e; exact Or.inr ⟨_, _, rfl⟩
  have hty : ∀ g, v.ownBlock = some g → ∃ cur, w.heap[g]? = some (.cells cur 63 (0, 0)) := by
    intro g hg
    rcases hO.2 with ⟨e', _⟩ | ⟨g', c, cur, e', _, hh, _⟩
    · rw [e'] at hg; cases hg
    · rw [e'] at hg; cases hg; exact ⟨cur, hh⟩
  have hty2 : ∀ g, v.ownBlock = some g → ∃ cur, (w.setCell ⟨r, 0, none⟩ v).heap[g]? = some (.cells cur 63 (0, 0)) := fun g hg => by
    obtain ⟨cur, k⟩ := hty g hg
    exact ⟨cur, (Below.heap_setCell _ _ _ _ (by have := (hlt g hg).1; simp; omega)).trans k⟩
  obtain ⟨a, cap, rfl, h1, h2, h3⟩ := hO.ri
  obtain ⟨u, hh⟩ := hh
  refine ⟨hr, a, cap, ?_, Ri.keep2 (w := w) ⟨a, cap, rfl, h1, h2, h3⟩ (fun g off x hg _ => Below.heap_setCell _ _ _ _ (by have := (hlt g hg).1; simp; omega)), fun g hg => ⟨(hlt g hg).1, hty2 g hg⟩, had _ _ _ rfl⟩
  simp [World.setCell, Array.getElem?_modify, hh]
theorem Rq.cells (h : Rq B r L w) : ∃ a cap, w.cell? ⟨r, 0, none⟩ = some (.slice a L.length cap) ∧ w.frozen? ⟨r, 0, none⟩ = false ∧ L.length ≤ cap ∧ Ri (.slice a L.length cap) L w ∧ (∀ g, (Value.slice a L.length cap).ownBlock = some g → B ≤ g) := by
  obtain ⟨a, cap, h1, h2, h3, _⟩ := h.is
  refine ⟨a, cap, by simp [World.cell?, h1], by simp [World.frozen?, h1], ?_, h2, fun g hg => (h3 g hg).1⟩
  obtain ⟨_, _, e, h4, _⟩ := h2
  cases e
  exact h4
theorem Rq.ad (h : Rq B r L w) : ∀ a n cap, w.cell? ⟨r, 0, none⟩ = some (.slice a n cap) → (a = none ∨ ∃ g off, a = some ⟨g, off, none⟩) := by
  obtain ⟨a, cap, h1, _, _, h4⟩ := h.is
  intro a' n cap' e
  simp [World.cell?, h1] at e
  rw [← e.1]
  exact h4
theorem Rq.one (h : Rq B r L w) : ∃ u, w.heap[r]? = some (.cells #[u] 31 (0, 0)) := by
  obtain ⟨a, cap, h1, _⟩ := h.is
  exact ⟨_, h1⟩
end

theorem lessQ_snoc (l : List Itm) (y : Itm) (n : Int) : lessQ (l ++ [y]) n = if y.1 != n then lessQ l n ++ [y] else lessQ l n := by
  unfold lessQ
  rw [List.filter_append]
  by_cases h : (y.1 != n) = true
  · rw [if_pos h]; simp [h]
  · rw [if_neg h]; simp [h]

set_option maxHeartbeats 2000000 in
set_option maxRecDepth 100000 in
theorem less_any (B r : Nat) (L : List Itm) (hL : L.length ≤ 40) (n : Int) (w : World) (hR : Rq B r L w) (hB : B ≤ w.heap.size) :
    Calls Try.prog 26 #[.pointer (some ⟨r, 0, none⟩), .int .i64 n] w fun e w' => e = .returned (.tuple #[]) ∧ Rq B r (lessQ L n) w' ∧ But w.heap.size r w w' := by
  obtain ⟨a, cap, hc, hf, hcap, hRi, hown⟩ := hR.cells
  have ba := below_alloc w (.cells #[] 63)
  have hE := OwI.empty (B := w.heap.size) (heap_alloc_new w (.cells #[] 63)) (Nat.le_refl _)
  have hu := hR.one
  have hrz := hR.lt
  obtain ⟨N, HN⟩ : ∃ N, Hid (L.length = N) := ⟨_, rfl⟩
  have hc' := hc
  rw [HN.out] at hc'
  have HALL : Hid (L.take N = L) := by rw [← HN.out, List.take_length]; exact rfl
  have hr0 := hR.lt_
  clear hR hc
  obtain ⟨M, HM⟩ : ∃ M, Hid (lessQ L n = M) := ⟨_, rfl⟩
  rw [HM.out]
  have hNc : (N : Int) ≤ cap := by rw [← HN.out]; omega
  have hNl : N ≤ 40 := by rw [← HN.out]; exact hL
  go_enter Try.func26, Try.ntmps26
  go_wp2_with fail
  go_loopg [4, 5] N (fun gk t4 t5 wr => ∃ k : Nat, k + gk = N ∧ t5 = .int .i64 k ∧ OwI 63 w.heap.size t4 (lessQ (L.take k) n) wr ∧ Below w.heap.size w wr)
  case atStart => exact ⟨0, by omega, rfl, hE, ba⟩
  case round =>
    obtain ⟨k, hk, rfl, hO, hBk⟩ := hrel
    have c1 := (World.cell?_of_block (w := w) (hBk.block r hrz)).trans hc'
    have hz := hBk.size
    by_cases hlt : (k : Int) < N
    · have hkl : k < L.length := by rw [HN.out]; omega
      obtain ⟨g, off, rfl, d0, d1, d2, d3⟩ := hRi.at_ hkl
      have hg : g < w.heap.size := World.block_lt_of_cell? _ _ d0
      have eb := hBk.block g hg
      have d0 := (World.cell?_of_block (w := w) eb).trans d0
      have d1 := (World.cell?_of_block (w := w) eb).trans d1
      have d2 := (World.cell?_of_block (w := w) eb).trans d2
      have d3 := (World.cell?_of_block (w := w) eb).trans d3
      have HS : Hid (lessQ (L.take (k + 1)) n = if L[k].1 != n then lessQ (L.take k) n ++ [L[k]] else lessQ (L.take k) n) := by
        rw [← List.take_append_getElem hkl, lessQ_snoc]
        exact rfl
      have hll : (lessQ (L.take k) n).length ≤ 40 := Nat.le_trans (lessQ_length_le _ _) (by rw [List.length_take]; omega)
      generalize L[k] = x at *
      generalize lessQ (L.take k) n = P at *
      obtain ⟨x1, x2, x3, x4⟩ := x
      simp only at d0 d1 d2 d3 HS
      have k0 : (0 : Int) ≤ k := by omega
      cases hx : (x1 != n)
      case false =>
        rw [hx] at HS
        simp only [Bool.false_eq_true, if_false] at HS
        go_wp2_with fail
        go_roundg (gk - 1)
        case rel => exact ⟨k + 1, by omega, by go_num, by rw [HS.out]; exact hO, hBk⟩
        case measure => omega
      case true =>
        rw [hx] at HS
        simp only [if_true] at HS
        have bc := below_alloc wr (.cells #[.int .i64 x1, .int .u64 x2, .int .i64 x3, .int .i64 x4] 63)
        have hB4 := hBk.trans (bc.mono hz)
        have hO4 := hO.below bc
        have hY := Ri.one (Bi.new 63 x1 x2 x3 x4 wr)
        have hz4 := hB4.size
        clear bc
        go_wp2_with (at_builtin; refine wpList_appI Try.underlying29 Try.infoJ _ rfl (.tmp 27) (.tmp 35) rfl w.heap.size _ P rfl hO4 hz4 wr.heap.size 0 1 [(x1, x2, x3, x4)] 1 rfl rfl hY (by simp; omega) ?_; intro v' w' h1 h3 h4)
        have hB5 : Below w.heap.size w w' := hB4.trans ⟨h3.os, h3.tape, h3.output, h3.size, fun q hq => h3.block q (by omega) (fun e => by have := (hO4.lt q e.symm).1; omega)⟩
        clear h3 h4 hY
        go_wp2_with fail
        go_roundg (gk - 1)
        case rel => exact ⟨k + 1, by omega, by go_num, by rw [HS.out]; exact h1, hB5⟩
        case measure => omega
    · obtain rfl : k = N := by omega
      rw [HALL.out, HM.out] at hO
      have f1 : wr.frozen? ⟨r, 0, none⟩ = false := by
        obtain ⟨u, hu⟩ := hu
        simp [World.frozen?, (hBk.block r hrz).trans hu]
      obtain ⟨av, acap, rfl⟩ := hO.ri.len
      have hend := Rq.set hr0 (hO.mono hB) (by obtain ⟨u, hu⟩ := hu; exact ⟨u, (hBk.block r hrz).trans hu⟩)
      go_wp2_with fail
      go_end0
      exact ⟨rfl, hend, (But.of hBk).setCell _⟩
end Go.Proofs.Ytagdacfgpgcbcaa
