/-
  Shuffle, Some, Same, shown.
-/
import Derived.Test.YtnhpkpodeojldaaLsh
namespace Go.Proofs.Ytnhpkpodeojldaa
open Go.RowKit

set_option maxHeartbeats 400000 in
theorem shuffle_any (B p : Nat) (v : Value) (s l : List Int) (w : World) (hs : s.length ≤ 1000000) (hv : Rd .i64 v s w) (h : Lt B p l w) (hl : Ok l) :
    Calls Try.prog 31 #[.pointer (some ⟨p, 0, none⟩), v] w fun e w' => (∃ v', e = .returned v' ∧ Rd .i64 v' (shufS s l).1 w' ∧ ∀ g, v'.ownBlock = some g → w.heap.size ≤ g ∧ g < w'.heap.size) ∧ Lt B p (shufS s l).2 w' ∧ But w.heap.size p w w' := by
  go_enter Try.func31, Try.ntmps31
  go_wp2_with fail
  refine (shuffled_any B p v s l _ hs hv h hl).mono ?_
  rintro e w1 ⟨⟨v', rfl, h1, h2⟩, h3, h4⟩
  go_wp2_with fail
  go_ret
  exact ⟨⟨_, rfl, h1, h2⟩, h3, h4⟩

theorem ownBlock_slice (a : Option Addr) (n c n' c' : Nat) : (Value.slice a n c).ownBlock = (Value.slice a n' c').ownBlock := by cases a <;> rfl

set_option maxHeartbeats 400000 in
theorem some_any (B p : Nat) (v : Value) (s l : List Int) (n : Int) (w : World) (hs : s.length ≤ 1000000) (hn : n < 9223372036854775808) (hv : Rd .i64 v s w) (h : Lt B p l w) (hl : Ok l) :
    Calls Try.prog 41 #[.pointer (some ⟨p, 0, none⟩), v, .int .i64 n] w fun e w' => (∃ v', e = .returned v' ∧ Rd .i64 v' (someS s l n).1 w' ∧ ∀ g, v'.ownBlock = some g → w.heap.size ≤ g ∧ g < w'.heap.size) ∧ Lt B p (someS s l n).2 w' ∧ But w.heap.size p w w' := by
  by_cases h1 : n < 1
  · have e : someS s l n = ([], l) := by unfold someS; rw [if_pos h1]
    rw [e]
    go_enter Try.func41, Try.ntmps41
    go_wp2_with fail
    go_ret
    exact ⟨⟨_, rfl, Rd.nil _ _, fun g hg => by cases hg⟩, h, But.refl _ _ _⟩
  · have e : someS s l n = ((shufS s l).1.take n.toNat, (shufS s l).2) := by unfold someS; rw [if_neg h1]
    rw [e]
    clear e
    have hsl := shufS_length s l
    go_enter Try.func41, Try.ntmps41
    go_wp2_with fail
    refine (shuffle_any B p v s l _ hs hv h hl).mono ?_
    rintro e w1 ⟨⟨v', rfl, h2, h3⟩, h4, h5⟩
    have h2' := h2
    obtain ⟨a, cap, rfl, hc1, hc2, h0, _⟩ := h2'
    rw [hsl] at hc1 h2 h3 ⊢
    have hci : (s.length : Int) ≤ cap := by omega
    by_cases hm : n ≤ s.length
    · obtain ⟨m, rfl⟩ : ∃ m : Nat, n = m := ⟨n.toNat, by omega⟩
      have hmc : (m : Int) ≤ cap := by omega
      go_wp2_with fail
      go_ret
      exact ⟨⟨.slice a m cap, rfl, h2.take m (by omega), fun g hg => h3 g ((ownBlock_slice _ _ _ _ _).trans hg)⟩, h4, h5⟩
    · go_wp2_with fail
      go_ret
      rw [List.take_of_length_le (by omega)]
      exact ⟨⟨.slice a s.length cap, rfl, h2, h3⟩, h4, h5⟩

set_option maxHeartbeats 400000 in
theorem same_any (v u : Value) (l : List Int) (w : World) (hl : l.length ≤ 1000000) (h1 : Rd .i64 v l w) (h2 : Rd .i64 u l w) :
    Calls Try.prog 15 #[v, u] w fun e w' => e = .returned (.bool true) ∧ Below w.heap.size w w' := by
  obtain ⟨a1, cap1, rfl, _, _, _, k1⟩ := h1
  obtain ⟨a2, cap2, rfl, _, _, _, k2⟩ := h2
  go_enter Try.func15, Try.ntmps15
  go_wp2_with fail
  go_loopg [5] l.length (fun gk t5 wr => ∃ i : Nat, i + gk = l.length ∧ t5 = .int .i64 i ∧ Below w.heap.size w wr)
  case atStart => exact ⟨0, by omega, rfl, Below.refl _ _⟩
  case round =>
    obtain ⟨i, hi, rfl, hB⟩ := hrel
    by_cases hlt : (i : Int) < l.length
    · have i0 : (0 : Int) ≤ i := by omega
      have hil : i < l.length := by omega
      rcases k1 with k1 | ⟨g1, o1, rfl, k1⟩
      · omega
      rcases k2 with k2 | ⟨g2, o2, rfl, k2⟩
      · omega
      have c1 := k1 i hil
      have c2 := k2 i hil
      have e1 := World.block_lt_of_cell? _ _ c1
      have e2 := World.block_lt_of_cell? _ _ c2
      rw [← World.cell?_of_block (w := w) (w' := wr) (hB.block g1 e1)] at c1
      rw [← World.cell?_of_block (w := w) (w' := wr) (hB.block g2 e2)] at c2
      clear k1 k2
      generalize l[i] = x at c1 c2
      go_wp2_with fail
      go_quiet (fail)
      go_wp2_with fail
      go_roundg (gk - 1)
      case rel => exact ⟨i + 1, by omega, by go_num, ⟨hB.os, hB.tape, hB.output, hB.size, hB.block⟩⟩
      case measure => omega
    · go_wp2_with fail
      go_ret
      exact ⟨rfl, hB⟩

theorem Rd.lit (k : IntKind) (E : TypeId) (l : List Int) (w : World) (hl : l.length ≤ 1000000) : Rd k (.slice (some ⟨w.heap.size, 0, none⟩) l.length l.length) l (w.alloc (.cells (l.map (Value.int k)).toArray E)) := by
  refine ⟨_, _, rfl, Nat.le_refl _, by unfold maxLen; omega, (fun e => by cases e), Or.inr ⟨_, 0, rfl, fun j hj => ?_⟩⟩
  have : (w.alloc (.cells (l.map (Value.int k)).toArray E)).heap[w.heap.size]? = some (.cells (l.map (Value.int k)).toArray E (0, 0)) := heap_alloc_new w _
  unfold World.cell?
  rw [this]
  simp [hj]

theorem shuf_shown : shufS [1, 2, 3] [0, 0] = ([2, 3, 1], []) := by decide

end Go.Proofs.Ytnhpkpodeojldaa
