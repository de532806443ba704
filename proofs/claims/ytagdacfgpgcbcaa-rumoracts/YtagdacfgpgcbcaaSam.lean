/-
  The reference's Same, of rumors and of updates; theirs.
-/
import Derived.Test.YtagdacfgpgcbcaaRft
namespace Go.Proofs.Ytagdacfgpgcbcaa
open Go.RowKit Go.Maps

theorem run_eqI_in (d : Nat) (x : Itm) (w : World) : (Op.equalIn (d + 1 + 1 + 1) 63 (.agg #[.int .i64 x.1, .int .u64 x.2.1, .int .i64 x.2.2.1, .int .i64 x.2.2.2]) (.agg #[.int .i64 x.1, .int .u64 x.2.1, .int .i64 x.2.2.1, .int .i64 x.2.2.2])).run Try.prog w = .ok true w := by
  rw [run_equalIn_struct w (d + 1 + 1) 63 _ _ (by kernel_rfl) (by kernel_rfl)]
  have h := run_eqU_in d (updOf x) (updOf x)
  have e : eqU (updOf x) (updOf x) = true := by simp [eqU]
  rw [e] at h
  unfold updOf at h
  simp only at h
  simp [Program.fieldsOf, go_sem, h]
theorem run_neqI (x : Itm) (w : World) : (binOp .neq 63 (.agg #[.int .i64 x.1, .int .u64 x.2.1, .int .i64 x.2.2.1, .int .i64 x.2.2.2]) (.agg #[.int .i64 x.1, .int .u64 x.2.1, .int .i64 x.2.2.1, .int .i64 x.2.2.2])).run Try.prog w = .ok (.bool false) w := by
  have h := run_eqI_in 9997 x w
  simp [binOp, Op.equal, Op.maxDepth, h]

set_option maxHeartbeats 1000000 in
theorem sameI_any (v v' : Value) (l : List Itm) (hl : l.length ≤ 1000000) (w : World) (h : Ri v l w) (h' : Ri v' l w) :
    Calls Try.prog 17 #[v, v'] w fun e w' => e = .returned (.bool true) ∧ Below w.heap.size w w' := by
  obtain ⟨a, cap, rfl⟩ := h.len
  obtain ⟨a', cap', rfl⟩ := h'.len
  obtain ⟨N, HN⟩ : ∃ N, Hid (l.length = N) := ⟨_, rfl⟩
  rw [HN.out]
  have hN : N ≤ 1000000 := by rw [← HN.out]; exact hl
  have hNN : ((N : Int) != N) = false := by simp
  go_enter Try.func17, Try.ntmps17
  go_wp2_with fail
  go_loopg [5] N (fun gk t5 wr => ∃ k : Nat, k + gk = N ∧ t5 = .int .i64 k ∧ Below w.heap.size w wr)
  case atStart => exact ⟨0, by omega, rfl, Below.refl _ _⟩
  case round =>
    obtain ⟨k, hk, rfl, hB⟩ := hrel
    by_cases hlt : (k : Int) < N
    · have hkl : k < l.length := by rw [HN.out]; omega
      obtain ⟨g, off, rfl, d0, d1, d2, d3⟩ := (h.below hB).at_ hkl
      obtain ⟨g', off', rfl, c0, c1, c2, c3⟩ := (h'.below hB).at_ hkl
      have hq := run_neqI l[k]
      generalize l[k] = x at *
      obtain ⟨x1, x2, x3, x4⟩ := x
      simp only at d0 d1 d2 d3 c0 c1 c2 c3 hq
      have k0 : (0 : Int) ≤ k := by omega
      go_wp2_with fail
      go_quiet (fail)
      go_wp2_with fail
      go_roundg (gk - 1)
      case rel => exact ⟨k + 1, by omega, by go_num, hB.trans (below_drewN _ _ _)⟩
      case measure => omega
    · go_wp2_with fail
      go_ret
      exact ⟨rfl, hB⟩

set_option maxHeartbeats 1000000 in
theorem sameU_any (v v' : Value) (l : List Upd) (hl : l.length ≤ 1000000) (w : World) (h : Ru v l w) (h' : Ru v' l w) :
    Calls Try.prog 12 #[v, v'] w fun e w' => e = .returned (.bool true) ∧ Below w.heap.size w w' := by
  obtain ⟨a, cap, rfl⟩ : ∃ a cap, v = .slice a l.length cap := by obtain ⟨a, cap, e, _⟩ := h; exact ⟨a, cap, e⟩
  obtain ⟨a', cap', rfl⟩ : ∃ a cap, v' = .slice a l.length cap := by obtain ⟨a, cap, e, _⟩ := h'; exact ⟨a, cap, e⟩
  obtain ⟨N, HN⟩ : ∃ N, Hid (l.length = N) := ⟨_, rfl⟩
  rw [HN.out]
  have hN : N ≤ 1000000 := by rw [← HN.out]; exact hl
  have hNN : ((N : Int) != N) = false := by simp
  go_enter Try.func12, Try.ntmps12
  go_wp2_with fail
  go_loopg [5] N (fun gk t5 wr => ∃ k : Nat, k + gk = N ∧ t5 = .int .i64 k ∧ Below w.heap.size w wr)
  case atStart => exact ⟨0, by omega, rfl, Below.refl _ _⟩
  case round =>
    obtain ⟨k, hk, rfl, hB⟩ := hrel
    by_cases hlt : (k : Int) < N
    · have hkl : k < l.length := by rw [HN.out]; omega
      obtain ⟨g, off, rfl, d0, d1, d2⟩ := (h.below hB).at_ hkl
      obtain ⟨g', off', rfl, c0, c1, c2⟩ := (h'.below hB).at_ hkl
      have hq := fun w => run_neqU l[k] l[k] w
      rw [show eqU l[k] l[k] = true from by simp [eqU], Bool.not_true] at hq
      generalize l[k] = x at *
      have k0 : (0 : Int) ≤ k := by omega
      go_wp2_with fail
      go_quiet (fail)
      go_wp2_with fail
      go_roundg (gk - 1)
      case rel => exact ⟨k + 1, by omega, by go_num, hB.trans (below_drewN _ _ _)⟩
      case measure => omega
    · go_wp2_with fail
      go_ret
      exact ⟨rfl, hB⟩

set_option maxHeartbeats 1000000 in
theorem theirs_any (v : Value) (l : List Itm) (hl : l.length ≤ 100000) (w : World) (h : Ri v l w) :
    Calls Try.prog 18 #[v] w fun e w' => (∃ v', e = .returned v' ∧ OwI 63 w.heap.size v' l w') ∧ Below w.heap.size w w' := by
  obtain ⟨a, cap, rfl⟩ := h.len
  have ba := below_alloc w (.cells #[] 63)
  have hE := OwI.empty (B := w.heap.size) (heap_alloc_new w (.cells #[] 63)) (Nat.le_refl _)
  obtain ⟨N, HN⟩ : ∃ N, Hid (l.length = N) := ⟨_, rfl⟩
  rw [HN.out]
  have hN : N ≤ 100000 := by rw [← HN.out]; exact hl
  have HALL : Hid (l.take N = l) := by rw [← HN.out, List.take_length]; exact rfl
  go_enter Try.func18, Try.ntmps18
  go_wp2_with fail
  go_loopg [3, 4] N (fun gk t3 t4 wr => ∃ k : Nat, k + gk = N ∧ t4 = .int .i64 k ∧ OwI 63 w.heap.size t3 (l.take k) wr ∧ Below w.heap.size w wr)
  case atStart => exact ⟨0, by omega, rfl, hE, ba⟩
  case round =>
    obtain ⟨k, hk, rfl, hO, hB⟩ := hrel
    have hz := hB.size
    by_cases hlt : (k : Int) < N
    · have hkl : k < l.length := by rw [HN.out]; omega
      obtain ⟨g, off, rfl, d0, d1, d2, d3⟩ := (h.below hB).at_ hkl
      have HS : Hid (l.take (k + 1) = l.take k ++ [l[k]]) := by rw [List.take_append_getElem hkl]; exact rfl
      have hll : (l.take k).length ≤ 100000 := by rw [List.length_take]; omega
      generalize l[k] = x at *
      generalize l.take k = P at *
      obtain ⟨x1, x2, x3, x4⟩ := x
      simp only at d0 d1 d2 d3
      have k0 : (0 : Int) ≤ k := by omega
      have bc := below_alloc wr (.cells #[.int .i64 x1, .int .u64 x2, .int .i64 x3, .int .i64 x4] 63)
      have hB4 := hB.trans (bc.mono hz)
      have hO4 := hO.below bc
      have hY := Ri.one (Bi.new 63 x1 x2 x3 x4 wr)
      have hz4 := hB4.size
      clear bc
      go_wp2_with (at_builtin; refine wpList_appI Try.underlying29 Try.infoJ _ rfl (.tmp 12) (.tmp 17) rfl w.heap.size _ P rfl hO4 hz4 wr.heap.size 0 1 [(x1, x2, x3, x4)] 1 rfl rfl hY (by simp; omega) ?_; intro v' w' h1 h3 h4)
      have hB5 : Below w.heap.size w w' := hB4.trans ⟨h3.os, h3.tape, h3.output, h3.size, fun q hq => h3.block q (by omega) (fun e => by have := (hO4.lt q e.symm).1; omega)⟩
      clear h3 h4 hY
      try go_wp2_with fail
      go_roundg (gk - 1)
      case rel => exact ⟨k + 1, by omega, by go_num, by rw [HS.out]; exact h1, hB5⟩
      case measure => omega
    · obtain rfl : k = N := by omega
      rw [HALL.out] at hO
      go_wp2_with fail
      go_ret
      exact ⟨⟨_, rfl, hO⟩, hB⟩
end Go.Proofs.Ytagdacfgpgcbcaa
