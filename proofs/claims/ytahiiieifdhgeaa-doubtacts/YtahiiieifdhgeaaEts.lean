/-
  The same doubts, the same updates; the law's theirs.
-/
import Derived.Test.YtahiiieifdhgeaaErd
import Derived.Laws.StructEq
import Derived.BigQuiet
namespace Go.Proofs.Ytahiiieifdhgeaa
open Go.RowKit Go.Maps

theorem below_drewN (B : Nat) (w : World) (n : Nat) : Below B w (w.drewN n) := ⟨rfl, rfl, rfl, Nat.le_refl _, fun _ _ => rfl⟩
def eqU (u v : Upd) : Bool := (u.n == v.n) && ((u.i == v.i) && (u.s == v.s))
theorem run_eqU_in (d : Nat) (u v : Upd) (w : World) : (Op.equalIn (d + 1 + 1) 34 (.agg #[.int .i64 u.n, .int .u64 u.i, .int .i64 u.s]) (.agg #[.int .i64 v.n, .int .u64 v.i, .int .i64 v.s])).run Try.prog w = .ok (eqU u v) w := by
  rw [run_equalIn_struct w (d + 1) 34 _ _ (by kernel_rfl) (by kernel_rfl)]
  unfold eqU
  cases h1 : (u.n == v.n) <;> cases h2 : (u.i == v.i) <;> cases h3 : (u.s == v.s) <;> simp [Program.fieldsOf, go_sem, h1, h2, h3]
theorem run_eqlU (u v : Upd) (w : World) : (binOp .eql 34 (.agg #[.int .i64 u.n, .int .u64 u.i, .int .i64 u.s]) (.agg #[.int .i64 v.n, .int .u64 v.i, .int .i64 v.s])).run Try.prog w = .ok (.bool (eqU u v)) w := by
  have h := run_eqU_in 9998 u v w
  simp [binOp, Op.equal, Op.maxDepth, h]
theorem run_neqU (u v : Upd) (w : World) : (binOp .neq 34 (.agg #[.int .i64 u.n, .int .u64 u.i, .int .i64 u.s]) (.agg #[.int .i64 v.n, .int .u64 v.i, .int .i64 v.s])).run Try.prog w = .ok (.bool (!eqU u v)) w := by
  have h := run_eqU_in 9998 u v w
  simp [binOp, Op.equal, Op.maxDepth, h]

theorem Ru.at_ {a : Option Addr} {len cap : Nat} {l : List Upd} {w : World} (h : Ru (.slice a len cap) l w) {j : Nat} (hj : j < l.length) : ∃ g off, a = some ⟨g, off, none⟩ ∧ w.cell? ⟨g, off + j * 3, none⟩ = some (.int .i64 l[j].n) ∧ w.cell? ⟨g, off + j * 3 + 1, none⟩ = some (.int .u64 l[j].i) ∧ w.cell? ⟨g, off + j * 3 + 2, none⟩ = some (.int .i64 l[j].s) := by
  obtain ⟨_, _, e, _, _, h3⟩ := h
  cases e
  rcases h3 with h3 | ⟨g, off, rfl, h3⟩
  · omega
  · exact ⟨g, off, rfl, h3 j hj⟩


theorem run_eqD_in (d : Nat) (x : Dbt) (w : World) : (Op.equalIn (d + 1 + 1 + 1) 68 (.agg #[.int .i64 x.n, .int .u64 x.i, .int .i64 x.s, .int .u64 (x.f : Int), .int .u64 x.a, .int .u64 x.t, .int .u64 x.u]) (.agg #[.int .i64 x.n, .int .u64 x.i, .int .i64 x.s, .int .u64 (x.f : Int), .int .u64 x.a, .int .u64 x.t, .int .u64 x.u])).run Try.prog w = .ok true w := by
  rw [run_equalIn_struct w (d + 1 + 1) 68 _ _ (by kernel_rfl) (by kernel_rfl)]
  have h := run_eqU_in d ⟨x.n, x.i, x.s⟩ ⟨x.n, x.i, x.s⟩
  have e : eqU ⟨x.n, x.i, x.s⟩ ⟨x.n, x.i, x.s⟩ = true := by simp [eqU]
  rw [e] at h
  simp only at h
  simp [Program.fieldsOf, go_sem, h]
theorem run_neqD (x : Dbt) (w : World) : (binOp .neq 68 (.agg #[.int .i64 x.n, .int .u64 x.i, .int .i64 x.s, .int .u64 (x.f : Int), .int .u64 x.a, .int .u64 x.t, .int .u64 x.u]) (.agg #[.int .i64 x.n, .int .u64 x.i, .int .i64 x.s, .int .u64 (x.f : Int), .int .u64 x.a, .int .u64 x.t, .int .u64 x.u])).run Try.prog w = .ok (.bool false) w := by
  have h := run_eqD_in 9997 x w
  simp [binOp, Op.equal, Op.maxDepth, h]

set_option maxHeartbeats 1000000 in
theorem sameD_any (v v' : Value) (l : List Dbt) (hl : l.length ≤ 1000000) (w : World) (h : Rb v l w) (h' : Rb v' l w) :
    Calls Try.prog 16 #[v, v'] w fun e w' => e = .returned (.bool true) ∧ Below w.heap.size w w' := by
  obtain ⟨a, cap, rfl, _⟩ := id h
  obtain ⟨a', cap', rfl, _⟩ := id h'
  obtain ⟨N, HN⟩ : ∃ N, Hid (l.length = N) := ⟨_, rfl⟩
  have hN : N ≤ 1000000 := by rw [← HN.out]; exact hl
  have hNN : ((N : Int) != N) = false := by simp
  have hat : ∀ k (hk : k < l.length) wr, Below w.heap.size w wr → (∃ g off, a = some ⟨g, off, none⟩ ∧ C7 g (off + k * 7) l[k] wr) ∧ (∃ g off, a' = some ⟨g, off, none⟩ ∧ C7 g (off + k * 7) l[k] wr) := fun k hk wr hb => by
    obtain ⟨g, off, c, e, _, _, _, h7⟩ := (h.below hb).at hk
    obtain ⟨g', off', c', e', _, _, _, h7'⟩ := (h'.below hb).at hk
    exact ⟨⟨g, off, (Value.slice.inj e).1, h7⟩, ⟨g', off', (Value.slice.inj e').1, h7'⟩⟩
  rw [HN.out]
  clear h h'
  go_enter Try.func16, Try.ntmps16
  go_wp2_with fail
  go_loopg [5] N (fun gk t5 wr => ∃ k : Nat, k + gk = N ∧ t5 = .int .i64 k ∧ Below w.heap.size w wr)
  case atStart => exact ⟨0, by omega, rfl, Below.refl _ _⟩
  case round =>
    obtain ⟨k, hk, rfl, hB⟩ := hrel
    by_cases hlt : (k : Int) < N
    · have hkl : k < l.length := by rw [HN.out]; omega
      obtain ⟨⟨g, off, rfl, d0, d1, d2, d3, d4, d5, d6⟩, ⟨g', off', rfl, c0, c1, c2, c3, c4, c5, c6⟩⟩ := hat k hkl wr hB
      have hq := run_neqD l[k]
      clear hat
      generalize l[k] = x at *
      have k0 : (0 : Int) ≤ k := by omega
      go_wp2_with fail
      go_quiet (fail)
      go_wp2_with fail
      go_roundg (gk - 1)
      case rel => exact ⟨k + 1, by omega, by go_num, hB.trans (below_drewN _ _ _)⟩
      case measure => omega
    · go_wp2_with fail
      go_ret
      exact ⟨rfl, hB⟩

set_option maxHeartbeats 1000000 in
theorem sameU_any (v v' : Value) (l : List Upd) (hl : l.length ≤ 1000000) (w : World) (h : Ru v l w) (h' : Ru v' l w) :
    Calls Try.prog 13 #[v, v'] w fun e w' => e = .returned (.bool true) ∧ Below w.heap.size w w' := by
  obtain ⟨a, cap, rfl⟩ : ∃ a cap, v = .slice a l.length cap := by obtain ⟨a, cap, e, _⟩ := h; exact ⟨a, cap, e⟩
  obtain ⟨a', cap', rfl⟩ : ∃ a cap, v' = .slice a l.length cap := by obtain ⟨a, cap, e, _⟩ := h'; exact ⟨a, cap, e⟩
  obtain ⟨N, HN⟩ : ∃ N, Hid (l.length = N) := ⟨_, rfl⟩
  rw [HN.out]
  have hN : N ≤ 1000000 := by rw [← HN.out]; exact hl
  have hNN : ((N : Int) != N) = false := by simp
  go_enter Try.func13, Try.ntmps13
  go_wp2_with fail
  go_loopg [5] N (fun gk t5 wr => ∃ k : Nat, k + gk = N ∧ t5 = .int .i64 k ∧ Below w.heap.size w wr)
  case atStart => exact ⟨0, by omega, rfl, Below.refl _ _⟩
  case round =>
    obtain ⟨k, hk, rfl, hB⟩ := hrel
    by_cases hlt : (k : Int) < N
    · have hkl : k < l.length := by rw [HN.out]; omega
      obtain ⟨g, off, rfl, d0, d1, d2⟩ := (h.below hB).at_ hkl
      obtain ⟨g', off', rfl, c0, c1, c2⟩ := (h'.below hB).at_ hkl
      have hq := fun w => run_neqU l[k] l[k] w
      rw [show eqU l[k] l[k] = true from by simp [eqU], Bool.not_true] at hq
      generalize l[k] = x at *
      have k0 : (0 : Int) ≤ k := by omega
      go_wp2_with fail
      go_quiet (fail)
      go_wp2_with fail
      go_roundg (gk - 1)
      case rel => exact ⟨k + 1, by omega, by go_num, hB.trans (below_drewN _ _ _)⟩
      case measure => omega
    · go_wp2_with fail
      go_ret
      exact ⟨rfl, hB⟩

set_option maxHeartbeats 1000000 in
theorem theirs_any (v : Value) (l : List Dbt) (hl : l.length ≤ 100000) (w : World) (h : Rb v l w) :
    Calls Try.prog 17 #[v] w fun e w' => (∃ v', e = .returned v' ∧ OwD 68 w.heap.size v' l w') ∧ Below w.heap.size w w' := by
  obtain ⟨a, cap, rfl, _⟩ := id h
  have ba := below_alloc w (.cells #[] 68)
  have hE := OwD.empty (B := w.heap.size) (heap_alloc_new w (.cells #[] 68)) (Nat.le_refl _)
  obtain ⟨N, HN⟩ : ∃ N, Hid (l.length = N) := ⟨_, rfl⟩
  have hN : N ≤ 100000 := by rw [← HN.out]; exact hl
  have HALL : Hid (l.take N = l) := by rw [← HN.out, List.take_length]; exact rfl
  have hat : ∀ k (hk : k < l.length) wr, Below w.heap.size w wr → (∃ g off, a = some ⟨g, off, none⟩ ∧ C7 g (off + k * 7) l[k] wr) := fun k hk wr hb => by
    obtain ⟨g, off, c, e, _, _, _, h7⟩ := (h.below hb).at hk
    exact ⟨g, off, (Value.slice.inj e).1, h7⟩
  rw [HN.out]
  clear h
  go_enter Try.func17, Try.ntmps17
  go_wp2_with fail
  go_loopg [3, 4] N (fun gk t3 t4 wr => ∃ k : Nat, k + gk = N ∧ t4 = .int .i64 k ∧ OwD 68 w.heap.size t3 (l.take k) wr ∧ Below w.heap.size w wr)
  case atStart => exact ⟨0, by omega, rfl, hE, ba⟩
  case round =>
    obtain ⟨k, hk, rfl, hO, hB⟩ := hrel
    have hz := hB.size
    by_cases hlt : (k : Int) < N
    · have hkl : k < l.length := by rw [HN.out]; omega
      obtain ⟨g, off, rfl, d0, d1, d2, d3, d4, d5, d6⟩ := hat k hkl wr hB
      have HS : Hid (l.take (k + 1) = l.take k ++ [l[k]]) := by rw [List.take_append_getElem hkl]; exact rfl
      have hll : (l.take k).length ≤ 100000 := by rw [List.length_take]; omega
      clear hat
      generalize l[k] = x at *
      generalize l.take k = P at *
      have k0 : (0 : Int) ≤ k := by omega
      have bc := below_alloc wr (dC x 68)
      have hB4 := hB.trans (bc.mono hz)
      have hO4 := hO.below bc
      have hY := Rb.one (Bd.new 68 x wr)
      have hz4 := hB4.size
      unfold dC at hB4 hO4 hY hz4
      clear bc
      go_wp2_with (at_builtin; refine wpList_appD Try.underlying29 Try.infoE _ rfl (.tmp 12) (.tmp 17) rfl w.heap.size _ P rfl hO4 hz4 wr.heap.size 0 1 [x] 1 rfl rfl hY (by simp; omega) ?_; intro v' w' h1 h3 h4)
      have hB5 : Below w.heap.size w w' := hB4.trans ⟨h3.os, h3.tape, h3.output, h3.size, fun q hq => h3.block q (by omega) (fun e => by have := (hO4.lt q e.symm).1; omega)⟩
      clear h3 h4 hY
      try go_wp2_with fail
      go_roundg (gk - 1)
      case rel => exact ⟨k + 1, by omega, by go_num, by rw [HS.out]; exact h1, hB5⟩
      case measure => omega
    · obtain rfl : k = N := by omega
      rw [HALL.out] at hO
      go_wp2_with fail
      go_ret
      exact ⟨⟨_, rfl, hO⟩, hB⟩
end Go.Proofs.Ytahiiieifdhgeaa
