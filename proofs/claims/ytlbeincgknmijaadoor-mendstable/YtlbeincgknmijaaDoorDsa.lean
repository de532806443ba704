/-
  Same, where both are the same; the reference's Add; what is shown.
-/
import Derived.Test.YtlbeincgknmijaaDoorDad
import Derived.Test.YtlbeincgknmijaaDoorDjo
import Derived.Laws.StructEq
namespace Go.Proofs.YtlbeincgknmijaaDoor
open Go.RowKit

def eqS (u v : Sn) : Bool := (u.f == v.f) && (u.t == v.t)
theorem eqS_refl (u : Sn) : eqS u u = true := by simp [eqS]
theorem run_eqS_in (d : Nat) (u v : Sn) (w : World) : (Op.equalIn (d + 1 + 1) 36 (.agg #[.int .u64 u.f, .int .u64 u.t]) (.agg #[.int .u64 v.f, .int .u64 v.t])).run Tryd.prog w = .ok (eqS u v) w := by
  rw [run_equalIn_struct w (d + 1) 36 _ _ (by kernel_rfl) (by kernel_rfl)]
  unfold eqS
  cases h1 : (u.f == v.f) <;> cases h2 : (u.t == v.t) <;> simp [Program.fieldsOf, go_sem, h1, h2]
theorem run_neqS (u v : Sn) (w : World) : (binOp .neq 36 (.agg #[.int .u64 u.f, .int .u64 u.t]) (.agg #[.int .u64 v.f, .int .u64 v.t])).run Tryd.prog w = .ok (.bool (!eqS u v)) w := by
  have h := run_eqS_in 9998 u v w
  simp [binOp, Op.equal, Op.maxDepth, h]

set_option maxRecDepth 100000 in
set_option maxHeartbeats 1000000 in
theorem same_any (v u : Value) (l : List Sn) (w : World) (hlen : l.length ≤ 1000000) (h1 : Rs v l w) (h2 : Rs u l w) :
    Calls Tryd.prog 9 #[v, u] w fun e w' => e = .returned (.bool true) ∧ Below w.heap.size w w' := by
  obtain ⟨⟨a1, cap1, rfl, m1, n1, k1⟩, _⟩ := id h1
  obtain ⟨⟨a2, cap2, rfl, m2, n2, k2⟩, _⟩ := id h2
  have hl : (l.length : Int) ≤ 1000000 := by omega
  go_enter Tryd.func9, Tryd.ntmps9
  go_wp2_with fail
  go_loopg [5] l.length (fun gk t5 wr => ∃ i : Nat, i + gk = l.length ∧ t5 = .int .i64 i ∧ Below w.heap.size w wr)
  case atStart => exact ⟨0, by omega, rfl, Below.refl _ _⟩
  case round =>
    obtain ⟨i, hi, rfl, hB⟩ := hrel
    by_cases hlt : (i : Int) < l.length
    · have i0 : (0 : Int) ≤ i := by omega
      have hil : i < l.length := by omega
      rcases k1 with k1 | ⟨g1, o1, rfl, k1⟩
      · omega
      rcases k2 with k2 | ⟨g2, o2, rfl, k2⟩
      · omega
      obtain ⟨x0, x1⟩ := (h1.below hB).at hil
      obtain ⟨y0, y1⟩ := (h2.below hB).at hil
      have hq := run_neqS (el l i) (el l i)
      rw [eqS_refl] at hq
      generalize (el l i) = x at *
      clear k1 k2
      go_wp2_with fail
      go_quiet (fail)
      go_wp2_with fail
      go_roundg (gk - 1)
      case rel => exact ⟨i + 1, by omega, by go_num, hB.trans (below_drewN _ _ _)⟩
      case measure => omega
    · go_wp2_with fail
      go_ret
      exact ⟨rfl, hB⟩

theorem join_one_same {l : List Sn} {n : Int} (h : Up 0 l) (n0 : 0 ≤ n) (n1 : n < 18446744073709551615) (hs : hasS l n = true) : joinS l [⟨n, n⟩] = l := by
  refine uniq _ _ 0 (joinS_up h (one_up n0 n1)) h fun m => ?_
  rw [joinS_has h (one_up n0 n1), one_has]
  by_cases e : n = m
  · subst e; simp [hs]
  · simp [e]

theorem shown_add : addS [⟨1, 3⟩, ⟨5, 6⟩] 4 = ([⟨1, 6⟩], true) := by kernel_rfl

end Go.Proofs.YtlbeincgknmijaaDoor
