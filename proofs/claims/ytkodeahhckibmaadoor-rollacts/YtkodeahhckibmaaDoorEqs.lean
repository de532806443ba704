/-
  Updates and entries that are compared.
-/
import Derived.Test.YtkodeahhckibmaaDoorKee
import Derived.Laws.StructEq
namespace Go.Proofs.YtkodeahhckibmaaDoor
open Go.RowKit

theorem below_drewN (B : Nat) (w : World) (n : Nat) : Below B w (w.drewN n) := ⟨rfl, rfl, rfl, Nat.le_refl _, fun _ _ => rfl⟩

def eqU (u v : Upd) : Bool := (u.n == v.n) && ((u.i == v.i) && (u.s == v.s))
theorem run_eqU_in (d : Nat) (u v : Upd) (w : World) : (Op.equalIn (d + 1 + 1) 34 (.agg #[.int .i64 u.n, .int .u64 u.i, .int .i64 u.s]) (.agg #[.int .i64 v.n, .int .u64 v.i, .int .i64 v.s])).run Tryd.prog w = .ok (eqU u v) w := by
  rw [run_equalIn_struct w (d + 1) 34 _ _ (by kernel_rfl) (by kernel_rfl)]
  unfold eqU
  cases h1 : (u.n == v.n) <;> cases h2 : (u.i == v.i) <;> cases h3 : (u.s == v.s) <;> simp [Program.fieldsOf, go_sem, h1, h2, h3]
theorem run_eqE_in (d : Nat) (b c : Bool) (u v : Upd) (w : World) : (Op.equalIn (d + 1 + 1 + 1) 50 (.agg #[.bool b, .int .i64 u.n, .int .u64 u.i, .int .i64 u.s]) (.agg #[.bool c, .int .i64 v.n, .int .u64 v.i, .int .i64 v.s])).run Tryd.prog w = .ok ((b == c) && eqU u v) w := by
  rw [run_equalIn_struct w (d + 1 + 1) 50 _ _ (by kernel_rfl) (by kernel_rfl)]
  have h := run_eqU_in d u v
  cases h1 : (b == c) <;> cases h2 : eqU u v <;> simp [Program.fieldsOf, go_sem, h1, h, h2]
theorem run_eqlU (u v : Upd) (w : World) : (binOp .eql 34 (.agg #[.int .i64 u.n, .int .u64 u.i, .int .i64 u.s]) (.agg #[.int .i64 v.n, .int .u64 v.i, .int .i64 v.s])).run Tryd.prog w = .ok (.bool (eqU u v)) w := by
  have h := run_eqU_in 9998 u v w
  simp [binOp, Op.equal, Op.maxDepth, h]
theorem run_neqU (u v : Upd) (w : World) : (binOp .neq 34 (.agg #[.int .i64 u.n, .int .u64 u.i, .int .i64 u.s]) (.agg #[.int .i64 v.n, .int .u64 v.i, .int .i64 v.s])).run Tryd.prog w = .ok (.bool (!eqU u v)) w := by
  have h := run_eqU_in 9998 u v w
  simp [binOp, Op.equal, Op.maxDepth, h]
theorem run_neqE (b c : Bool) (u v : Upd) (w : World) : (binOp .neq 50 (.agg #[.bool b, .int .i64 u.n, .int .u64 u.i, .int .i64 u.s]) (.agg #[.bool c, .int .i64 v.n, .int .u64 v.i, .int .i64 v.s])).run Tryd.prog w = .ok (.bool (!((b == c) && eqU u v))) w := by
  have h := run_eqE_in 9997 b c u v w
  simp [binOp, Op.equal, Op.maxDepth, h]

/-- Does the entry differ? -/
def neE (a b : Option Upd) : Bool := !((a.isSome == b.isSome) && eqU (ud a) (ud b))

set_option maxHeartbeats 1000000 in
theorem news_any (b p q : Nat) (me : Int) (f g : Tab) (j : Nat) (hj : j < 64) (w : World) (hP : Pt b p w) (hR : Rl p me f w) (hE : En q g w) :
    Calls Tryd.prog 36 #[.int .i64 j, .pointer (some ⟨b, 0, none⟩), .pointer (some ⟨q, 0, none⟩)] w fun e w' => e = .returned (.bool (neE (f j) (g j))) ∧ Below w.heap.size w w' := by
  have k0 : (0 : Int) ≤ j := by omega
  have k1 : (j : Int) < 64 := by omega
  have x := hP.c
  have x0 := hR.c0 hj
  have x1 := hR.c1 hj
  have x2 := hR.c2 hj
  have x3 := hR.c3 hj
  have y0 := hE.c0 hj
  have y1 := hE.c1 hj
  have y2 := hE.c2 hj
  have y3 := hE.c3 hj
  have hq := run_neqE (f j).isSome (g j).isSome (ud (f j)) (ud (g j))
  unfold neE
  generalize (f j).isSome = c at *
  generalize (g j).isSome = d at *
  generalize ud (f j) = u at *
  generalize ud (g j) = v at *
  generalize (!((c == d) && eqU u v)) = r at *
  go_enter Tryd.func36, Tryd.ntmps36
  go_wp2_with fail
  go_quiet (fail)
  go_wp2_with fail
  go_ret
  exact ⟨rfl, below_drewN _ _ _⟩
end Go.Proofs.YtkodeahhckibmaaDoor
