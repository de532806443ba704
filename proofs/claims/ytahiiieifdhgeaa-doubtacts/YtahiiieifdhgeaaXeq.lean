/-
  Two comparisons above nought.
-/
import Derived.Test.YtahiiieifdhgeaaXbn
namespace Go.Proofs.Ytahiiieifdhgeaa.Re
open Go.RowKit

theorem eq_pos {x y : Nat} (hx : x ≤ infR) (hy : y ≤ infR) : (FloatKind.f64.format.order x y == some .eq) = decide (x = y) := by
  have hS := infR_lt_S
  rw [eqF, nan_pos hx, nan_pos hy, key_pos (by omega), key_pos (by omega), Bool.eq_iff_iff]
  simp; omega
theorem lt_pos {x y : Nat} (hx : x ≤ infR) (hy : y ≤ infR) : (FloatKind.f64.format.order x y == some .lt) = decide (x < y) := by
  have hS := infR_lt_S
  rw [ltF, nan_pos hx, nan_pos hy, key_pos (by omega), key_pos (by omega), Bool.eq_iff_iff]
  simp

end Go.Proofs.Ytahiiieifdhgeaa.Re
