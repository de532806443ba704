/-
  More of waits: comparisons above nought, what a wait is at the ends.
-/
import Derived.Test.YtahiiieifdhgeaaXrt
namespace Go.Proofs.Ytahiiieifdhgeaa.Re
open Go.RowKit

/-! ## Comparisons above nought -/
theorem le_pos {x y : Nat} (hx : x ≤ infR) (hy : y ≤ infR) (h : x ≤ y) : (FloatKind.f64.format.order x y == some .lt || FloatKind.f64.format.order x y == some .eq) = true := by
  have hS := infR_lt_S
  rw [leF, nan_pos hx, nan_pos hy, key_pos (by omega), key_pos (by omega)]
  simp; omega
theorem ge_pos {x y : Nat} (hx : x ≤ infR) (hy : y ≤ infR) (h : y ≤ x) : (FloatKind.f64.format.order x y == some .gt || FloatKind.f64.format.order x y == some .eq) = true := by
  have hS := infR_lt_S
  rw [geF, nan_pos hx, nan_pos hy, key_pos (by omega), key_pos (by omega)]
  simp; omega
theorem same_pos {x : Nat} (hx : x ≤ infR) : (FloatKind.f64.format.order x x == some .eq) = true := by rw [eqF, nan_pos hx]; simp

theorem wait_none (b : Nat) (k m : Int) : waitS b k 0 m = greatS b k := by unfold waitS; rw [if_pos (Int.le_refl 0)]
theorem wait_zero (k m : Int) : waitS 0 k 0 m = 0 := by
  rw [wait_none]
  unfold greatS prodS
  rw [V_zero, Nat.zero_mul, Nat.zero_mul, show rd 0 = 0 from rfl]
  rfl
theorem wait_full {b : Nat} {k t m : Int} (h0 : 0 < t) (h : m ≤ t) : waitS b k t m = b := by
  unfold waitS
  rw [if_neg (by omega), if_pos h]
theorem wait_less {b : Nat} {k t m : Int} (h0 : t ≤ 0) : waitS b k t m = greatS b k := by
  unfold waitS
  rw [if_pos h0]
theorem clean_none {base : Nat} (h : (FloatKind.f64.format.order base 0 == some .gt) = false) : cleanS base 0 K1000 = 0 := by
  have k0 : key 0 = 0 := rfl
  have n0 : nan 0 = false := rfl
  have hk : key 0 ≤ key K1000 := by decide
  rw [gtF, n0, k0] at h
  rw [cleanS_eq n0 (by decide) hk, k0]
  cases nx : nan base
  · rw [nx] at h
    simp at h
    simp only [Bool.false_eq_true, if_false]
    split
    · rfl
    · rw [if_neg (by omega), if_pos (by omega)]
  · rfl

end Go.Proofs.Ytahiiieifdhgeaa.Re
