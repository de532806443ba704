/-
  The walk of RealOrder, where x is ahead of y, or at its place, and y behind z.
-/
import Derived.Test.YtmmjagifllkdhaaLwo
namespace Go.Proofs.Ytmmjagifllkdhaa
open Go.RowKit

set_option maxHeartbeats 1000000 in
/-- x ahead of y, y behind z. -/
theorem order_road2 (x y z : Nat) (lt : Bool) (hlt : (FloatKind.f64.format.order x y == some .lt) = lt) (hgt : (FloatKind.f64.format.order x y == some .gt) = false) (o1 : ordS x y = -1) (o2 : ordS y x = 1) (o3 : ordS x x = 0) (hA : (nan x && nan y || decide (x = y)) = false) (h4 : 0 < ordS y z)
    (hx : Hid (x < 2 ^ 64)) (hy : Hid (y < 2 ^ 64)) (hz : Hid (z < 2 ^ 64)) (w : World) :
    Calls Try.prog 5 #[.float .f64 x, .float .f64 y, .float .f64 z] w fun e w' => e = .returned (.bool true) ∧ w' = w := by
  cases lt
  all_goals
    go_enter Try.func5, Try.ntmps5
    go_wp2_with (first
      | (go_at_call 14; refine (order_any _ _ _ (by assumption) (by assumption)).mono ?_; rintro e w' ⟨rfl, rfl⟩)
      | (go_at_call 13; refine (alike_any _ _ _).mono ?_; rintro e w' ⟨rfl, rfl⟩)
      | (go_at_call 22; refine (shown_any _).mono ?_; rintro e w' ⟨rfl, rfl⟩))
    go_ret
    exact ⟨rfl, rfl⟩
end Go.Proofs.Ytmmjagifllkdhaa
