/-
  Places, and the walk of RealOrder, where x is ahead of y, and z is not behind.
-/
import Derived.Test.YtmmjagifllkdhaaTck
namespace Go.Proofs.Ytmmjagifllkdhaa
open Go.RowKit

/-! ## Places -/
/-- What a word is, by its sign. -/
theorem word_cases (x : Nat) (hx : x < 2 ^ 64) : (ng x = false ∧ x < S ∧ rung x = x ∧ key x = x) ∨ (ng x = true ∧ S ≤ x ∧ rung x = x - S ∧ key x = S - (x : Int)) := by
  unfold key
  by_cases h : x < S
  · left
    have h1 := ng_pos h
    have h2 := rung_pos h
    refine ⟨h1, h, h2, ?_⟩
    rw [h1, h2]; rfl
  · right
    have h1 : ng x = true := by unfold ng S; unfold S at h; simp; omega
    have h2 : rung x = x - S := by unfold rung S; unfold S at h; omega
    refine ⟨h1, by omega, h2, ?_⟩
    rw [h1, h2]; simp; omega
theorem place_lt {x y : Nat} (hx : x < 2 ^ 64) (hy : y < 2 ^ 64) (nx : nan x = false) (ny : nan y = false) (h : key x < key y) : placeS x < placeS y := by
  unfold placeS
  rw [nx, ny]
  have hS : S = 9223372036854775808 := rfl
  rcases word_cases x hx with ⟨a1, a2, a3, a4⟩ | ⟨a1, a2, a3, a4⟩ <;> rcases word_cases y hy with ⟨b1, b2, b3, b4⟩ | ⟨b1, b2, b3, b4⟩ <;> rw [a1, b1] <;> simp only [Bool.false_eq_true, if_false, if_true] <;> omega
theorem place_pos {x : Nat} (hx : x < 2 ^ 64) (nx : nan x = false) : 0 < placeS x := by
  unfold placeS
  have h : rung x ≤ infR := by unfold nan at nx; simp at nx; exact nx
  have hI : infR = 9218868437227405312 := rfl
  have hS : S = 9223372036854775808 := rfl
  rw [nx]
  rcases word_cases x hx with ⟨a1, a2, a3, a4⟩ | ⟨a1, a2, a3, a4⟩ <;> rw [a1] <;> simp only [Bool.false_eq_true, if_false, if_true] <;> omega
theorem place_inj {x y : Nat} (hx : x < 2 ^ 64) (hy : y < 2 ^ 64) : (placeS x = placeS y) ↔ (nan x && nan y || decide (x = y)) = true := by
  cases nx : nan x <;> cases ny : nan y
  · unfold placeS
    rw [nx, ny]
    have hS : S = 9223372036854775808 := rfl
    simp only [Bool.false_and, Bool.false_or, decide_eq_true_iff]
    rcases word_cases x hx with ⟨a1, a2, a3, a4⟩ | ⟨a1, a2, a3, a4⟩ <;> rcases word_cases y hy with ⟨b1, b2, b3, b4⟩ | ⟨b1, b2, b3, b4⟩ <;> rw [a1, b1] <;> simp only [Bool.false_eq_true, if_false, if_true] <;> omega
  · have h1 := place_pos hx nx
    have h2 : placeS y = 0 := by unfold placeS; rw [ny]; rfl
    have h3 : x ≠ y := fun e => by rw [e, ny] at nx; cases nx
    simp [h3]; omega
  · have h1 := place_pos hy ny
    have h2 : placeS x = 0 := by unfold placeS; rw [nx]; rfl
    have h3 : x ≠ y := fun e => by rw [e, ny] at nx; cases nx
    simp [h3]; omega
  · have h2 : placeS x = 0 := by unfold placeS; rw [nx]; rfl
    have h3 : placeS y = 0 := by unfold placeS; rw [ny]; rfl
    simp [h2, h3]

theorem cmpS_lt {a b : Int} (h : a < b) : cmpS a b = -1 := by unfold cmpS; rw [if_pos h]
theorem cmpS_gt {a b : Int} (h : b < a) : cmpS a b = 1 := by unfold cmpS; rw [if_neg (by omega), if_pos h]
theorem cmpS_eq (a : Int) : cmpS a a = 0 := by unfold cmpS; rw [if_neg (by omega), if_neg (by omega)]

set_option maxHeartbeats 1000000 in
/-- The walk, where x is ahead of y, and z is not behind. -/
theorem order_road (x y z : Nat) (lt : Bool) (hlt : (FloatKind.f64.format.order x y == some .lt) = lt) (hgt : (FloatKind.f64.format.order x y == some .gt) = false)
    (hx : Hid (x < 2 ^ 64)) (hy : Hid (y < 2 ^ 64)) (hz : Hid (z < 2 ^ 64)) (w : World)
    (o1 : ordS x y = -1) (o2 : ordS y x = 1) (o3 : ordS x x = 0) (hA : (nan x && nan y || decide (x = y)) = false) (h4 : ordS y z ≤ 0) (h5 : ordS x z ≤ 0) :
    Calls Try.prog 5 #[.float .f64 x, .float .f64 y, .float .f64 z] w fun e w' => e = .returned (.bool true) ∧ w' = w := by
  cases lt
  all_goals
    go_enter Try.func5, Try.ntmps5
    go_wp2_with (first
      | (go_at_call 14; refine (order_any _ _ _ (by assumption) (by assumption)).mono ?_; rintro e w' ⟨rfl, rfl⟩)
      | (go_at_call 13; refine (alike_any _ _ _).mono ?_; rintro e w' ⟨rfl, rfl⟩)
      | (go_at_call 22; refine (shown_any _).mono ?_; rintro e w' ⟨rfl, rfl⟩))
    go_ret
    exact ⟨rfl, rfl⟩
end Go.Proofs.Ytmmjagifllkdhaa
