/-
  The reference's place, Order, Ticks.
-/
import Derived.Test.YtmmjagifllkdhaaLwo
import Derived.Test.YtmmjagifllkdhaaBle
namespace Go.Proofs.Ytmmjagifllkdhaa
open Go.RowKit

theorem refPlace_any (x : Nat) (w : World) : Calls Try.prog 33 #[.float .f64 x] w fun e w' => e = .returned (.int .i64 (if nan x then 0 else 1)) ∧ w' = w := by
  have n1 := nanF x
  cases nx : nan x <;> rw [nx] at n1
  all_goals
    go_enter Try.func33, Try.ntmps33
    go_wp2
    go_ret
    exact ⟨rfl, rfl⟩

theorem ord_nan {x y : Nat} (hy : y < 2 ^ 64) (nx : nan x = true) (ny : nan y = false) : ordS x y = -1 ∧ ordS y x = 1 := by
  have h1 : placeS x = 0 := by unfold placeS; rw [nx]; rfl
  have h2 := place_pos hy ny
  exact ⟨cmpS_lt (by omega), cmpS_gt (by omega)⟩
theorem ord_nans {x y : Nat} (nx : nan x = true) (ny : nan y = true) : ordS x y = 0 := by
  have h1 : placeS x = 0 := by unfold placeS; rw [nx]; rfl
  have h2 : placeS y = 0 := by unfold placeS; rw [ny]; rfl
  unfold ordS; rw [h1, h2]; rfl
theorem ord_even {x y : Nat} (hx : x < 2 ^ 64) (hy : y < 2 ^ 64) (nx : nan x = false) (ny : nan y = false) (h : key x = key y) : ordS x y = if ng x && !ng y then -1 else if ng y && !ng x then 1 else 0 := by
  have hS : S = 9223372036854775808 := rfl
  unfold ordS placeS cmpS
  rw [nx, ny]
  rcases word_cases x hx with ⟨a1, a2, a3, a4⟩ | ⟨a1, a2, a3, a4⟩ <;> rcases word_cases y hy with ⟨b1, b2, b3, b4⟩ | ⟨b1, b2, b3, b4⟩ <;> rw [a1, b1] <;> simp <;> omega

set_option maxHeartbeats 1000000 in
theorem refOrder_any (x y : Nat) (w : World) (hx : Hid (x < 2 ^ 64)) (hy : Hid (y < 2 ^ 64)) : Calls Try.prog 15 #[.float .f64 x, .float .f64 y] w fun e w' => e = .returned (.int .i64 (ordS x y)) ∧ w' = w := by
  have cx := fun w => refPlace_any x w
  have cy := fun w => refPlace_any y w
  have sx := fun w => signbit_any x hx.out w
  have sy := fun w => signbit_any y hy.out w
  cases nx : nan x <;> cases ny : nan y <;> rw [nx] at cx <;> rw [ny] at cy
  · have hl := ltF x y
    have hg := gtF x y
    rw [nx, ny] at hl hg
    simp only [Bool.not_false, Bool.true_and] at hl hg
    by_cases h1 : key x < key y
    · rw [decide_eq_true h1] at hl
      rw [show ordS x y = -1 from cmpS_lt (place_lt hx.out hy.out nx ny h1)]
      clear hg h1
      go_enter Try.func15, Try.ntmps15
      go_wp2_with (go_at_call 33; refine (refPlace_any _ _).mono ?_; rintro e w' ⟨rfl, rfl⟩)
      go_ret
      exact ⟨rfl, rfl⟩
    rw [decide_eq_false h1] at hl
    by_cases h2 : key y < key x
    · rw [decide_eq_true h2] at hg
      rw [show ordS x y = 1 from cmpS_gt (place_lt hy.out hx.out ny nx h2)]
      clear h1 h2
      go_enter Try.func15, Try.ntmps15
      go_wp2_with (go_at_call 33; refine (refPlace_any _ _).mono ?_; rintro e w' ⟨rfl, rfl⟩)
      go_ret
      exact ⟨rfl, rfl⟩
    rw [decide_eq_false h2] at hg
    rw [ord_even hx.out hy.out nx ny (by omega)]
    clear h1 h2 cx cy
    have hs : ∀ (z : Nat), Hid (z < 2 ^ 64) → ∀ w, Calls Try.prog 34 #[.float .f64 z] w fun e w' => e = .returned (.bool (ng z)) ∧ w' = w := fun z hz w => signbit_any z hz.out w
    clear sx sy
    cases gx : ng x <;> cases gy : ng y
    all_goals
      go_enter Try.func15, Try.ntmps15
      go_wp2_with (first | (go_at_call 33; refine (refPlace_any _ _).mono ?_; rintro e w' ⟨rfl, rfl⟩) | (go_at_call 34; refine (hs _ (by assumption) _).mono ?_; rintro e w' ⟨rfl, rfl⟩))
      go_ret
      exact ⟨rfl, rfl⟩
  · rw [(ord_nan hx.out ny nx).2]
    go_enter Try.func15, Try.ntmps15
    go_wp2_with (go_at_call 33; refine (refPlace_any _ _).mono ?_; rintro e w' ⟨rfl, rfl⟩)
    go_ret
    exact ⟨rfl, rfl⟩
  · rw [(ord_nan hy.out nx ny).1]
    go_enter Try.func15, Try.ntmps15
    go_wp2_with (go_at_call 33; refine (refPlace_any _ _).mono ?_; rintro e w' ⟨rfl, rfl⟩)
    go_ret
    exact ⟨rfl, rfl⟩
  · rw [ord_nans nx ny]
    go_enter Try.func15, Try.ntmps15
    go_wp2_with (go_at_call 33; refine (refPlace_any _ _).mono ?_; rintro e w' ⟨rfl, rfl⟩)
    go_ret
    exact ⟨rfl, rfl⟩
end Go.Proofs.Ytmmjagifllkdhaa
