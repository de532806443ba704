/-
  Leaves: what is no number, comparisons by keys, Clean.
-/
import Derived.Test.YtpoofjnfaijjjaaGreatDoorMDXop
import Derived.Test.YtpoofjnfaijjjaaGreatDoorProg
import Derived.WalkSpells
import Derived.Deep.LoopGhost
import Derived.Deep.QuietTactic
import Derived.BigQuiet
import Derived.Laws.MathBits
namespace Go.Proofs.YtpoofjnfaijjjaaGreatDoor.Do.Re
open Go.RowKit
theorem eqF (x y : Nat) : (FloatKind.f64.format.order x y == some .eq) = (!nan x && !nan y && decide (key x = key y)) := by
  show (fm.order x y == some .eq) = _
  rw [order_eq]
  cases nan x <;> cases nan y <;> simp [compare_of]
  by_cases h : key x = key y
  · simp [h]
  · by_cases h' : key x < key y <;> simp [h, h']
theorem neF (x y : Nat) : (FloatKind.f64.format.order x y != some .eq) = !(!nan x && !nan y && decide (key x = key y)) := by rw [← eqF]; rfl
theorem ltF (x y : Nat) : (FloatKind.f64.format.order x y == some .lt) = (!nan x && !nan y && decide (key x < key y)) := by
  show (fm.order x y == some .lt) = _
  rw [order_eq]
  cases nan x <;> cases nan y <;> simp [compare_of]
  by_cases h : key x < key y
  · simp [h]
  · by_cases h' : key x = key y <;> simp [h, h']
theorem gtF (x y : Nat) : (FloatKind.f64.format.order x y == some .gt) = (!nan x && !nan y && decide (key y < key x)) := by
  show (fm.order x y == some .gt) = _
  rw [order_eq]
  cases nan x <;> cases nan y <;> simp [compare_of]
  by_cases h : key x < key y
  · have : ¬ key y < key x := by omega
    simp [h, this]
  · by_cases h' : key x = key y
    · simp [h']
    · have : key y < key x := by omega
      simp [h, h', this]
theorem nanF (x : Nat) : (FloatKind.f64.format.order x x != some .eq) = nan x := by rw [neF]; cases nan x <;> simp
theorem noNumber_any (x : Nat) (w : World) : Calls Tryz.prog 195 #[.float .f64 x] w fun e w' => e = .returned (.bool (nan x)) ∧ w' = w := by
  have h := nanF x
  go_enter Tryz.func195, Tryz.ntmps195
  go_wp2
  go_ret
  exact ⟨rfl, rfl⟩
def cleanS (x l h : Nat) : Nat :=
  if nan x then l else if nan l then l else if nan h then l else if FloatKind.f64.format.order l h == some .gt then l
  else if FloatKind.f64.format.order x l == some .lt then l else if FloatKind.f64.format.order x h == some .gt then h else if FloatKind.f64.format.order x 0 == some .eq then 0 else x
theorem clean_any (x l h : Nat) (w : World) : Calls Tryz.prog 197 #[.float .f64 x, .float .f64 l, .float .f64 h] w fun e w' => e = .returned (.float .f64 (cleanS x l h)) ∧ w' = w := by
  unfold cleanS
  cases h1 : nan x
  case true =>
    go_enter Tryz.func197, Tryz.ntmps197
    go_wp2_with (go_at_call 195; refine (noNumber_any _ _).mono ?_; rintro e w' ⟨rfl, rfl⟩)
    go_ret
    exact ⟨rfl, rfl⟩
  cases h2 : nan l
  case true =>
    go_enter Tryz.func197, Tryz.ntmps197
    go_wp2_with (go_at_call 195; refine (noNumber_any _ _).mono ?_; rintro e w' ⟨rfl, rfl⟩)
    go_ret
    exact ⟨rfl, rfl⟩
  cases h3 : nan h
  case true =>
    go_enter Tryz.func197, Tryz.ntmps197
    go_wp2_with (go_at_call 195; refine (noNumber_any _ _).mono ?_; rintro e w' ⟨rfl, rfl⟩)
    go_ret
    exact ⟨rfl, rfl⟩
  cases h4 : FloatKind.f64.format.order l h == some .gt
  case true =>
    go_enter Tryz.func197, Tryz.ntmps197
    go_wp2_with (go_at_call 195; refine (noNumber_any _ _).mono ?_; rintro e w' ⟨rfl, rfl⟩)
    go_ret
    exact ⟨rfl, rfl⟩
  cases h5 : FloatKind.f64.format.order x l == some .lt
  case true =>
    go_enter Tryz.func197, Tryz.ntmps197
    go_wp2_with (go_at_call 195; refine (noNumber_any _ _).mono ?_; rintro e w' ⟨rfl, rfl⟩)
    go_ret
    exact ⟨rfl, rfl⟩
  cases h6 : FloatKind.f64.format.order x h == some .gt
  case true =>
    go_enter Tryz.func197, Tryz.ntmps197
    go_wp2_with (go_at_call 195; refine (noNumber_any _ _).mono ?_; rintro e w' ⟨rfl, rfl⟩)
    go_ret
    exact ⟨rfl, rfl⟩
  cases h7 : FloatKind.f64.format.order x 0 == some .eq
  all_goals
    go_enter Tryz.func197, Tryz.ntmps197
    go_wp2_with (go_at_call 195; refine (noNumber_any _ _).mono ?_; rintro e w' ⟨rfl, rfl⟩)
    go_ret
    exact ⟨rfl, rfl⟩
end Go.Proofs.YtpoofjnfaijjjaaGreatDoor.Do.Re
