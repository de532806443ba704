/-
  The leaves of rank and of its reference: what may be.
-/
import Derived.Test.YtahiiieifdhgeaaProg
import Derived.WalkKit
import Derived.WalkSpells
import Derived.WalkLawsBesides
import Derived.Deep.LoopGhost
import Derived.Deep.QuietTactic
import Derived.BigQuiet
namespace Go.Proofs.Ytahiiieifdhgeaa
open Go.RowKit

def mayS (n s : Int) : Bool := decide (0 ≤ n) && (decide (n < 64) && (decide (0 ≤ s) && decide (s ≤ 3)))
theorem upd_may (n i s : Int) (w : World) : Calls Try.prog 36 #[.agg #[.int .i64 n, .int .u64 i, .int .i64 s]] w fun e w' => e = .returned (.bool (mayS n s)) ∧ Below w.heap.size w w' := by
  go_enter Try.func36, Try.ntmps36
  by_cases h1 : 0 ≤ n
  · by_cases h2 : n < 64
    · by_cases h3 : 0 ≤ s
      · by_cases h4 : s ≤ 3
        · go_wp2_with fail
          go_ret
          exact ⟨by simp [mayS, h1, h2, h3, h4], (Below.refl _ _).alloc (Nat.le_refl _) _⟩
        · go_wp2_with fail
          go_ret
          exact ⟨by simp [mayS, h1, h2, h3, h4], (Below.refl _ _).alloc (Nat.le_refl _) _⟩
      · go_wp2_with fail
        go_ret
        exact ⟨by simp [mayS] <;> omega, (Below.refl _ _).alloc (Nat.le_refl _) _⟩
    · go_wp2_with fail
      go_ret
      exact ⟨by simp [mayS] <;> omega, (Below.refl _ _).alloc (Nat.le_refl _) _⟩
  · go_wp2_with fail
    go_ret
    exact ⟨by simp [mayS] <;> omega, (Below.refl _ _).alloc (Nat.le_refl _) _⟩

theorem fmay_any (n i s : Int) (w : World) : Calls Try.prog 27 #[.agg #[.int .i64 n, .int .u64 i, .int .i64 s]] w fun e w' => e = .returned (.bool (mayS n s)) ∧ Below w.heap.size w w' := by
  go_enter Try.func27, Try.ntmps27
  by_cases h1 : 0 ≤ n
  · by_cases h2 : n < 64
    · by_cases h3 : 0 ≤ s
      · by_cases h4 : s ≤ 3
        · go_wp2_with fail
          go_ret
          exact ⟨by simp [mayS, h1, h2, h3, h4], (Below.refl _ _).alloc (Nat.le_refl _) _⟩
        · go_wp2_with fail
          go_ret
          exact ⟨by simp [mayS, h1, h2, h3, h4], (Below.refl _ _).alloc (Nat.le_refl _) _⟩
      · go_wp2_with fail
        go_ret
        exact ⟨by simp [mayS] <;> omega, (Below.refl _ _).alloc (Nat.le_refl _) _⟩
    · go_wp2_with fail
      go_ret
      exact ⟨by simp [mayS] <;> omega, (Below.refl _ _).alloc (Nat.le_refl _) _⟩
  · go_wp2_with fail
    go_ret
    exact ⟨by simp [mayS] <;> omega, (Below.refl _ _).alloc (Nat.le_refl _) _⟩

theorem may_any (n i s : Int) (w : World) : Calls Try.prog 20 #[.agg #[.int .i64 n, .int .u64 i, .int .i64 s]] w fun e w' => e = .returned (.bool (mayS n s)) ∧ Below w.heap.size w w' := by
  go_enter Try.func20, Try.ntmps20
  go_wp2_with (go_at_call 36; refine (upd_may _ _ _ _).mono ?_; rintro e w1 ⟨rfl, hb⟩)
  go_ret
  exact ⟨rfl, ((Below.refl _ _).alloc (Nat.le_refl _) _).trans (hb.mono (by simp))⟩

end Go.Proofs.Ytahiiieifdhgeaa
