/-
  The leaves of rank and of its reference: what may be, what is live, what is newer, the incarnation behind, what denies.
-/
import Derived.Test.YtkodeahhckibmaaDoorProg
import Derived.WalkKit
import Derived.WalkSpells
import Derived.WalkLawsBesides
import Derived.Deep.LoopGhost
import Derived.Deep.QuietTactic
import Derived.BigQuiet
namespace Go.Proofs.YtkodeahhckibmaaDoor
open Go.RowKit

/-! ## What is answered, as plain functions -/

def mayS (n s : Int) : Bool := decide (0 ≤ n) && (decide (n < 64) && (decide (0 ≤ s) && decide (s ≤ 3)))
def newerS (i s j t : Int) : Bool := decide (j < i) || ((i == j) && decide (t < s))
def liveS (s : Int) : Bool := (s == 0) || (s == 1)

theorem upd_may (n i s : Int) (w : World) : Calls Tryd.prog 42 #[.agg #[.int .i64 n, .int .u64 i, .int .i64 s]] w fun e w' => e = .returned (.bool (mayS n s)) ∧ Below w.heap.size w w' := by
  go_enter Tryd.func42, Tryd.ntmps42
  by_cases h1 : 0 ≤ n
  · by_cases h2 : n < 64
    · by_cases h3 : 0 ≤ s
      · by_cases h4 : s ≤ 3
        · go_wp2_with fail
          go_ret
          exact ⟨by simp [mayS, h1, h2, h3, h4], (Below.refl _ _).alloc (Nat.le_refl _) _⟩
        · go_wp2_with fail
          go_ret
          exact ⟨by simp [mayS, h1, h2, h3, h4], (Below.refl _ _).alloc (Nat.le_refl _) _⟩
      · go_wp2_with fail
        go_ret
        exact ⟨by simp [mayS] <;> omega, (Below.refl _ _).alloc (Nat.le_refl _) _⟩
    · go_wp2_with fail
      go_ret
      exact ⟨by simp [mayS] <;> omega, (Below.refl _ _).alloc (Nat.le_refl _) _⟩
  · go_wp2_with fail
    go_ret
    exact ⟨by simp [mayS] <;> omega, (Below.refl _ _).alloc (Nat.le_refl _) _⟩

theorem fmay_any (n i s : Int) (w : World) : Calls Tryd.prog 24 #[.agg #[.int .i64 n, .int .u64 i, .int .i64 s]] w fun e w' => e = .returned (.bool (mayS n s)) ∧ Below w.heap.size w w' := by
  go_enter Tryd.func24, Tryd.ntmps24
  by_cases h1 : 0 ≤ n
  · by_cases h2 : n < 64
    · by_cases h3 : 0 ≤ s
      · by_cases h4 : s ≤ 3
        · go_wp2_with fail
          go_ret
          exact ⟨by simp [mayS, h1, h2, h3, h4], (Below.refl _ _).alloc (Nat.le_refl _) _⟩
        · go_wp2_with fail
          go_ret
          exact ⟨by simp [mayS, h1, h2, h3, h4], (Below.refl _ _).alloc (Nat.le_refl _) _⟩
      · go_wp2_with fail
        go_ret
        exact ⟨by simp [mayS] <;> omega, (Below.refl _ _).alloc (Nat.le_refl _) _⟩
    · go_wp2_with fail
      go_ret
      exact ⟨by simp [mayS] <;> omega, (Below.refl _ _).alloc (Nat.le_refl _) _⟩
  · go_wp2_with fail
    go_ret
    exact ⟨by simp [mayS] <;> omega, (Below.refl _ _).alloc (Nat.le_refl _) _⟩

theorem upd_newer (n i s m j t : Int) (w : World) : Calls Tryd.prog 44 #[.agg #[.int .i64 n, .int .u64 i, .int .i64 s], .agg #[.int .i64 m, .int .u64 j, .int .i64 t]] w fun e w' => e = .returned (.bool (newerS i s j t)) ∧ Below w.heap.size w w' := by
  go_enter Tryd.func44, Tryd.ntmps44
  by_cases h1 : j < i
  · go_wp2_with fail
    go_ret
    exact ⟨by simp [newerS, h1], ((Below.refl _ _).alloc (Nat.le_refl _) _).alloc (by simp) _⟩
  · by_cases h2 : i = j
    · have h2' : (i == j) = true := by simp [h2]
      by_cases h3 : t < s
      · clear h2
        go_wp2_with fail
        go_ret
        exact ⟨by simp [newerS, h2', h3], ((Below.refl _ _).alloc (Nat.le_refl _) _).alloc (by simp) _⟩
      · clear h2
        go_wp2_with fail
        go_ret
        exact ⟨by simp [newerS] <;> omega, ((Below.refl _ _).alloc (Nat.le_refl _) _).alloc (by simp) _⟩
    · have h2' : (i == j) = false := by simp [h2]
      clear h2
      go_wp2_with fail
      go_ret
      exact ⟨by simp [newerS, h2', h1], ((Below.refl _ _).alloc (Nat.le_refl _) _).alloc (by simp) _⟩

theorem fnewer_any (n i s m j t : Int) (w : World) : Calls Tryd.prog 27 #[.agg #[.int .i64 n, .int .u64 i, .int .i64 s], .agg #[.int .i64 m, .int .u64 j, .int .i64 t]] w fun e w' => e = .returned (.bool (newerS i s j t)) ∧ Below w.heap.size w w' := by
  go_enter Tryd.func27, Tryd.ntmps27
  by_cases h1 : j < i
  · go_wp2_with fail
    go_ret
    exact ⟨by simp [newerS, h1], ((Below.refl _ _).alloc (Nat.le_refl _) _).alloc (by simp) _⟩
  · by_cases h2 : i = j
    · have h2' : (i == j) = true := by simp [h2]
      by_cases h3 : t < s
      · clear h2
        go_wp2_with fail
        go_ret
        exact ⟨by simp [newerS, h2', h3], ((Below.refl _ _).alloc (Nat.le_refl _) _).alloc (by simp) _⟩
      · clear h2
        go_wp2_with fail
        go_ret
        exact ⟨by simp [newerS] <;> omega, ((Below.refl _ _).alloc (Nat.le_refl _) _).alloc (by simp) _⟩
    · have h2' : (i == j) = false := by simp [h2]
      clear h2
      go_wp2_with fail
      go_ret
      exact ⟨by simp [newerS, h2', h1], ((Below.refl _ _).alloc (Nat.le_refl _) _).alloc (by simp) _⟩

theorem live_any (n i s : Int) (w : World) : Calls Tryd.prog 38 #[.agg #[.int .i64 n, .int .u64 i, .int .i64 s]] w fun e w' => e = .returned (.bool (liveS s)) ∧ Below w.heap.size w w' := by
  go_enter Tryd.func38, Tryd.ntmps38
  cases h1 : (s == 0)
  case true =>
    go_wp2_with fail
    go_ret
    exact ⟨by simp [liveS, h1], (Below.refl _ _).alloc (Nat.le_refl _) _⟩
  case false =>
    cases h2 : (s == 1)
    all_goals go_wp2_with fail
    all_goals go_ret
    all_goals exact ⟨by simp [liveS, h1, h2], (Below.refl _ _).alloc (Nat.le_refl _) _⟩

theorem up_any (i : Int) (h0 : 0 ≤ i) (h1 : i ≤ 18446744073709551615) (w : World) : Calls Tryd.prog 55 #[.int .u64 i] w fun e w' => e = .returned (if i == 18446744073709551615 then .tuple #[.int .u64 0, .int .i64 60] else .tuple #[.int .u64 (i + 1), .int .i64 0]) ∧ w' = w := by
  go_enter Tryd.func55, Tryd.ntmps55
  cases h2 : (i == 18446744073709551615)
  case true =>
    go_wp2_with fail
    go_ret2
    exact ⟨rfl, rfl⟩
  case false =>
    have : i ≠ 18446744073709551615 := by simpa using h2
    have h3 : i + 1 ≤ 18446744073709551615 := by omega
    clear this
    go_wp2_with fail
    go_ret2
    exact ⟨rfl, rfl⟩

theorem may_any (n i s : Int) (w : World) : Calls Tryd.prog 20 #[.agg #[.int .i64 n, .int .u64 i, .int .i64 s]] w fun e w' => e = .returned (.bool (mayS n s)) ∧ Below w.heap.size w w' := by
  go_enter Tryd.func20, Tryd.ntmps20
  go_wp2_with (go_at_call 42; refine (upd_may _ _ _ _).mono ?_; rintro e w1 ⟨rfl, hb⟩)
  go_ret
  exact ⟨rfl, ((Below.refl _ _).alloc (Nat.le_refl _) _).trans (hb.mono (by simp))⟩

theorem newer_any (n i s m j t : Int) (w : World) : Calls Tryd.prog 23 #[.agg #[.int .i64 n, .int .u64 i, .int .i64 s], .agg #[.int .i64 m, .int .u64 j, .int .i64 t]] w fun e w' => e = .returned (.bool (newerS i s j t)) ∧ Below w.heap.size w w' := by
  go_enter Tryd.func23, Tryd.ntmps23
  go_wp2_with (go_at_call 44; refine (upd_newer _ _ _ _ _ _ _).mono ?_; rintro e w1 ⟨rfl, hb⟩)
  go_ret
  exact ⟨rfl, (((Below.refl _ _).alloc (Nat.le_refl _) _).alloc (by simp) _).trans (hb.mono (by simp; omega))⟩

theorem denies_any (n i s j : Int) (w : World) : Calls Tryd.prog 54 #[.agg #[.int .i64 n, .int .u64 i, .int .i64 s], .int .u64 j] w fun e w' => e = .returned (.bool (newerS i s j 0)) ∧ Below w.heap.size w w' := by
  go_enter Tryd.func54, Tryd.ntmps54
  go_wp2_with (go_at_call 44; refine (upd_newer _ _ _ _ _ _ _).mono ?_; rintro e w1 ⟨rfl, hb⟩)
  go_ret
  exact ⟨rfl, ((Below.refl _ _).alloc (Nat.le_refl _) _).trans (hb.mono (by simp))⟩

end Go.Proofs.YtkodeahhckibmaaDoor
