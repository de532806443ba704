/-
  The leaves of rank and of its reference: what may be, what is newer.
-/
import Derived.Test.YtagdacfgpgcbcaaProg
import Derived.WalkKit
import Derived.WalkSpells
import Derived.WalkLawsBesides
import Derived.Deep.LoopGhost
import Derived.Deep.QuietTactic
import Derived.BigQuiet
namespace Go.Proofs.Ytagdacfgpgcbcaa
open Go.RowKit

/-! ## What is answered, as plain functions -/

def mayS (n s : Int) : Bool := decide (0 ≤ n) && (decide (n < 64) && (decide (0 ≤ s) && decide (s ≤ 3)))
def newerS (i s j t : Int) : Bool := decide (j < i) || ((i == j) && decide (t < s))

theorem upd_may (n i s : Int) (w : World) : Calls Try.prog 35 #[.agg #[.int .i64 n, .int .u64 i, .int .i64 s]] w fun e w' => e = .returned (.bool (mayS n s)) ∧ Below w.heap.size w w' := by
  go_enter Try.func35, Try.ntmps35
  by_cases h1 : 0 ≤ n
  · by_cases h2 : n < 64
    · by_cases h3 : 0 ≤ s
      · by_cases h4 : s ≤ 3
        · go_wp2_with fail
          go_ret
          exact ⟨by simp [mayS, h1, h2, h3, h4], (Below.refl _ _).alloc (Nat.le_refl _) _⟩
        · go_wp2_with fail
          go_ret
          exact ⟨by simp [mayS, h1, h2, h3, h4], (Below.refl _ _).alloc (Nat.le_refl _) _⟩
      · go_wp2_with fail
        go_ret
        exact ⟨by simp [mayS] <;> omega, (Below.refl _ _).alloc (Nat.le_refl _) _⟩
    · go_wp2_with fail
      go_ret
      exact ⟨by simp [mayS] <;> omega, (Below.refl _ _).alloc (Nat.le_refl _) _⟩
  · go_wp2_with fail
    go_ret
    exact ⟨by simp [mayS] <;> omega, (Below.refl _ _).alloc (Nat.le_refl _) _⟩

theorem fmay_any (n i s : Int) (w : World) : Calls Try.prog 24 #[.agg #[.int .i64 n, .int .u64 i, .int .i64 s]] w fun e w' => e = .returned (.bool (mayS n s)) ∧ Below w.heap.size w w' := by
  go_enter Try.func24, Try.ntmps24
  by_cases h1 : 0 ≤ n
  · by_cases h2 : n < 64
    · by_cases h3 : 0 ≤ s
      · by_cases h4 : s ≤ 3
        · go_wp2_with fail
          go_ret
          exact ⟨by simp [mayS, h1, h2, h3, h4], (Below.refl _ _).alloc (Nat.le_refl _) _⟩
        · go_wp2_with fail
          go_ret
          exact ⟨by simp [mayS, h1, h2, h3, h4], (Below.refl _ _).alloc (Nat.le_refl _) _⟩
      · go_wp2_with fail
        go_ret
        exact ⟨by simp [mayS] <;> omega, (Below.refl _ _).alloc (Nat.le_refl _) _⟩
    · go_wp2_with fail
      go_ret
      exact ⟨by simp [mayS] <;> omega, (Below.refl _ _).alloc (Nat.le_refl _) _⟩
  · go_wp2_with fail
    go_ret
    exact ⟨by simp [mayS] <;> omega, (Below.refl _ _).alloc (Nat.le_refl _) _⟩

theorem upd_newer (n i s m j t : Int) (w : World) : Calls Try.prog 36 #[.agg #[.int .i64 n, .int .u64 i, .int .i64 s], .agg #[.int .i64 m, .int .u64 j, .int .i64 t]] w fun e w' => e = .returned (.bool (newerS i s j t)) ∧ Below w.heap.size w w' := by
  go_enter Try.func36, Try.ntmps36
  by_cases h1 : j < i
  · go_wp2_with fail
    go_ret
    exact ⟨by simp [newerS, h1], ((Below.refl _ _).alloc (Nat.le_refl _) _).alloc (by simp) _⟩
  · by_cases h2 : i = j
    · have h2' : (i == j) = true := by simp [h2]
      by_cases h3 : t < s
      · clear h2
        go_wp2_with fail
        go_ret
        exact ⟨by simp [newerS, h2', h3], ((Below.refl _ _).alloc (Nat.le_refl _) _).alloc (by simp) _⟩
      · clear h2
        go_wp2_with fail
        go_ret
        exact ⟨by simp [newerS] <;> omega, ((Below.refl _ _).alloc (Nat.le_refl _) _).alloc (by simp) _⟩
    · have h2' : (i == j) = false := by simp [h2]
      clear h2
      go_wp2_with fail
      go_ret
      exact ⟨by simp [newerS, h2', h1], ((Below.refl _ _).alloc (Nat.le_refl _) _).alloc (by simp) _⟩

theorem fnewer_any (n i s m j t : Int) (w : World) : Calls Try.prog 25 #[.agg #[.int .i64 n, .int .u64 i, .int .i64 s], .agg #[.int .i64 m, .int .u64 j, .int .i64 t]] w fun e w' => e = .returned (.bool (newerS i s j t)) ∧ Below w.heap.size w w' := by
  go_enter Try.func25, Try.ntmps25
  by_cases h1 : j < i
  · go_wp2_with fail
    go_ret
    exact ⟨by simp [newerS, h1], ((Below.refl _ _).alloc (Nat.le_refl _) _).alloc (by simp) _⟩
  · by_cases h2 : i = j
    · have h2' : (i == j) = true := by simp [h2]
      by_cases h3 : t < s
      · clear h2
        go_wp2_with fail
        go_ret
        exact ⟨by simp [newerS, h2', h3], ((Below.refl _ _).alloc (Nat.le_refl _) _).alloc (by simp) _⟩
      · clear h2
        go_wp2_with fail
        go_ret
        exact ⟨by simp [newerS] <;> omega, ((Below.refl _ _).alloc (Nat.le_refl _) _).alloc (by simp) _⟩
    · have h2' : (i == j) = false := by simp [h2]
      clear h2
      go_wp2_with fail
      go_ret
      exact ⟨by simp [newerS, h2', h1], ((Below.refl _ _).alloc (Nat.le_refl _) _).alloc (by simp) _⟩

theorem may_any (n i s : Int) (w : World) : Calls Try.prog 21 #[.agg #[.int .i64 n, .int .u64 i, .int .i64 s]] w fun e w' => e = .returned (.bool (mayS n s)) ∧ Below w.heap.size w w' := by
  go_enter Try.func21, Try.ntmps21
  go_wp2_with (go_at_call 35; refine (upd_may _ _ _ _).mono ?_; rintro e w1 ⟨rfl, hb⟩)
  go_ret
  exact ⟨rfl, ((Below.refl _ _).alloc (Nat.le_refl _) _).trans (hb.mono (by simp))⟩

theorem newer_any (n i s m j t : Int) (w : World) : Calls Try.prog 22 #[.agg #[.int .i64 n, .int .u64 i, .int .i64 s], .agg #[.int .i64 m, .int .u64 j, .int .i64 t]] w fun e w' => e = .returned (.bool (newerS i s j t)) ∧ Below w.heap.size w w' := by
  go_enter Try.func22, Try.ntmps22
  go_wp2_with (go_at_call 36; refine (upd_newer _ _ _ _ _ _ _).mono ?_; rintro e w1 ⟨rfl, hb⟩)
  go_ret
  exact ⟨rfl, (((Below.refl _ _).alloc (Nat.le_refl _) _).alloc (by simp) _).trans (hb.mono (by simp; omega))⟩

end Go.Proofs.Ytagdacfgpgcbcaa
