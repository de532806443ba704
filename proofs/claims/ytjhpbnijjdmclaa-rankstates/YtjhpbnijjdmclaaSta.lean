/-
  The walk of RankStates.
-/
import Derived.Test.YtjhpbnijjdmclaaRfu
import Derived.OpenShut
namespace Go.Proofs.Ytjhpbnijjdmclaa
open Go.RowKit

set_option maxHeartbeats 1000000 in
theorem states_walk (nd inc a b : Int) (h0 : (Lit.int .u8 nd).wf = true) (h1 : (Lit.int .u64 inc).wf = true) (h2 : (Lit.int .u8 a).wf = true) (h3 : (Lit.int .u8 b).wf = true) (w : World) :
    Calls Try.prog 7 #[.int .u8 nd, .int .u64 inc, .int .u8 a, .int .u8 b] w fun e w' => e = .returned (.bool true) ∧ Below w.heap.size w w' := by
  have k0 := bounds_u8 h0
  have k1 := bounds_u64 h1
  have k2 := bounds_u8 h2
  have k3 := bounds_u8 h3
  go_enter Try.func7, Try.ntmps7
  go_wp2_with fail
  have hB1 := Bx.new 24 (nd % 64) inc (a % 4) w
  have b1 : Below w.heap.size w (w.alloc (.cells #[.int .i64 (nd % 64), .int .u64 inc, .int .i64 (a % 4)] 24)) := (Below.refl _ _).alloc (Nat.le_refl _) _
  have hB2 := Bx.new 24 (nd % 64) inc (b % 4) (w.alloc (.cells #[.int .i64 (nd % 64), .int .u64 inc, .int .i64 (a % 4)] 24))
  have e1 : (w.alloc (.cells #[.int .i64 (nd % 64), .int .u64 inc, .int .i64 (a % 4)] 24)).heap.size = w.heap.size + 1 := by simp
  generalize w.alloc _ = w1 at *
  have b2 : Below w1.heap.size w1 (w1.alloc (.cells #[.int .i64 (nd % 64), .int .u64 inc, .int .i64 (b % 4)] 24)) := (Below.refl _ _).alloc (Nat.le_refl _) _
  rw [e1] at hB2
  have hB1 := hB1.below b2
  have b2 := b1.trans (b2.mono b1.size)
  generalize w1.alloc _ = w2 at *
  have c0 := hB1.c0
  have c1 := hB1.c1
  have c2 := hB1.c2
  have d0 := hB2.c0
  have d1 := hB2.c1
  have d2 := hB2.c2
  refine (up_any _ k1.1 k1.2 _).mono ?_
  cases hi : (inc == 18446744073709551615)
  case true =>
    rintro e w3 ⟨rfl, rfl⟩
    simp only [if_true]
    go_wp2_with fail
    refine (shown_any _).mono ?_
    rintro e w4 ⟨rfl, hb⟩
    go_wp2_with fail
    go_ret
    exact ⟨rfl, b2.trans (hb.mono b2.size)⟩
  case false =>
    rintro e w3 ⟨rfl, rfl⟩
    simp only [Bool.false_eq_true, if_false]
    go_wp2_with fail
    refine (newer_any _ _ _ _ _ _ _).mono ?_
    rw [show newerS inc (a % 4) inc (b % 4) = decide (b % 4 < a % 4) from by simp [newerS]]
    rintro e w4 ⟨rfl, hb4⟩
    have hB1 := hB1.below hb4
    have b4 := b2.trans (hb4.mono b2.size)
    clear c0 c1 c2 d0 d1 d2 hB2
    have c0 := hB1.c0
    have c1 := hB1.c1
    have c2 := hB1.c2
    go_wp2_with fail
    refine (newer_any _ _ _ _ _ _ _).mono ?_
    rw [show newerS (inc + 1) 0 inc (a % 4) = true from by simp [newerS]; omega]
    rintro e w5 ⟨rfl, hb5⟩
    have hB1 := hB1.below hb5
    have b5 := b4.trans (hb5.mono b4.size)
    clear c0 c1 c2
    have c0 := hB1.c0
    have c1 := hB1.c1
    have c2 := hB1.c2
    go_wp2_with fail
    refine (live_any _ _ _ _).mono ?_
    rw [show liveS (a % 4) = decide (a % 4 < 2) from by
      simp only [liveS]
      rw [Bool.eq_iff_iff]; simp; omega]
    rintro e w6 ⟨rfl, hb6⟩
    have b6 := b5.trans (hb6.mono b5.size)
    go_wp2_with fail
    refine (shown_any _).mono ?_
    rintro e w7 ⟨rfl, hb7⟩
    go_wp2_with fail
    go_ret
    exact ⟨rfl, b6.trans (hb7.mono b6.size)⟩
end Go.Proofs.Ytjhpbnijjdmclaa
