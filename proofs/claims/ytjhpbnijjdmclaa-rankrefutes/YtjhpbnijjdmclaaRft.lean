/-
  The walk of RankRefutes.
-/
import Derived.Test.YtjhpbnijjdmclaaOth
namespace Go.Proofs.Ytjhpbnijjdmclaa
open Go.RowKit

set_option maxRecDepth 100000 in
set_option maxHeartbeats 1000000 in
theorem refutes_core (me inc n i s : Int) (h0 : (Lit.int .u8 me).wf = true) (h1 : (Lit.int .u64 inc).wf = true) (h2 : (Lit.int .u64 i).wf = true) (w : World) :
    Calls Try.prog 5 #[.int .u8 me, .int .u64 inc, .agg #[.int .i64 n, .int .u64 i, .int .i64 s]] w fun e w' => e = .returned (.bool true) ∧ Below w.heap.size w w' := by
  have k0 := bounds_u8 h0
  have k1 := bounds_u64 h1
  have k2 := bounds_u64 h2
  go_enter Try.func5, Try.ntmps5
  go_wp2_with fail
  have hB := Bx.new 24 n i s w
  have b1 : Below w.heap.size w (w.alloc (.cells #[.int .i64 n, .int .u64 i, .int .i64 s] 24)) := (Below.refl _ _).alloc (Nat.le_refl _) _
  generalize w.alloc _ = w1 at *
  refine (refute_any _ _ _ _ _ k2.1 k2.2 _).mono ?_
  cases hd : denS (me % 64) inc n i s
  case false =>
    rw [refS_not hd]
    rintro e w2 ⟨rfl, hb2⟩
    have b2 := b1.trans (hb2.mono b1.size)
    go_wp2_with (go_at_call 9; refine (shown_any _).mono ?_; rintro e w3 ⟨rfl, hb3⟩)
    go_ret
    exact ⟨rfl, b2.trans (hb3.mono b2.size)⟩
  case true =>
    cases hi : (i == 18446744073709551615)
    case true =>
      rw [show refS (me % 64) inc n i s = .tuple #[.int .u64 inc, .bool false, .int .i64 60] from by simp [refS, hd, hi]]
      rintro e w2 ⟨rfl, hb2⟩
      have hB := hB.below hb2
      have b2 := b1.trans (hb2.mono b1.size)
      have c1 := hB.c1
      go_wp2_with (go_at_call 9; refine (shown_any _).mono ?_; rintro e w3 ⟨rfl, hb3⟩)
      go_ret
      exact ⟨rfl, b2.trans (hb3.mono b2.size)⟩
    case false =>
      rw [show refS (me % 64) inc n i s = .tuple #[.int .u64 (i + 1), .bool true, .int .i64 0] from by simp [refS, hd, hi]]
      have hi' : i ≠ 18446744073709551615 := by simpa using hi
      have hden := hd
      simp only [denS, Bool.and_eq_true, newerS, Bool.or_eq_true, decide_eq_true_eq, beq_iff_eq] at hden
      obtain ⟨rfl, hm, hnew⟩ := hden
      have hii : inc < i + 1 := by omega
      have hi1 : i + 1 ≤ 18446744073709551615 := by omega
      clear hnew hm hd hi hi'
      rintro e w2 ⟨rfl, hb2⟩
      have hB := hB.below hb2
      have b2 := b1.trans (hb2.mono b1.size)
      clear hb2 b1
      have c0 := hB.c0
      have c1 := hB.c1
      have c2 := hB.c2
      have hC := Bx.new 24 (me % 64) (i + 1) 0 w2
      have b3x : Below w2.heap.size w2 (w2.alloc (.cells #[.int .i64 (me % 64), .int .u64 (i + 1), .int .i64 0] 24)) := (Below.refl _ _).alloc (Nat.le_refl _) _
      have hB3 := hB.below b3x
      have b3 := b2.trans (b3x.mono b2.size)
      clear b3x
      have e0 := hB3.c0
      have e1 := hB3.c1
      have e2 := hB3.c2
      go_wp2_with fail
      generalize w2.alloc _ = w3 at *
      generalize w2.heap.size = g at *
      clear hB b2 c0 c1 c2 e0 e1 e2
      refine (refute_any _ _ _ _ _ k2.1 k2.2 _).mono ?_
      rw [refS_not (by simp [denS, newerS]; omega)]
      rintro e w4 ⟨rfl, hb4⟩
      have hB := hB3.below hb4
      have hC := hC.below hb4
      have b4 := b3.trans (hb4.mono b3.size)
      clear hb4 b3 hB3
      have c0 := hB.c0
      have c1 := hB.c1
      have c2 := hB.c2
      have d0 := hC.c0
      have d1 := hC.c1
      have d2 := hC.c2
      go_wp2_with fail
      refine (newer_any _ _ _ _ _ _ _).mono ?_
      rw [show newerS (i + 1) 0 i s = true from by simp [newerS]; omega]
      rintro e w5 ⟨rfl, hb5⟩
      have hC := hC.below hb5
      have b5 := b4.trans (hb5.mono b4.size)
      clear hb5 b4 hB c0 c1 c2 d0 d1 d2
      have d0 := hC.c0
      have d1 := hC.c1
      have d2 := hC.c2
      go_wp2_with fail
      refine (newer_any _ _ _ _ _ _ _).mono ?_
      rw [show newerS (i + 1) 0 inc 0 = true from by simp [newerS]; omega]
      rintro e w6 ⟨rfl, hb6⟩
      have b6 := b5.trans (hb6.mono b5.size)
      go_wp2_with (go_at_call 9; refine (shown_any _).mono ?_; rintro e w7 ⟨rfl, hb7⟩)
      go_ret
      exact ⟨rfl, b6.trans (hb7.mono b6.size)⟩
end Go.Proofs.Ytjhpbnijjdmclaa
