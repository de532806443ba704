/-
  SpanTells, walked.
-/
import Derived.Test.YtipoppnoflhpiaaMad
import Derived.Test.YtipoppnoflhpiaaDmn
import Derived.Test.YtipoppnoflhpiaaDfi
import Derived.Test.YtipoppnoflhpiaaDmi
namespace Go.Proofs.Ytipoppnoflhpiaa
open Go.RowKit

theorem firstM_ok (l : List Sn) (n : Int) : ∀ s ∈ firstM l n, SnOk s := by
  unfold firstM
  cases h : mayS l
  · intro s hs; cases hs
  · exact (firstS_up ((mayS_iff l).1 h)).ok
theorem firstM_le (l : List Sn) (n : Int) : (firstM l n).length ≤ l.length := by
  unfold firstM
  split
  · exact firstS_len l n
  · simp

set_option maxRecDepth 100000 in
set_option maxHeartbeats 8000000 in
theorem tells_core (va vb : Value) (a b : List Sn) (n : Int) (n0 : 0 ≤ n) (n1 : n ≤ 18446744073709551615) (w : World) (hA : Rs va a w) (hB : Rs vb b w) :
    Calls Try.prog 3 #[va, vb, .int .u64 n] w fun e w' => e = .returned (.bool true) ∧ Below w.heap.size w w' := by
  obtain ⟨⟨aa, acap, rfl, a1, a2, a3⟩, _⟩ := id hA
  obtain ⟨⟨ba, bcap, rfl, b1, b2, b3⟩, _⟩ := id hB
  by_cases hla : 100 < a.length
  · have z1 : decide ((100 : Int) < (a.length : Int)) = true := decide_eq_true (by omega)
    have z1N : decide (100 < a.length) = true := decide_eq_true hla
    go_enter Try.func3, Try.ntmps3
    go_wp2_with fail
    refine (shown_any _).mono ?_
    rintro e w1 ⟨rfl, hb⟩
    go_wp2_with fail
    go_ret
    exact ⟨rfl, hb⟩
  · have z1 : decide ((100 : Int) < (a.length : Int)) = false := decide_eq_false (by omega)
    have z1N : decide (100 < a.length) = false := decide_eq_false hla
    by_cases hlb : 100 < b.length
    · have z2 : decide ((100 : Int) < (b.length : Int)) = true := decide_eq_true (by omega)
      have z2N : decide (100 < b.length) = true := decide_eq_true hlb
      go_enter Try.func3, Try.ntmps3
      go_wp2_with fail
      refine (shown_any _).mono ?_
      rintro e w1 ⟨rfl, hb⟩
      go_wp2_with fail
      go_ret
      exact ⟨rfl, hb⟩
    · have z2 : decide ((100 : Int) < (b.length : Int)) = false := decide_eq_false (by omega)
      have z2N : decide (100 < b.length) = false := decide_eq_false hlb
      have hA' : a.length ≤ 100 := by omega
      have hB' : b.length ≤ 100 := by omega
      have hX := addS_ok (l := a) n0 n1
      have hJ := joinS_le a b
      have hM := minusS_le a b
      have hF := firstM_le a n
      clear hla hlb a3 b3
      go_enter Try.func3, Try.ntmps3
      go_wp2_with fail
      refine (shown_any _).mono ?_
      rintro e w1 ⟨rfl, hb1⟩
      have kA1 := hA.below hb1
      have kB1 := hB.below hb1
      have kW1 := hb1
      go_wp2_with fail
      refine (add_any _ a n _ kA1 (by omega) n0 n1).mono ?_
      rintro e w2 ⟨⟨x, rfl, kX2⟩, hb2⟩
      have kA2 := kA1.below hb2
      have kB2 := kB1.below hb2
      have kW2 := kW1.trans (hb2.mono kW1.size)
      go_wp2_with fail
      refine (fadd_any _ a n _ kA2 (by omega) n0 n1).mono ?_
      rintro e w3 ⟨⟨y, rfl, kY3⟩, hb3⟩
      have kA3 := kA2.below hb3
      have kB3 := kB2.below hb3
      have kW3 := kW2.trans (hb3.mono kW2.size)
      have kX3 := kX2.below hb3
      go_wp2_with fail
      refine (may_any _ a _ kA3 (by omega)).mono ?_
      rintro e w4 ⟨rfl, hb4⟩
      have kA4 := kA3.below hb4
      have kB4 := kB3.below hb4
      have kW4 := kW3.trans (hb4.mono kW3.size)
      have kX4 := kX3.below hb4
      have kY4 := kY3.below hb4
      go_wp2_with fail
      refine (fmay_any _ a _ kA4 (by omega)).mono ?_
      rintro e w5 ⟨rfl, hb5⟩
      have kA5 := kA4.below hb5
      have kB5 := kB4.below hb5
      have kW5 := kW4.trans (hb5.mono kW4.size)
      have kX5 := kX4.below hb5
      have kY5 := kY4.below hb5
      go_wp2_with fail
      refine (has_any _ a n _ kA5 (by omega)).mono ?_
      rintro e w6 ⟨rfl, hb6⟩
      have kA6 := kA5.below hb6
      have kB6 := kB5.below hb6
      have kW6 := kW5.trans (hb6.mono kW5.size)
      have kX6 := kX5.below hb6
      have kY6 := kY5.below hb6
      go_wp2_with fail
      refine (fhas_any _ a n _ kA6 (by omega)).mono ?_
      rintro e w7 ⟨rfl, hb7⟩
      have kA7 := kA6.below hb7
      have kB7 := kB6.below hb7
      have kW7 := kW6.trans (hb7.mono kW6.size)
      have kX7 := kX6.below hb7
      have kY7 := kY6.below hb7
      go_wp2_with fail
      refine (many_any _ a _ kA7 (by omega)).mono ?_
      rintro e w8 ⟨rfl, hb8⟩
      have kA8 := kA7.below hb8
      have kB8 := kB7.below hb8
      have kW8 := kW7.trans (hb8.mono kW7.size)
      have kX8 := kX7.below hb8
      have kY8 := kY7.below hb8
      go_wp2_with fail
      refine (fmany_any _ a _ kA8 (by omega)).mono ?_
      rintro e w9 ⟨rfl, hb9⟩
      have kA9 := kA8.below hb9
      have kB9 := kB8.below hb9
      have kW9 := kW8.trans (hb9.mono kW8.size)
      have kX9 := kX8.below hb9
      have kY9 := kY8.below hb9
      go_wp2_with fail
      refine (same_any _ _ (addS a n).1 _ (by omega) kX9 kY9).mono ?_
      rintro e w10 ⟨rfl, hb10⟩
      have kA10 := kA9.below hb10
      have kB10 := kB9.below hb10
      have kW10 := kW9.trans (hb10.mono kW9.size)
      go_wp2_with fail
      refine (join_any _ _ a b _ kA10 kB10 (by omega) (by omega)).mono ?_
      rintro e w11 ⟨⟨j, rfl, kO11⟩, hb11⟩
      have kA11 := kA10.below hb11
      have kB11 := kB10.below hb11
      have kW11 := kW10.trans (hb11.mono kW10.size)
      have kJ11 := kO11.rs (joinS_ok a b)
      go_wp2_with fail
      refine (fjoin_any _ _ a b _ kA11 kB11 (by omega) (by omega)).mono ?_
      rintro e w12 ⟨⟨j2, rfl, kO12⟩, hb12⟩
      have kA12 := kA11.below hb12
      have kB12 := kB11.below hb12
      have kW12 := kW11.trans (hb12.mono kW11.size)
      have kJ12 := kJ11.below hb12
      have kI12 := kO12.rs (joinS_ok a b)
      go_wp2_with fail
      refine (same_any _ _ (joinS a b) _ (by omega) kJ12 kI12).mono ?_
      rintro e w13 ⟨rfl, hb13⟩
      have kA13 := kA12.below hb13
      have kB13 := kB12.below hb13
      have kW13 := kW12.trans (hb13.mono kW12.size)
      go_wp2_with fail
      refine (minus_any _ _ a b _ kA13 kB13 (by omega) (by omega)).mono ?_
      rintro e w14 ⟨⟨m, rfl, kO14⟩, hb14⟩
      have kA14 := kA13.below hb14
      have kB14 := kB13.below hb14
      have kW14 := kW13.trans (hb14.mono kW13.size)
      have kM14 := kO14.rs (minusS_ok a b)
      go_wp2_with fail
      refine (fminus_any _ _ a b _ kA14 kB14 (by omega) (by omega)).mono ?_
      rintro e w15 ⟨⟨m2, rfl, kN15⟩, hb15⟩
      have kA15 := kA14.below hb15
      have kB15 := kB14.below hb15
      have kW15 := kW14.trans (hb15.mono kW14.size)
      have kM15 := kM14.below hb15
      go_wp2_with fail
      refine (same_any _ _ (minusS a b) _ (by omega) kM15 kN15).mono ?_
      rintro e w16 ⟨rfl, hb16⟩
      have kA16 := kA15.below hb16
      have kB16 := kB15.below hb16
      have kW16 := kW15.trans (hb16.mono kW15.size)
      go_wp2_with fail
      refine (reach_any _ a n _ kA16 (by omega) n0 n1).mono ?_
      rintro e w17 ⟨rfl, hb17⟩
      have kA17 := kA16.below hb17
      have kB17 := kB16.below hb17
      have kW17 := kW16.trans (hb17.mono kW16.size)
      go_wp2_with fail
      refine (freach_any _ a n _ kA17 (by omega) n0 n1).mono ?_
      rintro e w18 ⟨rfl, hb18⟩
      have kA18 := kA17.below hb18
      have kB18 := kB17.below hb18
      have kW18 := kW17.trans (hb18.mono kW17.size)
      go_wp2_with fail
      refine (first_any _ a n _ kA18 (by omega) n0 n1).mono ?_
      rintro e w19 ⟨⟨f, rfl, kO19⟩, hb19⟩
      have kA19 := kA18.below hb19
      have kB19 := kB18.below hb19
      have kW19 := kW18.trans (hb19.mono kW18.size)
      have kF19 := kO19.rs (firstM_ok a n)
      go_wp2_with fail
      refine (ffirst_any _ a n _ kA19 (by omega) n0 n1).mono ?_
      rintro e w20 ⟨⟨f2, rfl, kO20⟩, hb20⟩
      have kA20 := kA19.below hb20
      have kB20 := kB19.below hb20
      have kW20 := kW19.trans (hb20.mono kW19.size)
      have kF20 := kF19.below hb20
      have kG20 := kO20.rs (firstM_ok a n)
      go_wp2_with fail
      refine (same_any _ _ (firstM a n) _ (by omega) kF20 kG20).mono ?_
      rintro e w21 ⟨rfl, hb21⟩
      have kA21 := kA20.below hb21
      have kB21 := kB20.below hb21
      have kW21 := kW20.trans (hb21.mono kW20.size)
      go_wp2_with fail
      go_ret
      exact ⟨by simp, kW21⟩

theorem spanTells_walk (a0 : Option Addr) (len0 cap0 : Nat) (x0 : List Sn) (a1 : Option Addr) (len1 cap1 : Nat) (x1 : List Sn) (n : Int) (hn : (Lit.int .u64 n).wf = true) (w : World) (w0 : IsSpans w a0 len0 cap0 x0) (w1 : IsSpans w a1 len1 cap1 x1) :
    Calls Try.prog 3 #[.slice a0 len0 cap0, .slice a1 len1 cap1, .int .u64 n] w fun e w' => e = .returned (.bool true) ∧ Below w.heap.size w w' :=
  tells_core _ _ x0 x1 n (u64_of hn).1 (u64_of hn).2 w w0.2 w1.2
end Go.Proofs.Ytipoppnoflhpiaa
