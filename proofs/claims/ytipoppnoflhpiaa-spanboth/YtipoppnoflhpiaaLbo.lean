/-
  SpanBoth, walked.
-/
import Derived.Test.YtipoppnoflhpiaaLmt
namespace Go.Proofs.Ytipoppnoflhpiaa
open Go.RowKit

set_option maxRecDepth 100000 in
set_option maxHeartbeats 8000000 in
theorem both_core (va vb vc : Value) (a b c : List Int) (w : World) (hA : Rn va a w) (hB : Rn vb b w) (hC : Rn vc c w) (yA : Bytes a) (yB : Bytes b) (yC : Bytes c) :
    Calls Try.prog 8 #[va, vb, vc] w fun e w' => e = .returned (.bool true) ∧ Below w.heap.size w w' := by
  obtain ⟨aa, acap, rfl, a3⟩ := id hA
  obtain ⟨ba, bcap, rfl, b3⟩ := id hB
  obtain ⟨ca, ccap, rfl, c3⟩ := id hC
  clear a3 b3 c3
  by_cases hla : 60 < a.length
  · have z1 : decide ((60 : Int) < (a.length : Int)) = true := decide_eq_true (by omega)
    have z1N : decide (60 < a.length) = true := decide_eq_true hla
    go_enter Try.func8, Try.ntmps8
    go_wp2_with fail
    refine (shown_any _).mono ?_
    rintro e w1 ⟨rfl, hb⟩
    go_wp2_with fail
    go_ret
    exact ⟨rfl, hb⟩
  · have z1 : decide ((60 : Int) < (a.length : Int)) = false := decide_eq_false (by omega)
    have z1N : decide (60 < a.length) = false := decide_eq_false hla
    by_cases hlb : 60 < b.length
    · have z2 : decide ((60 : Int) < (b.length : Int)) = true := decide_eq_true (by omega)
      have z2N : decide (60 < b.length) = true := decide_eq_true hlb
      go_enter Try.func8, Try.ntmps8
      go_wp2_with fail
      refine (shown_any _).mono ?_
      rintro e w1 ⟨rfl, hb⟩
      go_wp2_with fail
      go_ret
      exact ⟨rfl, hb⟩
    · have z2 : decide ((60 : Int) < (b.length : Int)) = false := decide_eq_false (by omega)
      have z2N : decide (60 < b.length) = false := decide_eq_false hlb
      by_cases hlc : 60 < c.length
      · have z3 : decide ((60 : Int) < (c.length : Int)) = true := decide_eq_true (by omega)
        have z3N : decide (60 < c.length) = true := decide_eq_true hlc
        go_enter Try.func8, Try.ntmps8
        go_wp2_with fail
        refine (shown_any _).mono ?_
        rintro e w1 ⟨rfl, hb⟩
        go_wp2_with fail
        go_ret
        exact ⟨rfl, hb⟩
      · have z3 : decide ((60 : Int) < (c.length : Int)) = false := decide_eq_false (by omega)
        have z3N : decide (60 < c.length) = false := decide_eq_false hlc
        have hla' : a.length ≤ 60 := by omega
        have hlb' : b.length ≤ 60 := by omega
        have hlc' : c.length ≤ 60 := by omega
        obtain ⟨u1, _, u3⟩ := madeS_spec a yA
        obtain ⟨v1, _, v3⟩ := madeS_spec b yB
        obtain ⟨s1, _, s3⟩ := madeS_spec c yC
        have mA := fun w' h => made_any (.slice aa a.length acap) a w' h yA (by omega)
        have mB := fun w' h => made_any (.slice ba b.length bcap) b w' h yB (by omega)
        have mC := fun w' h => made_any (.slice ca c.length ccap) c w' h yC (by omega)
        have e1 := join_join u1 v1 s1
        have e2 := join_comm v1 u1
        have e3 := minus_minus u1 v1 s1
        have e4 := minus_self u1
        have e5 := join_self u1
        clear hla hlb hlc u1 v1 s1
        generalize madeS a = X at *
        generalize madeS b = Y at *
        generalize madeS c = Z at *
        have lX : X.length ≤ 60 := by omega
        have lY : Y.length ≤ 60 := by omega
        have lZ : Z.length ≤ 60 := by omega
        have l1 := joinS_le X Y
        have l2 := joinS_le Y Z
        have l3 := minusS_le X Y
        have l4 := joinS_le X (joinS Y Z)
        have l5 := minusS_le X (joinS Y Z)
        clear u3 v3 s3
        go_enter Try.func8, Try.ntmps8
        go_wp2_with fail
        refine (shown_any _).mono ?_
        rintro e w1 ⟨rfl, hb1⟩
        go_wp2_with fail
        refine (mA _ (hA.below hb1)).mono ?_
        rintro e w2 ⟨⟨x, rfl, x2⟩, hb2⟩
        have hW2 := hb1.trans (hb2.mono hb1.size)
        go_wp2_with fail
        refine (mB _ (hB.below hW2)).mono ?_
        rintro e w3 ⟨⟨y, rfl, y3⟩, hb3⟩
        have hW3 := hW2.trans (hb3.mono hW2.size)
        have x3 := x2.below hb3
        go_wp2_with fail
        refine (mC _ (hC.below hW3)).mono ?_
        rintro e w4 ⟨⟨z, rfl, t4⟩, hb4⟩
        have hW4 := hW3.trans (hb4.mono hW3.size)
        have x4 := x3.below hb4
        have y4 := y3.below hb4
        go_wp2_with fail
        refine (join_any _ _ X Y _ x4 y4 (by omega) (by omega)).mono ?_
        rintro e w5 ⟨⟨p, rfl, o5⟩, hb5⟩
        have hW5 := hW4.trans (hb5.mono hW4.size)
        have x5 := x4.below hb5
        have y5 := y4.below hb5
        have t5 := t4.below hb5
        have p5 := o5.rs (joinS_ok _ _)
        go_wp2_with fail
        refine (join_any _ _ (joinS X Y) Z _ p5 t5 (by omega) (by omega)).mono ?_
        rw [e1]
        rintro e w6 ⟨⟨p', rfl, o6⟩, hb6⟩
        have hW6 := hW5.trans (hb6.mono hW5.size)
        have x6 := x5.below hb6
        have y6 := y5.below hb6
        have t6 := t5.below hb6
        have p6 := o6.rs (joinS_ok _ _)
        go_wp2_with fail
        refine (join_any _ _ Y Z _ y6 t6 (by omega) (by omega)).mono ?_
        rintro e w7 ⟨⟨q, rfl, o7⟩, hb7⟩
        have hW7 := hW6.trans (hb7.mono hW6.size)
        have x7 := x6.below hb7
        have y7 := y6.below hb7
        have t7 := t6.below hb7
        have p7 := p6.below hb7
        have q7 := o7.rs (joinS_ok _ _)
        go_wp2_with fail
        refine (join_any _ _ X (joinS Y Z) _ x7 q7 (by omega) (by omega)).mono ?_
        rintro e w8 ⟨⟨q', rfl, o8⟩, hb8⟩
        have hW8 := hW7.trans (hb8.mono hW7.size)
        have x8 := x7.below hb8
        have y8 := y7.below hb8
        have t8 := t7.below hb8
        have p8 := p7.below hb8
        have q8 := o8.rs (joinS_ok _ _)
        go_wp2_with fail
        refine (same_any _ _ _ _ (by omega) p8 q8).mono ?_
        rintro e w9 ⟨rfl, hb9⟩
        have hW9 := hW8.trans (hb9.mono hW8.size)
        have x9 := x8.below hb9
        have y9 := y8.below hb9
        have t9 := t8.below hb9
        clear p5 p6 p7 p8 q7 q8 o5 o6 o7 o8 x2 x3 x4 x5 x6 x7 y3 y4 y5 y6 y7 t4 t5 t6 t7
        go_wp2_with fail
        refine (join_any _ _ X Y _ x9 y9 (by omega) (by omega)).mono ?_
        rintro e w10 ⟨⟨p, rfl, o10⟩, hb10⟩
        have hW10 := hW9.trans (hb10.mono hW9.size)
        have x10 := x9.below hb10
        have y10 := y9.below hb10
        have t10 := t9.below hb10
        have p10 := o10.rs (joinS_ok _ _)
        go_wp2_with fail
        refine (join_any _ _ Y X _ y10 x10 (by omega) (by omega)).mono ?_
        rw [e2]
        rintro e w11 ⟨⟨q, rfl, o11⟩, hb11⟩
        have hW11 := hW10.trans (hb11.mono hW10.size)
        have x11 := x10.below hb11
        have y11 := y10.below hb11
        have t11 := t10.below hb11
        have p11 := p10.below hb11
        have q11 := o11.rs (joinS_ok _ _)
        go_wp2_with fail
        refine (same_any _ _ _ _ (by omega) p11 q11).mono ?_
        rintro e w12 ⟨rfl, hb12⟩
        have hW12 := hW11.trans (hb12.mono hW11.size)
        have x12 := x11.below hb12
        have y12 := y11.below hb12
        have t12 := t11.below hb12
        clear p10 p11 q11 o10 o11 x10 x11 y10 y11 t10 t11
        go_wp2_with fail
        refine (minus_any _ _ X Y _ x12 y12 (by omega) (by omega)).mono ?_
        rintro e w13 ⟨⟨p, rfl, o13⟩, hb13⟩
        have hW13 := hW12.trans (hb13.mono hW12.size)
        have x13 := x12.below hb13
        have y13 := y12.below hb13
        have t13 := t12.below hb13
        have p13 := o13.rs (minusS_ok _ _)
        go_wp2_with fail
        refine (minus_any _ _ (minusS X Y) Z _ p13 t13 (by omega) (by omega)).mono ?_
        rw [e3]
        rintro e w14 ⟨⟨p', rfl, o14⟩, hb14⟩
        have hW14 := hW13.trans (hb14.mono hW13.size)
        have x14 := x13.below hb14
        have y14 := y13.below hb14
        have t14 := t13.below hb14
        have p14 := o14.rs (minusS_ok _ _)
        go_wp2_with fail
        refine (join_any _ _ Y Z _ y14 t14 (by omega) (by omega)).mono ?_
        rintro e w15 ⟨⟨q, rfl, o15⟩, hb15⟩
        have hW15 := hW14.trans (hb15.mono hW14.size)
        have x15 := x14.below hb15
        have p15 := p14.below hb15
        have q15 := o15.rs (joinS_ok _ _)
        go_wp2_with fail
        refine (minus_any _ _ X (joinS Y Z) _ x15 q15 (by omega) (by omega)).mono ?_
        rintro e w16 ⟨⟨q', rfl, o16⟩, hb16⟩
        have hW16 := hW15.trans (hb16.mono hW15.size)
        have x16 := x15.below hb16
        have p16 := p15.below hb16
        have q16 := o16.rs (minusS_ok _ _)
        go_wp2_with fail
        refine (same_any _ _ _ _ (by omega) p16 q16).mono ?_
        rintro e w17 ⟨rfl, hb17⟩
        have hW17 := hW16.trans (hb17.mono hW16.size)
        have x17 := x16.below hb17
        clear p13 p14 p15 p16 q15 q16 o13 o14 o15 o16 x12 x13 x14 x15 x16 y12 y13 y14 t12 t13 t14
        go_wp2_with fail
        refine (minus_any _ _ X X _ x17 x17 (by omega) (by omega)).mono ?_
        rw [e4]
        rintro e w18 ⟨⟨p, rfl, o18⟩, hb18⟩
        have hW18 := hW17.trans (hb18.mono hW17.size)
        have x18 := x17.below hb18
        have p18 := o18.rs (fun s hs => by cases hs)
        go_wp2_with fail
        refine (same_any _ _ [] _ (by simp) p18 (Rs.nil _)).mono ?_
        rintro e w19 ⟨rfl, hb19⟩
        have hW19 := hW18.trans (hb19.mono hW18.size)
        have x19 := x18.below hb19
        go_wp2_with fail
        refine (join_any _ _ X X _ x19 x19 (by omega) (by omega)).mono ?_
        rw [e5]
        rintro e w20 ⟨⟨q, rfl, o20⟩, hb20⟩
        have hW20 := hW19.trans (hb20.mono hW19.size)
        have x20 := x19.below hb20
        have q20 := o20.rs x20.2
        go_wp2_with fail
        refine (same_any _ _ X _ (by omega) q20 x20).mono ?_
        rintro e w21 ⟨rfl, hb21⟩
        go_wp2_with fail
        go_ret
        exact ⟨rfl, hW20.trans (hb21.mono hW20.size)⟩

theorem spanBoth_walk (a0 : Option Addr) (len0 cap0 : Nat) (x0 : List Int) (a1 : Option Addr) (len1 cap1 : Nat) (x1 : List Int) (a2 : Option Addr) (len2 cap2 : Nat) (x2 : List Int) (w : World) (w0 : IsBytes w a0 len0 cap0 x0) (w1 : IsBytes w a1 len1 cap1 x1) (w2 : IsBytes w a2 len2 cap2 x2) :
    Calls Try.prog 8 #[.slice a0 len0 cap0, .slice a1 len1 cap1, .slice a2 len2 cap2] w fun e w' => e = .returned (.bool true) ∧ Below w.heap.size w w' :=
  both_core _ _ _ x0 x1 x2 w w0.2.1 w1.2.1 w2.2.1 w0.2.2 w1.2.2 w2.2.2
end Go.Proofs.Ytipoppnoflhpiaa
