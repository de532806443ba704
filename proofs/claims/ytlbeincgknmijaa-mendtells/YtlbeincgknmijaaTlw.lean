/-
  MendTells, walked.
-/
import Derived.Test.YtlbeincgknmijaaTlp
import Derived.Test.YtlbeincgknmijaaLcr
import Derived.Test.YtlbeincgknmijaaGvr
import Derived.Test.YtlbeincgknmijaaGva
import Derived.Test.YtlbeincgknmijaaLwl
namespace Go.Proofs.Ytlbeincgknmijaa
open Go.RowKit

theorem giveS_ok {low : Int} {R : Rng} (hI : RI low R) (l0 : 0 ≤ low) (l1 : low ≤ 1000000) (l : List Sn) (most : Int) : PlOk (giveS low R l most) ∧ (giveS low R l most).length ≤ 1000 := by
  refine ⟨fun x hx => ?_, ?_⟩
  · obtain ⟨i, hi, rfl⟩ := List.mem_iff_getElem.1 hx
    obtain ⟨_, _, _, a, b, _⟩ := giveS_at hI l0 l1 l most hi
    omega
  · rw [giveS_len hI l0 l1]
    have := flt_len low R l 64
    omega
theorem Rf.off {B q : Nat} {und : Int} {L : List Pl} {w w' : World} (h : Rf B q und L w) (hb : Below w.heap.size w w') {g : Nat} (hg : w.heap.size ≤ g) : Off q g w' := by
  obtain ⟨a, cap, c0, _, _, _, _, hsh, _⟩ := h.cells
  intro v hv
  rw [cellB c0 hb] at hv
  cases hv
  rcases hsh with ⟨rfl, _⟩ | ⟨g', rfl, _, hlt⟩
  · intro e; cases e
  · intro e
    cases e
    have hg' : w.heap.size ≤ g' := hg
    omega

set_option maxRecDepth 100000 in
set_option maxHeartbeats 1000000 in
theorem take_nil (p : Nat) (a : Option Addr) (cap : Nat) (most : Int) (w : World) :
    Calls Try.prog 18 #[.pointer (some ⟨p, 0, none⟩), .slice a 0 cap, .int .u64 most] w fun e w' => e = .returned (.int .i64 0) ∧ w' = w := by
  go_enter Try.func18, Try.ntmps18
  go_wp2_with fail
  go_loopg [7, 12] 0 (fun gk t7 t12 wr => t7 = .int .i64 0 ∧ t12 = .int .i64 0 ∧ wr = w)
  case atStart => exact ⟨rfl, rfl, rfl⟩
  case round =>
    obtain ⟨rfl, rfl, rfl⟩ := hrel
    go_wp2_with fail
    go_ret
    exact ⟨rfl, rfl⟩
theorem takep_all (p : Nat) (low : Int) (R : Rng) (l0 : 0 ≤ low) (l1 : low ≤ 1000000) (v : Value) (l : List Pl) (hok : PlOk l) (hl : l.length ≤ 1000) (most : Int) (w : World) (hS : Sf p low R w) (hR : Rp v l w) (hp : l = [] ∨ v.ownBlock ≠ some p) :
    Calls Try.prog 18 #[.pointer (some ⟨p, 0, none⟩), v, .int .u64 most] w fun e w' => e = .returned (.int .i64 (takeP low most R l).2) ∧ Sf p low (takeP low most R l).1 w' ∧ But w.heap.size p w w' := by
  rcases hp with rfl | hp
  · obtain ⟨a, cap, rfl, _⟩ := hR
    refine (take_nil p a cap most w).mono ?_
    rintro e w' ⟨rfl, rfl⟩
    exact ⟨rfl, hS, But.refl _ _ _⟩
  · exact take_any p low R l0 l1 v l hok hl most w hS hR hp

set_option maxRecDepth 100000 in
set_option maxHeartbeats 8000000 in
theorem tells_core (va vm vw vl : Value) (l : List Int) (mine want : List Sn) (ps : List Pl) (tr most many : Int) (t0 : 0 ≤ tr) (t1 : tr ≤ 255) (m0 : 0 ≤ many) (m1 : many ≤ 18446744073709551615) (w : World)
    (hA : Rn va l w) (hBa : Bytes l) (hM : Rs vm mine w) (hW : Rs vw want w) (hP : Rp vl ps w) (hok : PlOk ps) :
    Calls Try.prog 3 #[va, .int .u8 tr, vm, vw, vl, .int .i64 most, .int .u64 many] w fun e w' => e = .returned (.bool true) ∧ Below w.heap.size w w' := by
  have hlt := hP.lt
  obtain ⟨aa, capa, rfl, ha3⟩ := id hA
  obtain ⟨⟨am, capm, rfl, _, _, hm3⟩, _⟩ := id hM
  obtain ⟨⟨aw, capw, rfl, _, _, hw3⟩, _⟩ := id hW
  obtain ⟨ap, capp, rfl, hp3⟩ := id hP
  clear ha3 hm3 hw3
  by_cases hla : 150 < l.length
  · have z1 : decide ((150 : Int) < (l.length : Int)) = true := decide_eq_true (by omega)
    have z1N : decide (150 < l.length) = true := decide_eq_true hla
    go_enter Try.func3, Try.ntmps3
    go_wp2_with fail
    refine (shown_any _).mono ?_
    rintro e w1 ⟨rfl, hb⟩
    go_wp2_with fail
    go_ret
    exact ⟨rfl, hb⟩
  have z1 : decide ((150 : Int) < (l.length : Int)) = false := decide_eq_false (by omega)
  have z1N : decide (150 < l.length) = false := decide_eq_false hla
  by_cases hlm : 60 < mine.length
  · have z2 : decide ((60 : Int) < (mine.length : Int)) = true := decide_eq_true (by omega)
    have z2N : decide (60 < mine.length) = true := decide_eq_true hlm
    go_enter Try.func3, Try.ntmps3
    go_wp2_with fail
    refine (shown_any _).mono ?_
    rintro e w1 ⟨rfl, hb⟩
    go_wp2_with fail
    go_ret
    exact ⟨rfl, hb⟩
  have z2 : decide ((60 : Int) < (mine.length : Int)) = false := decide_eq_false (by omega)
  have z2N : decide (60 < mine.length) = false := decide_eq_false hlm
  by_cases hlw : 60 < want.length
  · have z3 : decide ((60 : Int) < (want.length : Int)) = true := decide_eq_true (by omega)
    have z3N : decide (60 < want.length) = true := decide_eq_true hlw
    go_enter Try.func3, Try.ntmps3
    go_wp2_with fail
    refine (shown_any _).mono ?_
    rintro e w1 ⟨rfl, hb⟩
    go_wp2_with fail
    go_ret
    exact ⟨rfl, hb⟩
  have z3 : decide ((60 : Int) < (want.length : Int)) = false := decide_eq_false (by omega)
  have z3N : decide (60 < want.length) = false := decide_eq_false hlw
  by_cases hlp : 60 < ps.length
  · have z4 : decide ((60 : Int) < (ps.length : Int)) = true := decide_eq_true (by omega)
    have z4N : decide (60 < ps.length) = true := decide_eq_true hlp
    go_enter Try.func3, Try.ntmps3
    go_wp2_with fail
    refine (shown_any _).mono ?_
    rintro e w1 ⟨rfl, hb⟩
    go_wp2_with fail
    go_ret
    exact ⟨rfl, hb⟩
  have z4 : decide ((60 : Int) < (ps.length : Int)) = false := decide_eq_false (by omega)
  have z4N : decide (60 < ps.length) = false := decide_eq_false hlp
  have hll : (l.length : Int) ≤ 150 := by omega
  have hml : (mine.length : Int) ≤ 60 := by omega
  have hwl : (want.length : Int) ≤ 60 := by omega
  have hpl : (ps.length : Int) ≤ 60 := by omega
  go_enter Try.func3, Try.ntmps3
  go_wp2_with fail
  refine (shown_any _).mono ?_
  rintro e w1 ⟨rfl, hb1⟩
  go_wp2_with fail
  clear z1 z1N z2 z2N z3 z3N z4 z4N
  go_loopg [15] ps.length (fun gk t15 wr => ∃ i : Nat, i + gk = ps.length ∧ t15 = .int .i64 i ∧ Below w.heap.size w wr)
  case atStart => exact ⟨0, by omega, rfl, hb1⟩
  case round =>
    clear hb1
    obtain ⟨i, hi, rfl, hB⟩ := hrel
    have i0 : (0 : Int) ≤ i := by omega
    by_cases hil : (i : Int) < ps.length
    · have hin : i < ps.length := by omega
      rcases hp3 with hp3 | ⟨g, off, rfl, hg, hp3⟩
      · omega
      have c3 := cellB (hp3 i hin).2.2.2 (hB.mono (Nat.le_refl _))
      generalize ps[i].g.x = x at *
      clear hp3 hM hW hP hA hlt hok
      by_cases hx : (100 : Int) < (x.size : Int)
      · have zx : decide ((100 : Int) < (x.size : Int)) = true := decide_eq_true hx
        go_wp2_with fail
        refine (shown_any _).mono ?_
        rintro e w2 ⟨rfl, hb2⟩
        go_wp2_with fail
        go_ret
        exact ⟨rfl, hB.trans (hb2.mono hB.size)⟩
      · have zx : decide ((100 : Int) < (x.size : Int)) = false := decide_eq_false hx
        go_wp2_with fail
        go_roundg (gk - 1)
        case rel => exact ⟨i + 1, by omega, by go_num, hB⟩
        case measure => omega
    · clear hp3
      -- the two shelves
      go_wp2_with fail
      refine (filled_any _ l tr hBa (by omega) t0 t1 wr (hA.below hB)).mono ?_
      rintro e w2 ⟨⟨low, R, L, rfl, hT2, hlow, hL, _⟩, hb2⟩
      have hB2 := hB.trans (hb2.mono hB.size)
      have hwp := hB.size
      have hC := hT2.cp
      have hS2 := hT2.sf
      have hF2 := hT2.rf
      have hz2 := hT2.le
      have l0 := hC.l0
      have l1 : low ≤ 1000000 := by omega
      have hL1 : L.length ≤ 1000 := by omega
      have hvp : ps = [] ∨ (Value.slice ap ps.length capp).ownBlock ≠ some wr.heap.size := by
        rcases hlt with h | ⟨g, e, h⟩
        · exact Or.inl h
        · exact Or.inr (by rw [e]; intro e2; cases e2; omega)
      generalize wr.heap.size = p at *
      clear hT2 hlt hb2 hA hBa hB hlow
      -- Lack
      have hlo := lackM_ok mine want many
      have hle := lackM_le mine want many
      go_wp2_with fail
      refine (lack_any _ _ mine want many w2 (hM.below hB2) (hW.below hB2) (by omega) (by omega) m0 m1).mono ?_
      rintro e w3 ⟨⟨v3, rfl, hO3⟩, hb3⟩
      have hR3 := hO3.rs hlo
      have hS3 := hS2.below hb3
      have hF3 := hF2.below hb3
      have hz3 := Nat.le_trans hz2 hb3.size
      have hB3 := hB2.trans (hb3.mono hB2.size)
      clear hO3 hb3 hS2 hF2 hz2 hB2
      go_wp2_with fail
      refine (flack_any _ _ mine want many w3 (hM.below hB3) (hW.below hB3) (by omega) (by omega) m0 m1).mono ?_
      rintro e w4 ⟨⟨v4, rfl, hR4⟩, hb4⟩
      have hR3 := hR3.below hb4
      have hS4 := hS3.below hb4
      have hF4 := hF3.below hb4
      have hz4 := Nat.le_trans hz3 hb4.size
      have hB4 := hB3.trans (hb4.mono hB3.size)
      clear hb4 hS3 hF3 hz3 hB3
      go_wp2_with fail
      refine (same_any v3 v4 _ w4 (by omega) hR3 hR4).mono ?_
      rintro e w5 ⟨rfl, hb5⟩
      have hS5 := hS4.below hb5
      have hF5 := hF4.below hb5
      have hz5 := Nat.le_trans hz4 hb5.size
      have hB5 := hB4.trans (hb5.mono hB4.size)
      clear hb5 hS4 hF4 hz4 hB4 hR3 hR4 hlo hle
      -- Give
      obtain ⟨g1, g2⟩ := giveS_ok hC.ri l0 l1 want most
      go_wp2_with fail
      refine (give_any p low R hC.ri l0 l1 _ want most w5 hS5 (hW.below hB5) (by omega)).mono ?_
      rintro e w6 ⟨⟨v6, rfl, hO6⟩, hb6⟩
      have hP6 := Rp.of hO6.rd
      have hS6 := hS5.below hb6
      have hF6 := hF5.below hb6
      have hz6 := Nat.le_trans hz5 hb6.size
      have hB6 := hB5.trans (hb6.mono hB5.size)
      clear hO6 hb6 hS5 hF5 hz5 hB5
      have hrg := fun w' hF hR => rgive_any (p + 2) (p + 1) low R L hC hL1 l1 (.slice aw want.length capw) want most w' hF hR (by omega)
      generalize giveS low R want most = G at *
      go_wp2_with fail
      refine (theirs_any v6 G w6 hP6 g2).mono ?_
      rintro e w7 ⟨⟨v7, rfl, hO7⟩, hb7⟩
      have hP7 := Rp.of hO7.rd
      have hS7 := hS6.below hb7
      have hF7 := hF6.below hb7
      have hz7 := Nat.le_trans hz6 hb7.size
      have hB7 := hB6.trans (hb7.mono hB6.size)
      clear hO7 hb7 hS6 hF6 hz6 hB6 hP6
      have hrg7 := hrg w7 hF7 (hW.below hB7)
      clear hrg
      go_wp2_with fail
      refine hrg7.mono ?_
      rintro e w8 ⟨⟨v8, rfl, hO8⟩, hb8⟩
      have hP8 := Rp.of hO8.rd
      have hP7 := hP7.below hb8
      have hS8 := hS7.below hb8
      have hF8 := hF7.below hb8
      have hz8 := Nat.le_trans hz7 hb8.size
      have hB8 := hB7.trans (hb8.mono hB7.size)
      clear hO8 hb8 hS7 hF7 hz7 hB7 hrg7
      go_wp2_with fail
      refine (psame_any v7 v8 G w8 g2 hP7 hP8).mono ?_
      rintro e w9 ⟨rfl, hb9⟩
      have hS9 := hS8.below hb9
      have hF9 := hF8.below hb9
      have hz9 := Nat.le_trans hz8 hb9.size
      have hB9 := hB8.trans (hb9.mono hB8.size)
      clear hb9 hS8 hF8 hz8 hB8 hP7 hP8 g1 g2
      -- Digest
      have hHl := haveR_len (R := R) l0 l1
      have hDl : (digS (haveR low R) most).length ≤ 65 := by unfold digS; rw [List.length_take]; omega
      go_wp2_with fail
      refine (digest_any p low R l0 l1 most w9 hS9).mono ?_
      rintro e w10 ⟨⟨v10, rfl, hR10⟩, hb10⟩
      have hS10 := hS9.below hb10
      have hF10 := hF9.below hb10
      have hz10 := Nat.le_trans hz9 hb10.size
      have hB10 := hB9.trans (hb10.mono hB9.size)
      clear hb10 hS9 hF9 hz9 hB9
      go_wp2_with fail
      refine (fdigest_any (p + 2) (p + 1) low R L hC hL1 l1 most w10 hF10).mono ?_
      rintro e w11 ⟨⟨v11, rfl, hR11⟩, hb11⟩
      have hR10 := hR10.below hb11
      have hS11 := hS10.below hb11
      have hF11 := hF10.below hb11
      have hz11 := Nat.le_trans hz10 hb11.size
      have hB11 := hB10.trans (hb11.mono hB10.size)
      clear hb11 hS10 hF10 hz10 hB10
      go_wp2_with fail
      refine (same_any v10 v11 _ w11 (by omega) hR10 hR11).mono ?_
      rintro e w12 ⟨rfl, hb12⟩
      have hS12 := hS11.below hb12
      have hF12 := hF11.below hb12
      have hz12 := Nat.le_trans hz11 hb12.size
      have hB12 := hB11.trans (hb12.mono hB11.size)
      clear hb12 hS11 hF11 hz11 hB11 hR10 hR11 hHl hDl
      -- Take
      go_wp2_with fail
      refine (takep_all p low R l0 l1 _ ps hok (by omega) many w12 hS12 (hP.below hB12) hvp).mono ?_
      rintro e w13 ⟨rfl, hS13, hb13⟩
      have hF13 := hF12.but hb13 (by omega) (by omega)
      have hz13 := Nat.le_trans hz12 hb13.size
      have hB13 := hB12.trans ((hb13.mono hB12.size).to hwp)
      clear hb13 hS12 hF12 hz12 hB12 hvp
      go_wp2_with fail
      refine (theirs_any _ ps w13 (hP.below hB13) (by omega)).mono ?_
      rintro e w14 ⟨⟨v14, rfl, hO14⟩, hb14⟩
      have hP14 := Rp.of hO14.rd
      have hoff : ∀ g, v14.ownBlock = some g → g ≠ p + 1 ∧ Off (p + 1) g w14 := fun g e => by
        have hg := (hO14.lt g e).1
        exact ⟨by omega, hF13.off hb14 hg⟩
      have hS14 := hS13.below hb14
      have hF14 := hF13.below hb14
      have hz14 := Nat.le_trans hz13 hb14.size
      have hB14 := hB13.trans (hb14.mono hB13.size)
      clear hO14 hb14 hS13 hF13 hz13 hB13
      have hft := ftake_any (p + 2) (p + 1) low R L hC l1 v14 ps hok (by omega) many w14 hz14 hF14 hP14 hoff
      generalize takeP low many R ps = T at *
      obtain ⟨S, cn⟩ := T
      dsimp only at hft hS14 ⊢
      go_wp2_with fail
      refine hft.mono ?_
      rintro e w15 ⟨rfl, ⟨L2, hC2, hF15, hL2⟩, hb15⟩
      have hS15 := hS14.butB hb15 (by omega) (by omega)
      have hB15 := hB14.trans ((hb15.mono (by omega)).to (by omega))
      have hL2' : L2.length ≤ 1000 := by omega
      clear hft hb15 hS14 hF14 hz14 hB14 hP14 hoff hC hL hL1 hM hW hP hok
      have hHl := haveR_len (R := S) l0 l1
      go_wp2_with fail
      refine (shave_any p low S l0 l1 w15 hS15).mono ?_
      rintro e w16 ⟨⟨v16, rfl, hR16⟩, hb16⟩
      have hF16 := hF15.below hb16
      have hB16 := hB15.trans (hb16.mono hB15.size)
      clear hb16 hS15 hF15 hB15
      go_wp2_with fail
      refine (fhave_all (p + 2) (p + 1) low S L2 hC2 hL2' l1 w16 hF16).mono ?_
      rintro e w17 ⟨⟨v17, rfl, hR17⟩, hb17⟩
      have hR16 := hR16.below hb17
      have hB17 := hB16.trans (hb17.mono hB16.size)
      clear hb17 hF16 hB16
      go_wp2_with fail
      refine (same_any v16 v17 _ w17 (by omega) hR16 hR17).mono ?_
      rintro e w18 ⟨rfl, hb18⟩
      go_wp2_with fail
      go_ret
      exact ⟨rfl, hB17.trans (hb18.mono hB17.size)⟩
theorem tells_walk (a : Option Addr) (len cap : Nat) (l : List Int) (tr : Int) (a2 : Option Addr) (len2 cap2 : Nat) (mine : List Sn) (a3 : Option Addr) (len3 cap3 : Nat) (want : List Sn) (a4 : Option Addr) (len4 cap4 : Nat) (ps : List Pl) (most many : Int)
    (ht : (Lit.int .u8 tr).wf = true) (_ : (Lit.int .i64 most).wf = true) (hm : (Lit.int .u64 many).wf = true) (w : World) (h0 : IsBytes w a len cap l) (h2 : IsSpans w a2 len2 cap2 mine) (h3 : IsSpans w a3 len3 cap3 want) (h4 : IsPieces w a4 len4 cap4 ps) :
    Calls Try.prog 3 #[.slice a len cap, .int .u8 tr, .slice a2 len2 cap2, .slice a3 len3 cap3, .slice a4 len4 cap4, .int .i64 most, .int .u64 many] w fun e w' => e = .returned (.bool true) ∧ Below w.heap.size w w' :=
  tells_core _ _ _ _ l mine want ps tr most many (u8_of ht).1 (u8_of ht).2 (u64_of hm).1 (u64_of hm).2 w h0.2.1 h0.2.2 h2.2 h3.2 h4.2.1 h4.2.2
end Go.Proofs.Ytlbeincgknmijaa
