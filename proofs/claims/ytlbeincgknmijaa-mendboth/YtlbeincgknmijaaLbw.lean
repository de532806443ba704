/-
  MendBoth, walked.
-/
import Derived.Test.YtlbeincgknmijaaLbm
namespace Go.Proofs.Ytlbeincgknmijaa
open Go.RowKit

theorem joinM_le (a b : List Sn) : (joinS a b).length ≤ a.length + b.length := by
  unfold joinS
  cases h1 : mayS a <;> cases h2 : mayS b
  · simp
  · simp
  · simp
  · exact walkS_len rfl ((mayS_iff a).1 h1) ((mayS_iff b).1 h2)
theorem giveS_ok {low : Int} {R : Rng} (hI : RI low R) (l0 : 0 ≤ low) (l1 : low ≤ 1000000) (l : List Sn) (most : Int) : PlOk (giveS low R l most) ∧ (giveS low R l most).length ≤ 1000 := by
  refine ⟨fun x hx => ?_, ?_⟩
  · obtain ⟨i, hi, rfl⟩ := List.mem_iff_getElem.1 hx
    obtain ⟨_, _, _, a, b, _⟩ := giveS_at hI l0 l1 l most hi
    omega
  · rw [giveS_len hI l0 l1]
    have := flt_len low R l 64
    omega
theorem Rs.but {B p : Nat} {v : Value} {l : List Sn} {w w' : World} (h : Rs v l w) (hb : But B p w w') (hB : w.heap.size ≤ B) (hp : v.ownBlock ≠ some p) : Rs v l w' :=
  h.keep fun g e hg => hb.block g (by omega) (by rintro rfl; exact hp e)
theorem OwE.ne {α : Type} {E : Enc α} {T : TypeId} {B p : Nat} {v : Value} {l : List α} {w : World} (h : OwE E T B v l w) (hp : p < B) : v.ownBlock ≠ some p := fun e => by have := (h.lt p e).1; omega
theorem Ow.ne {B p : Nat} {v : Value} {l : List Sn} {w : World} (h : Ow B v l w) (hp : p < B) : v.ownBlock ≠ some p := fun e => by have := (h.lt p e).1; omega

set_option maxRecDepth 100000 in
set_option maxHeartbeats 8000000 in
theorem both_core (va vb : Value) (l t : List Int) (n : Int) (n0 : 0 ≤ n) (n1 : n ≤ 255) (w : World) (hA : Rn va l w) (hBa : Bytes l) (hT : Rn vb t w) (hBt : Bytes t) :
    Calls Try.prog 4 #[va, vb, .int .u8 n] w fun e w' => e = .returned (.bool true) ∧ Below w.heap.size w w' := by
  obtain ⟨aa, capa, rfl, ha3⟩ := id hA
  obtain ⟨ab, capb, rfl, hb3⟩ := id hT
  clear ha3 hb3
  by_cases hla : 150 < l.length
  · have z1 : decide ((150 : Int) < (l.length : Int)) = true := decide_eq_true (by omega)
    have z1N : decide (150 < l.length) = true := decide_eq_true hla
    go_enter Try.func4, Try.ntmps4
    go_wp2_with fail
    refine (shown_any _).mono ?_
    rintro e w1 ⟨rfl, hb⟩
    go_wp2_with fail
    go_ret
    exact ⟨rfl, hb⟩
  have z1 : decide ((150 : Int) < (l.length : Int)) = false := decide_eq_false (by omega)
  have z1N : decide (150 < l.length) = false := decide_eq_false hla
  by_cases hlb : 150 < t.length
  · have z2 : decide ((150 : Int) < (t.length : Int)) = true := decide_eq_true (by omega)
    have z2N : decide (150 < t.length) = true := decide_eq_true hlb
    go_enter Try.func4, Try.ntmps4
    go_wp2_with fail
    refine (shown_any _).mono ?_
    rintro e w1 ⟨rfl, hb⟩
    go_wp2_with fail
    go_ret
    exact ⟨rfl, hb⟩
  have z2 : decide ((150 : Int) < (t.length : Int)) = false := decide_eq_false (by omega)
  have z2N : decide (150 < t.length) = false := decide_eq_false hlb
  go_enter Try.func4, Try.ntmps4
  go_wp2_with fail
  refine (shown_any _).mono ?_
  rintro e w1 ⟨rfl, hb1⟩
  go_wp2_with fail
  refine (filled_any _ l 0 hBa (by omega) (by decide) (by decide) w1 (hA.below hb1)).mono ?_
  rintro e w2 ⟨⟨low, A, L, rfl, h2, _, _, hlow⟩, hb2⟩
  obtain rfl := hlow rfl
  have hB2 := hb1.trans (hb2.mono hb1.size)
  have hIA := h2.cp.ri
  have hXA := h2.tx
  have hSA := h2.sf
  have hp1 : w.heap.size ≤ w1.heap.size := hb1.size
  have hp2 : w1.heap.size < w2.heap.size := by have := h2.le; omega
  generalize w1.heap.size = p1 at *
  clear hb1 hb2 h2 hlow hA hBa z1 z1N
  go_wp2_with fail
  refine (filled_any _ t 0 hBt (by omega) (by decide) (by decide) w2 (hT.below hB2)).mono ?_
  rintro e w3 ⟨⟨low, C, L, rfl, h3, _, _, hlow⟩, hb3⟩
  obtain rfl := hlow rfl
  have hB3 := hB2.trans (hb3.mono hB2.size)
  have hIC := h3.cp.ri
  have hXC := h3.tx
  have hSC := h3.sf
  have hSA3 := hSA.below hb3
  have hp3 : w2.heap.size < w3.heap.size := by have := h3.le; omega
  generalize w2.heap.size = p2 at *
  clear hb3 h3 hlow hT hBt z2 z2N hSA hB2
  go_wp2_with fail
  refine (shave_any p1 0 A (by decide) (by decide) w3 hSA3).mono ?_
  rintro e w4 ⟨⟨v4, rfl, hR4⟩, hb4⟩
  have hSA4 := hSA3.below hb4
  have hSC4 := hSC.below hb4
  have hB4 := hB3.trans (hb4.mono hB3.size)
  have hp4 := Nat.lt_of_lt_of_le hp3 hb4.size
  clear hSA3 hSC hB3 hb4
  go_wp2_with fail
  refine (shave_any p2 0 C (by decide) (by decide) w4 hSC4).mono ?_
  rintro e w5 ⟨⟨v5, rfl, hR5⟩, hb5⟩
  have hR45 := hR4.below hb5
  have hSA5 := hSA4.below hb5
  have hSC5 := hSC4.below hb5
  have hB5 := hB4.trans (hb5.mono hB4.size)
  have hp5 := Nat.lt_of_lt_of_le hp4 hb5.size
  clear hSA4 hSC4 hB4 hb5 hR4
  have hAl := haveR_len (R := A) (low := 0) (by decide) (by decide)
  have hCl := haveR_len (R := C) (low := 0) (by decide) (by decide)
  have hjo := joinM_ok (haveR 0 A) (haveR 0 C)
  have hjl := joinM_le (haveR 0 A) (haveR 0 C)
  go_wp2_with fail
  refine (fjoin_any v4 v5 (haveR 0 A) (haveR 0 C) w5 hR45 hR5 (by omega) (by omega)).mono ?_
  rintro e w6 ⟨⟨v6, rfl, hO6⟩, hb6⟩
  have hR6 := hO6.rs hjo
  have hq1 := hO6.ne (p := p1) (by omega)
  have hq2 := hO6.ne (p := p2) (by omega)
  have hSA6 := hSA5.below hb6
  have hSC6 := hSC5.below hb6
  have hB6 := hB5.trans (hb6.mono hB5.size)
  have hdone := fun R S h => @Md.done A C R S 80 hIA hIC h (by decide)
  obtain ⟨J, HJ⟩ : ∃ J, Hid (joinS (haveR 0 A) (haveR 0 C) = J) := ⟨_, rfl⟩
  rw [HJ.out] at hR6 hjl
  have hdone : Hid (∀ R S, Md A C 80 R S → haveR 0 R = J ∧ haveR 0 S = J) := fun R S h => by rw [← HJ.out]; exact hdone R S h
  have hM0 := Md.start hIA hIC hXA hXC
  clear hSA5 hSC5 hB5 hb6 hO6 hR5 hR45 hjo HJ hIA hIC hXA hXC hp5 hp4 hp3
  have hne12 : p1 ≠ p2 := by omega
  have hwn : IntKind.i64.wrap n = n := by rw [IntKind.wrap_i64]; omega
  have hwk : IntKind.i64.wrap (1 + n % 6) = 1 + n % 6 := by rw [IntKind.wrap_i64]; omega
  have hwu : IntKind.u64.wrap (1 + n % 6) = 1 + n % 6 := by rw [IntKind.wrap_u64]; omega
  have hk1 : 1 ≤ 1 + n % 6 := by omega
  have hk2 : 1 + n % 6 ≤ 6 := by omega
  go_wp2_with fail
  generalize 1 + n % 6 = k at *
  go_loopg [13] 80 (fun gk t13 wr => ∃ (i : Nat) (R S : Rng), i + gk = 80 ∧ t13 = .int .i64 i ∧ Md A C i R S ∧ Sf p1 0 R wr ∧ Sf p2 0 S wr ∧ Rs v6 J wr ∧ Below w.heap.size w wr)
  case atStart => exact ⟨0, A, C, by omega, rfl, hM0, hSA6, hSC6, hR6, hB6⟩
  case round =>
    clear hM0 hSA6 hSC6 hR6 hB6
    obtain ⟨i, R, S, hi, rfl, hM, hS1, hS2, hRJ, hB⟩ := hrel
    have i0 : (0 : Int) ≤ i := by omega
    have hRl := haveR_len (R := R) (low := 0) (by decide) (by decide)
    have hSl := haveR_len (R := S) (low := 0) (by decide) (by decide)
    by_cases hlt : (i : Int) < 80
    · have hst := hM.step hk1
      have hI2 := hM.rj
      have hI1 := hst.ri
      clear hM
      -- the first one takes of the second
      have hl1 := lackM_le (haveR 0 R) (haveR 0 S) k
      have ho1 := lackM_ok (haveR 0 R) (haveR 0 S) k
      obtain ⟨g1, g2⟩ := giveS_ok hI2 (by decide) (by decide) (lackM (haveR 0 R) (haveR 0 S) k) k
      go_wp2_with fail
      refine (shave_any p1 0 R (by decide) (by decide) wr hS1).mono ?_
      rintro e w1 ⟨⟨v1, rfl, hr1⟩, hb1⟩
      have hS1a := hS1.below hb1
      have hS2a := hS2.below hb1
      have hRJa := hRJ.below hb1
      have hBa := hB.trans (hb1.mono hB.size)
      clear hS1 hS2 hRJ hB hb1
      go_wp2_with fail
      refine (shave_any p2 0 S (by decide) (by decide) w1 hS2a).mono ?_
      rintro e w2 ⟨⟨v2, rfl, hr2⟩, hb2⟩
      have hr1 := hr1.below hb2
      have hS1b := hS1a.below hb2
      have hS2b := hS2a.below hb2
      have hRJb := hRJa.below hb2
      have hBb := hBa.trans (hb2.mono hBa.size)
      clear hS1a hS2a hRJa hBa hb2
      go_wp2_with fail
      refine (lack_any v1 v2 (haveR 0 R) (haveR 0 S) k w2 hr1 hr2 (by omega) (by omega) (by omega) (by omega)).mono ?_
      rintro e w3 ⟨⟨v3, rfl, hO3⟩, hb3⟩
      have hr3 := hO3.rs ho1
      have hS1c := hS1b.below hb3
      have hS2c := hS2b.below hb3
      have hRJc := hRJb.below hb3
      have hBc := hBb.trans (hb3.mono hBb.size)
      clear hS1b hS2b hRJb hBb hb3 hO3 hr1 hr2 ho1
      go_wp2_with fail
      refine (give_any p2 0 S hI2 (by decide) (by decide) v3 (lackM (haveR 0 R) (haveR 0 S) k) k w3 hS2c hr3 (by omega)).mono ?_
      rintro e w4 ⟨⟨v4, rfl, hO4⟩, hb4⟩
      have hS1d := hS1c.below hb4
      have hS2d := hS2c.below hb4
      have hRJd := hRJc.below hb4
      have hBd := hBc.trans (hb4.mono hBc.size)
      have hpv := hO4.ne (p := p1) hS1c.lt
      have hrp := Rp.of hO4.rd
      clear hS1c hS2c hRJc hBc hb4 hO4 hr3
      go_wp2_with fail
      refine (take_any p1 0 R (by decide) (by decide) v4 _ g1 g2 1000 w4 hS1d hrp hpv).mono ?_
      rintro e w5 ⟨rfl, hS1e, hb5⟩
      have hS1e : Sf p1 0 (stepR k R S) w5 := hS1e
      have hS2e := hS2d.but hb5 (Ne.symm hne12)
      have hRJe := hRJd.but hb5 (Nat.le_refl _) hq1
      have hBe := hBd.trans ((hb5.mono hBd.size).to hp1)
      generalize (takeP 0 1000 R (giveS 0 S (lackM (haveR 0 R) (haveR 0 S) k) k)).2 = cn at *
      clear hS1d hS2d hRJd hBd hb5 hrp hpv g1 g2 hl1 hI2
      have hRl := haveR_len (R := stepR k R S) (low := 0) (by decide) (by decide)
      generalize stepR k R S = R at *
      -- the second one takes of the first
      have hl1 := lackM_le (haveR 0 S) (haveR 0 R) k
      have ho1 := lackM_ok (haveR 0 S) (haveR 0 R) k
      obtain ⟨g1, g2⟩ := giveS_ok hI1 (by decide) (by decide) (lackM (haveR 0 S) (haveR 0 R) k) k
      go_wp2_with fail
      refine (shave_any p2 0 S (by decide) (by decide) w5 hS2e).mono ?_
      rintro e w6 ⟨⟨v6a, rfl, hr1⟩, hb1⟩
      have hS1a := hS1e.below hb1
      have hS2a := hS2e.below hb1
      have hRJa := hRJe.below hb1
      have hBa := hBe.trans (hb1.mono hBe.size)
      clear hS1e hS2e hRJe hBe hb1
      go_wp2_with fail
      refine (shave_any p1 0 R (by decide) (by decide) w6 hS1a).mono ?_
      rintro e w7 ⟨⟨v7, rfl, hr2⟩, hb2⟩
      have hr1 := hr1.below hb2
      have hS1b := hS1a.below hb2
      have hS2b := hS2a.below hb2
      have hRJb := hRJa.below hb2
      have hBb := hBa.trans (hb2.mono hBa.size)
      clear hS1a hS2a hRJa hBa hb2
      go_wp2_with fail
      refine (lack_any v6a v7 (haveR 0 S) (haveR 0 R) k w7 hr1 hr2 (by omega) (by omega) (by omega) (by omega)).mono ?_
      rintro e w8 ⟨⟨v8, rfl, hO3⟩, hb3⟩
      have hr3 := hO3.rs ho1
      have hS1c := hS1b.below hb3
      have hS2c := hS2b.below hb3
      have hRJc := hRJb.below hb3
      have hBc := hBb.trans (hb3.mono hBb.size)
      clear hS1b hS2b hRJb hBb hb3 hO3 hr1 hr2 ho1
      go_wp2_with fail
      refine (give_any p1 0 R hI1 (by decide) (by decide) v8 (lackM (haveR 0 S) (haveR 0 R) k) k w8 hS1c hr3 (by omega)).mono ?_
      rintro e w9 ⟨⟨v9, rfl, hO4⟩, hb4⟩
      have hS1d := hS1c.below hb4
      have hS2d := hS2c.below hb4
      have hRJd := hRJc.below hb4
      have hBd := hBc.trans (hb4.mono hBc.size)
      have hpv := hO4.ne (p := p2) hS2c.lt
      have hrp := Rp.of hO4.rd
      clear hS1c hS2c hRJc hBc hb4 hO4 hr3
      go_wp2_with fail
      refine (take_any p2 0 S (by decide) (by decide) v9 _ g1 g2 1000 w9 hS2d hrp hpv).mono ?_
      rintro e w10 ⟨rfl, hS2e, hb5⟩
      have hS2e : Sf p2 0 (stepR k S R) w10 := hS2e
      have hS1e := hS1d.but hb5 hne12
      have hRJe := hRJd.but hb5 (Nat.le_refl _) hq2
      have hBe := hBd.trans ((hb5.mono hBd.size).to (by omega))
      generalize (takeP 0 1000 S (giveS 0 R (lackM (haveR 0 S) (haveR 0 R) k) k)).2 = cn2 at *
      clear hS1d hS2d hRJd hBd hb5 hrp hpv g1 g2 hl1 hI1
      generalize stepR k S R = S at *
      go_wp2_with fail
      go_roundg (gk - 1)
      case rel => exact ⟨i + 1, R, S, by omega, by go_num, hst, hS1e, hS2e, hRJe, hBe⟩
      case measure => omega
    · obtain rfl : i = 80 := by omega
      obtain ⟨e1, e2⟩ := hdone.out R S hM
      have hh1 := shave_any p1 0 R (by decide) (by decide) wr hS1
      have hh2 := fun w' h => shave_any p2 0 S (by decide) (by decide) w' h
      rw [e1] at hh1
      rw [e2] at hh2
      clear hM e1 e2 hRl hSl
      go_wp2_with fail
      refine hh1.mono ?_
      rintro e w1 ⟨⟨v1, rfl, hr1⟩, hb1⟩
      have hS2a := hS2.below hb1
      have hRJa := hRJ.below hb1
      have hBa := hB.trans (hb1.mono hB.size)
      clear hh1 hS1 hS2 hRJ hB hb1
      go_wp2_with fail
      refine (same_any v1 v6 J w1 (by omega) hr1 hRJa).mono ?_
      rintro e w2 ⟨rfl, hb2⟩
      have hh3 := hh2 _ (hS2a.below hb2)
      have hRJb := hRJa.below hb2
      have hBb := hBa.trans (hb2.mono hBa.size)
      clear hh2 hS2a hRJa hBa hb2
      go_wp2_with fail
      refine hh3.mono ?_
      rintro e w3 ⟨⟨v3, rfl, hr3⟩, hb3⟩
      have hRJc := hRJb.below hb3
      have hBc := hBb.trans (hb3.mono hBb.size)
      clear hh3 hRJb hBb hb3
      go_wp2_with fail
      refine (same_any v3 v6 J w3 (by omega) hr3 hRJc).mono ?_
      rintro e w4 ⟨rfl, hb4⟩
      go_wp2_with fail
      go_ret
      exact ⟨rfl, hBc.trans (hb4.mono hBc.size)⟩
theorem both_walk (a : Option Addr) (len cap : Nat) (l : List Int) (a' : Option Addr) (len' cap' : Nat) (t : List Int) (n : Int) (hn : (Lit.int .u8 n).wf = true) (w : World) (h1 : IsBytes w a len cap l) (h2 : IsBytes w a' len' cap' t) :
    Calls Try.prog 4 #[.slice a len cap, .slice a' len' cap', .int .u8 n] w fun e w' => e = .returned (.bool true) ∧ Below w.heap.size w w' :=
  both_core _ _ l t n (u8_of hn).1 (u8_of hn).2 w h1.2.1 h1.2.2 h2.2.1 h2.2.2
end Go.Proofs.Ytlbeincgknmijaa
