/-
  SpanAdds, walked.
-/
import Derived.Test.YtipoppnoflhpiaaLmt
import Derived.Test.YtipoppnoflhpiaaDmn
namespace Go.Proofs.Ytipoppnoflhpiaa
open Go.RowKit

set_option maxRecDepth 100000 in
set_option maxHeartbeats 4000000 in
theorem adds_core (v : Value) (l : List Int) (n : Int) (n0 : 0 ≤ n) (n1 : n ≤ 255) (w : World) (hR : Rn v l w) (hB : Bytes l) :
    Calls Try.prog 6 #[v, .int .u8 n] w fun e w' => e = .returned (.bool true) ∧ Below w.heap.size w w' := by
  obtain ⟨a, cap, rfl, h3⟩ := id hR
  by_cases hla : 100 < l.length
  · have z1 : decide ((100 : Int) < (l.length : Int)) = true := decide_eq_true (by omega)
    have z1N : decide (100 < l.length) = true := decide_eq_true hla
    go_enter Try.func6, Try.ntmps6
    go_wp2_with fail
    refine (shown_any _).mono ?_
    rintro e w1 ⟨rfl, hb⟩
    go_wp2_with fail
    go_ret
    exact ⟨rfl, hb⟩
  · have z1 : decide ((100 : Int) < (l.length : Int)) = false := decide_eq_false (by omega)
    have z1N : decide (100 < l.length) = false := decide_eq_false hla
    have hll : l.length ≤ 100 := by omega
    obtain ⟨u1, u2, u3⟩ := madeS_spec l hB
    have hx := u2 n
    have ht : ∀ m, hasS (madeS l) m = true → m ≤ 255 := fun m hm => by
      rw [u2] at hm
      exact (hB m (by simpa using hm)).2
    have n2 : n < 18446744073709551615 := by omega
    have n3 : n ≤ 18446744073709551615 := by omega
    have hY := addS_up u1 n0 n2
    have hYh := addS_has u1 n0 n2
    have hYw := addS_was u1 n2
    have hYm := add_many u1 n0 n1 ht
    have hYl := addS_len u1 n0 n2
    have hYn : hasS (addS (madeS l) n).1 n = true := by rw [hYh]; simp
    have hmin := minus_none u1 hY fun m hm => by rw [hYh, hm]; rfl
    have hz := add_same hY hYn
    have hmx : manyM (madeS l) = manyS (madeS l) := by unfold manyM; rw [mayS_of u1]; rfl
    have hmy : manyM (addS (madeS l) n).1 = manyS (addS (madeS l) n).1 := by unfold manyM; rw [mayS_of hY]; rfl
    have hyy : mayS (addS (madeS l) n).1 = true := mayS_of hY
    have hyn : hasM (addS (madeS l) n).1 n = true := by unfold hasM; rw [hyy, hYn]; rfl
    have hm0 := u1.many0
    have hm1 := hY.many1
    have hAd := fun v w' h => add_any v (madeS l) n w' h (by omega) n0 n3
    have hIn := fun w' h => in_any (.slice a l.length cap) l n w' h hB (by omega)
    have hMade := fun w' h => made_any (.slice a l.length cap) l w' h hB (by omega)
    have hAd2 := fun v w' h => add_any v (addS (madeS l) n).1 n w' h (by omega) n0 n3
    rw [hx] at hYw hYm
    rw [hz] at hAd2
    rw [hYw] at hAd
    dsimp only at hAd2
    have hyl : (addS (madeS l) n).1.length ≤ 101 := by omega
    clear hx u2 ht hYh u1 h3 hla hz hYw hYn
    generalize madeS l = X at *
    generalize (addS X n).1 = Y at *
    generalize decide (n ∈ l) = z at *
    cases z
    case false =>
      have hYm : manyS Y = manyS X + 1 := by simpa using hYm
      rw [hYm] at hmy hm1
      have q1 : 0 ≤ manyS X + 1 := by omega
      have q2 : manyS X + 1 ≤ 18446744073709551615 := by omega
      clear hYm hm1
      go_enter Try.func6, Try.ntmps6
      go_wp2_with fail
      refine (shown_any _).mono ?_
      rintro e w1 ⟨rfl, hb1⟩
      go_wp2_with fail
      refine (hMade _ (hR.below hb1)).mono ?_
      rintro e w2 ⟨⟨x, rfl, k2⟩, hb2⟩
      have hW2 := hb1.trans (hb2.mono hb1.size)
      go_wp2_with fail
      refine (hAd _ _ k2).mono ?_
      rintro e w3 ⟨⟨y, rfl, j3⟩, hb3⟩
      have k3 := k2.below hb3
      have hW3 := hW2.trans (hb3.mono hW2.size)
      go_wp2_with fail
      refine (hAd2 _ _ j3).mono ?_
      rintro e w4 ⟨⟨y2, rfl, i4⟩, hb4⟩
      have k4 := k3.below hb4
      have j4 := j3.below hb4
      have hW4 := hW3.trans (hb4.mono hW3.size)
      go_wp2_with fail
      refine (hIn _ (hR.below hW4)).mono ?_
      rintro e w5 ⟨rfl, rfl⟩
      go_wp2_with fail
      refine (same_any _ _ Y _ (by omega) j4 i4).mono ?_
      rintro e w6 ⟨rfl, hb6⟩
      have k6 := k4.below hb6
      have j6 := j4.below hb6
      have hW6 := hW4.trans (hb6.mono hW4.size)
      go_wp2_with fail
      refine (may_any _ Y _ j6 (by omega)).mono ?_
      rw [hyy]
      rintro e w7 ⟨rfl, hb7⟩
      have k7 := k6.below hb7
      have j7 := j6.below hb7
      have hW7 := hW6.trans (hb7.mono hW6.size)
      go_wp2_with fail
      refine (many_any _ Y _ j7 (by omega)).mono ?_
      rw [hmy]
      rintro e w8 ⟨rfl, hb8⟩
      have k8 := k7.below hb8
      have j8 := j7.below hb8
      have hW8 := hW7.trans (hb8.mono hW7.size)
      go_wp2_with fail
      refine (many_any _ X _ k8 (by omega)).mono ?_
      rw [hmx]
      rintro e w9 ⟨rfl, hb9⟩
      have k9 := k8.below hb9
      have j9 := j8.below hb9
      have hW9 := hW8.trans (hb9.mono hW8.size)
      go_wp2_with fail
      refine (has_any _ Y n _ j9 (by omega)).mono ?_
      rw [hyn]
      rintro e w10 ⟨rfl, hb10⟩
      have k10 := k9.below hb10
      have j10 := j9.below hb10
      have hW10 := hW9.trans (hb10.mono hW9.size)
      go_wp2_with fail
      refine (minus_any _ _ X Y _ k10 j10 (by omega) (by omega)).mono ?_
      rw [hmin]
      rintro e w11 ⟨⟨m, rfl, hO⟩, hb11⟩
      obtain ⟨a11, c11, rfl⟩ := hO.len
      have hW11 := hW10.trans (hb11.mono hW10.size)
      go_wp2_with fail
      go_ret
      exact ⟨rfl, hW11⟩
    case true =>
      have hYm : manyS Y = manyS X := by simpa using hYm
      rw [hYm] at hmy hm1
      have q2 : manyS X ≤ 18446744073709551615 := by omega
      clear hYm hm1
      go_enter Try.func6, Try.ntmps6
      go_wp2_with fail
      refine (shown_any _).mono ?_
      rintro e w1 ⟨rfl, hb1⟩
      go_wp2_with fail
      refine (hMade _ (hR.below hb1)).mono ?_
      rintro e w2 ⟨⟨x, rfl, k2⟩, hb2⟩
      have hW2 := hb1.trans (hb2.mono hb1.size)
      go_wp2_with fail
      refine (hAd _ _ k2).mono ?_
      rintro e w3 ⟨⟨y, rfl, j3⟩, hb3⟩
      have k3 := k2.below hb3
      have hW3 := hW2.trans (hb3.mono hW2.size)
      go_wp2_with fail
      refine (hAd2 _ _ j3).mono ?_
      rintro e w4 ⟨⟨y2, rfl, i4⟩, hb4⟩
      have k4 := k3.below hb4
      have j4 := j3.below hb4
      have hW4 := hW3.trans (hb4.mono hW3.size)
      go_wp2_with fail
      refine (hIn _ (hR.below hW4)).mono ?_
      rintro e w5 ⟨rfl, rfl⟩
      go_wp2_with fail
      refine (same_any _ _ Y _ (by omega) j4 i4).mono ?_
      rintro e w6 ⟨rfl, hb6⟩
      have k6 := k4.below hb6
      have j6 := j4.below hb6
      have hW6 := hW4.trans (hb6.mono hW4.size)
      go_wp2_with fail
      refine (may_any _ Y _ j6 (by omega)).mono ?_
      rw [hyy]
      rintro e w7 ⟨rfl, hb7⟩
      have k7 := k6.below hb7
      have j7 := j6.below hb7
      have hW7 := hW6.trans (hb7.mono hW6.size)
      go_wp2_with fail
      refine (many_any _ Y _ j7 (by omega)).mono ?_
      rw [hmy]
      rintro e w8 ⟨rfl, hb8⟩
      have k8 := k7.below hb8
      have j8 := j7.below hb8
      have hW8 := hW7.trans (hb8.mono hW7.size)
      go_wp2_with fail
      refine (many_any _ X _ k8 (by omega)).mono ?_
      rw [hmx]
      rintro e w9 ⟨rfl, hb9⟩
      have k9 := k8.below hb9
      have j9 := j8.below hb9
      have hW9 := hW8.trans (hb9.mono hW8.size)
      go_wp2_with fail
      refine (has_any _ Y n _ j9 (by omega)).mono ?_
      rw [hyn]
      rintro e w10 ⟨rfl, hb10⟩
      have k10 := k9.below hb10
      have j10 := j9.below hb10
      have hW10 := hW9.trans (hb10.mono hW9.size)
      go_wp2_with fail
      refine (minus_any _ _ X Y _ k10 j10 (by omega) (by omega)).mono ?_
      rw [hmin]
      rintro e w11 ⟨⟨m, rfl, hO⟩, hb11⟩
      obtain ⟨a11, c11, rfl⟩ := hO.len
      have hW11 := hW10.trans (hb11.mono hW10.size)
      go_wp2_with fail
      go_ret
      exact ⟨rfl, hW11⟩

theorem spanAdds_walk (a0 : Option Addr) (len0 cap0 : Nat) (x0 : List Int) (n : Int) (hn : (Lit.int .u8 n).wf = true) (w : World) (w0 : IsBytes w a0 len0 cap0 x0) :
    Calls Try.prog 6 #[.slice a0 len0 cap0, .int .u8 n] w fun e w' => e = .returned (.bool true) ∧ Below w.heap.size w w' :=
  adds_core _ x0 n (u8_of hn).1 (u8_of hn).2 w w0.2.1 w0.2.2
end Go.Proofs.Ytipoppnoflhpiaa
