/-
  ShelfTrims: the walk.
-/
import Derived.Test.YtajklinlcmkjmaaLtr
namespace Go.Proofs.Ytajklinlcmkjmaa
open Go.RowKit

/-- Trim, as one contract. -/
theorem strim_any (p : Nat) (R : Rng) (n k : Int) (h : St 0 R n) (k0 : 0 ≤ k) (w : World) (hS : Sf p 0 R w) :
    Calls Try.prog 13 #[.pointer (some ⟨p, 0, none⟩), .int .u64 k] w fun e w' => e = .returned (.int .i64 (if k ≤ n then 0 else 1)) ∧ (∃ R', St (if k ≤ n then k else 0) R' n ∧ Sf p (if k ≤ n then k else 0) R' w') ∧ But w.heap.size p w w' := by
  by_cases a : k ≤ n
  · rw [if_pos a, if_pos a]
    refine (strim_yes p 0 R k (by omega) (by omega) h.ri (by rw [h.reach]; exact a) w hS).mono ?_
    rintro e w' ⟨rfl, h1, h2⟩
    rw [show max 0 k = k by omega] at h1
    exact ⟨rfl, ⟨_, h.trim k0 a, h1⟩, h2⟩
  · rw [if_neg a, if_neg a]
    refine (strim_no p 0 R k (by omega) (by omega) (by rw [h.reach]; omega) w hS).mono ?_
    rintro e w' ⟨rfl, h1⟩
    exact ⟨rfl, ⟨_, h, hS.below h1⟩, But.of h1⟩

set_option maxRecDepth 100000 in
set_option maxHeartbeats 8000000 in
theorem trims_core (many to : Int) (m0 : 0 ≤ many) (m1 : many ≤ 255) (t0 : 0 ≤ to) (t1 : to ≤ 255) (w : World) :
    Calls Try.prog 6 #[.int .u8 many, .int .u8 to] w fun e w' => e = .returned (.bool true) ∧ Below w.heap.size w w' := by
  obtain ⟨N, e1, e2, hN⟩ : ∃ N : Nat, many % 65 = N ∧ many.tmod 65 = N ∧ N ≤ 64 := ⟨(many % 65).toNat, by omega, by rw [Int.tmod_eq_emod_of_nonneg m0]; omega, by omega⟩
  obtain ⟨K, f1, f2, hK⟩ : ∃ K : Nat, to % 70 = K ∧ to.tmod 70 = K ∧ K ≤ 69 := ⟨(to % 70).toNat, by omega, by rw [Int.tmod_eq_emod_of_nonneg t0]; omega, by omega⟩
  have hN' : (N : Int) ≤ 64 := by omega
  have hK' : (K : Int) ≤ 69 := by omega
  have hN0 : 0 ≤ (N : Int) := by omega
  have hK0 : 0 ≤ (K : Int) := by omega
  have hz := run_zero_shelf
  have hn := shelf_zero_ne
  have hS := Sf.new w
  have b0 := below_alloc w (.cells (shC 0 R0).toArray 32)
  generalize (shC 0 R0).toArray = A at *
  have hp : w.heap.size ≤ w.heap.size := Nat.le_refl _
  obtain ⟨p, hp'⟩ : ∃ p, Hid (w.heap.size = p) := ⟨_, rfl⟩
  go_enter Try.func6, Try.ntmps6
  go_wp2_with fail
  go_loopg [7] N (fun gk t7 wr => ∃ i : Nat, i + gk = N ∧ t7 = .int .i64 (i + 1) ∧ (∃ R, St 0 R i ∧ Sf w.heap.size 0 R wr) ∧ Below w.heap.size w wr)
  case atStart => exact ⟨0, by omega, rfl, ⟨R0, St.zero, hS⟩, b0⟩
  case round =>
    obtain ⟨i, hi, rfl, ⟨R, hI, hSr⟩, hB⟩ := hrel
    have i0 : (0 : Int) ≤ i := by omega
    by_cases hlt : (i : Int) + 1 ≤ N
    · obtain ⟨hpe, hI2⟩ := hI.put (by omega)
      have hput := sput_any w.heap.size 0 R ((i : Int) + 1) ⟨0, (i : Int) + 1, ⟨#[]⟩⟩ (by omega) (by omega) (by decide) (by decide) wr hSr
      rw [hpe] at hput
      clear hpe
      go_wp2_with fail
      refine hput.mono ?_
      rintro e w2 ⟨rfl, hS2, hb2⟩
      have hB2 : Below w.heap.size w w2 := hB.trans ((hb2.mono (B := w.heap.size) hB.size).to (Nat.le_refl _))
      go_wp2_with fail
      go_roundg (gk - 1)
      case rel => exact ⟨i + 1, by omega, by go_num, ⟨_, hI2, hS2⟩, hB2⟩
      case measure => omega
    · obtain rfl : i = N := by omega
      have htr := strim_any w.heap.size R i K hI (by omega) wr hSr
      cases zc : decide ((K : Int) ≤ i)
      case false =>
        have hc := of_decide_eq_false zc
        have zn : decide (K ≤ i) = false := decide_eq_false (by omega)
        rw [if_neg hc, if_neg hc] at htr
        go_wp2_with fail
        refine htr.mono ?_
        rintro e w2 ⟨rfl, ⟨R2, hI2, hS2⟩, hb2⟩
        have hB2 : Below w.heap.size w w2 := hB.trans ((hb2.mono (B := w.heap.size) hB.size).to (Nat.le_refl _))
        clear htr hI hSr
        go_wp2_with fail
        refine (shown_any w2).mono ?_
        rintro e w3 ⟨rfl, hb3⟩
        have hB3 := hB2.trans (hb3.mono hB2.size)
        have hS3 := hS2.below hb3
        go_wp2_with fail
        try simp only [zc, zn]
        go_loopg [11] i (fun gk t11 wr => ∃ j : Nat, j + gk = i ∧ t11 = .int .i64 (j + 1) ∧ Sf w.heap.size 0 R2 wr ∧ Below w.heap.size w wr)
        case atStart => exact ⟨0, by omega, rfl, hS3, hB3⟩
        case round =>
          obtain ⟨j, hj, rfl, hSj, hBj⟩ := hrel
          have j0 : (0 : Int) ≤ j := by omega
          by_cases hlt2 : (j : Int) + 1 ≤ i
          · obtain ⟨g1, g2⟩ := hI2.get (i := (j : Int) + 1) (by omega) hlt2
            have hget := sget_any w.heap.size 0 R2 ((j : Int) + 1) (by omega) wr hSj
            rw [g1] at hget
            generalize getM 0 R2 ((j : Int) + 1) = gm at *
            clear g1
            by_cases q : (j : Int) + 1 ≤ 0
            · exact absurd q (by omega)
            · have y1 : decide ((j : Int) + 1 ≤ 0) = false := decide_eq_false q
              have y2 : decide (0 < (j : Int) + 1) = true := decide_eq_true (by omega)
              rw [if_neg q] at hget
              have g3 := g2 (by omega)
              have y3 : (gm.m == (j : Int) + 1) = true := by simp [g3]
              have y4 : (gm.m != (j : Int) + 1) = false := by simp [g3]
              clear g2 g3
              go_wp2_with fail
              refine hget.mono ?_
              rintro e w4 ⟨rfl, hb4⟩
              have hB4 := hBj.trans (hb4.mono hBj.size)
              have hS4 := hSj.below hb4
              have b5 := below_alloc w4 (.cells #[.int .i64 gm.s, .int .u64 gm.m, .string gm.x] 27)
              have hS5 := hS4.below b5
              have hB5 := hB4.trans (b5.mono hB4.size)
              have c5 := (Bm.new gm w4).c1
              go_wp2_with fail
              go_roundg (gk - 1)
              case rel => exact ⟨j + 1, by omega, by go_num, hS5, hB5⟩
              case measure => omega
          · have hf1 : putE 0 (hasR 0 R2 65) 65 zM = 2 := by have := hI2.full (by omega); simpa using this
            have hf2 : putE 0 (hasR 0 R2 64) 64 zM = (if (i : Int) < 64 then 0 else 4) ∧ (i : Int) ≤ reachR 0 (putR 0 R2 64 zM) := by have := hI2.last (by omega); simpa using this
            have hput1 := sput_any w.heap.size 0 R2 65 zM (by omega) (by omega) (by omega) (by omega) wr hSj
            have hput2 := fun w' => sput_any w.heap.size 0 R2 64 zM (by omega) (by omega) (by omega) (by omega) w'
            have hrr := fun w' => sreach_any w.heap.size 0 (putR 0 R2 64 zM) (by omega) (by omega) w'
            have hll := fun w' => slow_any w.heap.size 0 (putR 0 R2 64 zM) w'
            rw [hf1] at hput1
            have hR1 : putR 0 R2 65 zM = R2 := by unfold putR; rw [hf1]; rfl
            rw [hR1] at hput1
            rw [hf2.1] at hput2
            have hge := hf2.2
            have y0 : decide ((i : Int) ≤ reachR 0 (putR 0 R2 64 zM)) = true := decide_eq_true hge
            clear hf1 hf2 hR1 hI2 hge
            generalize putR 0 R2 64 zM = R3 at *
            generalize reachR 0 R3 = r3 at *
            by_cases q : (i : Int) < 64
            · have y1 : decide ((i : Int) < 64) = true := decide_eq_true q
              rw [if_pos q] at hput2
              go_wp2_with fail
              refine hput1.mono ?_
              rintro e w4 ⟨rfl, hS4, hb4⟩
              have hB4 : Below w.heap.size w w4 := hBj.trans ((hb4.mono (B := w.heap.size) hBj.size).to (Nat.le_refl _))
              go_wp2_with fail
              refine (hput2 w4 hS4).mono ?_
              rintro e w5 ⟨rfl, hS5, hb5⟩
              have hB5 : Below w.heap.size w w5 := hB4.trans ((hb5.mono (B := w.heap.size) hB4.size).to (Nat.le_refl _))
              go_wp2_with fail
              refine (hrr w5 hS5).mono ?_
              rintro e w6 ⟨rfl, hb6⟩
              have hS6 := hS5.below hb6
              have hB6 := hB5.trans (hb6.mono hB5.size)
              go_wp2_with fail
              refine (hll w6 hS6).mono ?_
              rintro e w7 ⟨rfl, rfl⟩
              go_wp2_with fail
              go_ret
              exact ⟨rfl, hB6⟩
            · have y1 : decide ((i : Int) < 64) = false := decide_eq_false q
              rw [if_neg q] at hput2
              go_wp2_with fail
              refine hput1.mono ?_
              rintro e w4 ⟨rfl, hS4, hb4⟩
              have hB4 : Below w.heap.size w w4 := hBj.trans ((hb4.mono (B := w.heap.size) hBj.size).to (Nat.le_refl _))
              go_wp2_with fail
              refine (hput2 w4 hS4).mono ?_
              rintro e w5 ⟨rfl, hS5, hb5⟩
              have hB5 : Below w.heap.size w w5 := hB4.trans ((hb5.mono (B := w.heap.size) hB4.size).to (Nat.le_refl _))
              go_wp2_with fail
              refine (hrr w5 hS5).mono ?_
              rintro e w6 ⟨rfl, hb6⟩
              have hS6 := hS5.below hb6
              have hB6 := hB5.trans (hb6.mono hB5.size)
              go_wp2_with fail
              refine (hll w6 hS6).mono ?_
              rintro e w7 ⟨rfl, rfl⟩
              go_wp2_with fail
              go_ret
              exact ⟨rfl, hB6⟩
      case true =>
        have hc := of_decide_eq_true zc
        have zn : decide (K ≤ i) = true := decide_eq_true (by omega)
        rw [if_pos hc, if_pos hc] at htr
        go_wp2_with fail
        refine htr.mono ?_
        rintro e w2 ⟨rfl, ⟨R2, hI2, hS2⟩, hb2⟩
        have hB2 : Below w.heap.size w w2 := hB.trans ((hb2.mono (B := w.heap.size) hB.size).to (Nat.le_refl _))
        clear htr hI hSr
        go_wp2_with fail
        refine (shown_any w2).mono ?_
        rintro e w3 ⟨rfl, hb3⟩
        have hB3 := hB2.trans (hb3.mono hB2.size)
        have hS3 := hS2.below hb3
        go_wp2_with fail
        try simp only [zc, zn]
        go_loopg [11] i (fun gk t11 wr => ∃ j : Nat, j + gk = i ∧ t11 = .int .i64 (j + 1) ∧ Sf w.heap.size (K : Int) R2 wr ∧ Below w.heap.size w wr)
        case atStart => exact ⟨0, by omega, rfl, hS3, hB3⟩
        case round =>
          obtain ⟨j, hj, rfl, hSj, hBj⟩ := hrel
          have j0 : (0 : Int) ≤ j := by omega
          by_cases hlt2 : (j : Int) + 1 ≤ i
          · obtain ⟨g1, g2⟩ := hI2.get (i := (j : Int) + 1) (by omega) hlt2
            have hget := sget_any w.heap.size (K : Int) R2 ((j : Int) + 1) (by omega) wr hSj
            rw [g1] at hget
            generalize getM (K : Int) R2 ((j : Int) + 1) = gm at *
            clear g1
            by_cases q : (j : Int) + 1 ≤ (K : Int)
            · have y1 : decide ((j : Int) + 1 ≤ (K : Int)) = true := decide_eq_true q
              have y2 : decide ((K : Int) < (j : Int) + 1) = false := decide_eq_false (by omega)
              rw [if_pos q] at hget
              clear g2
              go_wp2_with fail
              refine hget.mono ?_
              rintro e w4 ⟨rfl, hb4⟩
              have hB4 := hBj.trans (hb4.mono hBj.size)
              have hS4 := hSj.below hb4
              have b5 := below_alloc w4 (.cells #[.int .i64 gm.s, .int .u64 gm.m, .string gm.x] 27)
              have hS5 := hS4.below b5
              have hB5 := hB4.trans (b5.mono hB4.size)
              go_wp2_with fail
              go_roundg (gk - 1)
              case rel => exact ⟨j + 1, by omega, by go_num, hS5, hB5⟩
              case measure => omega
            · have y1 : decide ((j : Int) + 1 ≤ (K : Int)) = false := decide_eq_false q
              have y2 : decide ((K : Int) < (j : Int) + 1) = true := decide_eq_true (by omega)
              rw [if_neg q] at hget
              have g3 := g2 (by omega)
              have y3 : (gm.m == (j : Int) + 1) = true := by simp [g3]
              have y4 : (gm.m != (j : Int) + 1) = false := by simp [g3]
              clear g2 g3
              go_wp2_with fail
              refine hget.mono ?_
              rintro e w4 ⟨rfl, hb4⟩
              have hB4 := hBj.trans (hb4.mono hBj.size)
              have hS4 := hSj.below hb4
              have b5 := below_alloc w4 (.cells #[.int .i64 gm.s, .int .u64 gm.m, .string gm.x] 27)
              have hS5 := hS4.below b5
              have hB5 := hB4.trans (b5.mono hB4.size)
              have c5 := (Bm.new gm w4).c1
              go_wp2_with fail
              go_roundg (gk - 1)
              case rel => exact ⟨j + 1, by omega, by go_num, hS5, hB5⟩
              case measure => omega
          · have hf1 : putE (K : Int) (hasR (K : Int) R2 ((K : Int) + 64 + 1)) ((K : Int) + 64 + 1) zM = 2 := by have := hI2.full (by omega); simpa using this
            have hf2 : putE (K : Int) (hasR (K : Int) R2 ((K : Int) + 64)) ((K : Int) + 64) zM = (if (i : Int) < ((K : Int) + 64) then 0 else 4) ∧ (i : Int) ≤ reachR (K : Int) (putR (K : Int) R2 ((K : Int) + 64) zM) := by have := hI2.last (by omega); simpa using this
            have hput1 := sput_any w.heap.size (K : Int) R2 ((K : Int) + 64 + 1) zM (by omega) (by omega) (by omega) (by omega) wr hSj
            have hput2 := fun w' => sput_any w.heap.size (K : Int) R2 ((K : Int) + 64) zM (by omega) (by omega) (by omega) (by omega) w'
            have hrr := fun w' => sreach_any w.heap.size (K : Int) (putR (K : Int) R2 ((K : Int) + 64) zM) (by omega) (by omega) w'
            have hll := fun w' => slow_any w.heap.size (K : Int) (putR (K : Int) R2 ((K : Int) + 64) zM) w'
            rw [hf1] at hput1
            have hR1 : putR (K : Int) R2 ((K : Int) + 64 + 1) zM = R2 := by unfold putR; rw [hf1]; rfl
            rw [hR1] at hput1
            rw [hf2.1] at hput2
            have hge := hf2.2
            have y0 : decide ((i : Int) ≤ reachR (K : Int) (putR (K : Int) R2 ((K : Int) + 64) zM)) = true := decide_eq_true hge
            clear hf1 hf2 hR1 hI2 hge
            generalize putR (K : Int) R2 ((K : Int) + 64) zM = R3 at *
            generalize reachR (K : Int) R3 = r3 at *
            by_cases q : (i : Int) < ((K : Int) + 64)
            · have y1 : decide ((i : Int) < ((K : Int) + 64)) = true := decide_eq_true q
              rw [if_pos q] at hput2
              go_wp2_with fail
              refine hput1.mono ?_
              rintro e w4 ⟨rfl, hS4, hb4⟩
              have hB4 : Below w.heap.size w w4 := hBj.trans ((hb4.mono (B := w.heap.size) hBj.size).to (Nat.le_refl _))
              go_wp2_with fail
              refine (hput2 w4 hS4).mono ?_
              rintro e w5 ⟨rfl, hS5, hb5⟩
              have hB5 : Below w.heap.size w w5 := hB4.trans ((hb5.mono (B := w.heap.size) hB4.size).to (Nat.le_refl _))
              go_wp2_with fail
              refine (hrr w5 hS5).mono ?_
              rintro e w6 ⟨rfl, hb6⟩
              have hS6 := hS5.below hb6
              have hB6 := hB5.trans (hb6.mono hB5.size)
              go_wp2_with fail
              refine (hll w6 hS6).mono ?_
              rintro e w7 ⟨rfl, rfl⟩
              go_wp2_with fail
              go_ret
              exact ⟨rfl, hB6⟩
            · have y1 : decide ((i : Int) < ((K : Int) + 64)) = false := decide_eq_false q
              rw [if_neg q] at hput2
              go_wp2_with fail
              refine hput1.mono ?_
              rintro e w4 ⟨rfl, hS4, hb4⟩
              have hB4 : Below w.heap.size w w4 := hBj.trans ((hb4.mono (B := w.heap.size) hBj.size).to (Nat.le_refl _))
              go_wp2_with fail
              refine (hput2 w4 hS4).mono ?_
              rintro e w5 ⟨rfl, hS5, hb5⟩
              have hB5 : Below w.heap.size w w5 := hB4.trans ((hb5.mono (B := w.heap.size) hB4.size).to (Nat.le_refl _))
              go_wp2_with fail
              refine (hrr w5 hS5).mono ?_
              rintro e w6 ⟨rfl, hb6⟩
              have hS6 := hS5.below hb6
              have hB6 := hB5.trans (hb6.mono hB5.size)
              go_wp2_with fail
              refine (hll w6 hS6).mono ?_
              rintro e w7 ⟨rfl, rfl⟩
              go_wp2_with fail
              go_ret
              exact ⟨rfl, hB6⟩

theorem shelfTrims_walk (many to : Int) (hm : (Lit.int .u8 many).wf = true) (ht : (Lit.int .u8 to).wf = true) (w : World) :
    Calls Try.prog 6 #[.int .u8 many, .int .u8 to] w fun e w' => e = .returned (.bool true) ∧ Below w.heap.size w w' :=
  trims_core many to (u8_of hm).1 (u8_of hm).2 (u8_of ht).1 (u8_of ht).2 w
end Go.Proofs.Ytajklinlcmkjmaa
