/-
  ShelfReach: the walk.
-/
import Derived.Test.YtajklinlcmkjmaaLrm
namespace Go.Proofs.Ytajklinlcmkjmaa
open Go.RowKit

theorem sput_gN (p : Nat) (R : Rng) (n : Int) (n0 : 0 ≤ n) (n1 : n ≤ 18446744073709551615) (w : World) (hS : Sf p 0 R w) :
    Calls Try.prog 9 #[.pointer (some ⟨p, 0, none⟩), .int .u64 n, .agg #[.int .i64 0, .int .u64 n, .string ⟨#[]⟩]] w fun e w' =>
      (∃ E, e = .returned (.int .i64 E)) ∧ Sf p 0 (putR 0 R n (gN n)) w' ∧ But w.heap.size p w w' :=
  (sput_any p 0 R n (gN n) n0 n1 (by decide) (by decide) w hS).mono fun _ _ h => ⟨⟨_, h.1⟩, h.2⟩
theorem sput_gE (p : Nat) (R : Rng) (n : Int) (n0 : 0 ≤ n) (n1 : n ≤ 18446744073709551615) (w : World) (hS : Sf p 0 R w) :
    Calls Try.prog 9 #[.pointer (some ⟨p, 0, none⟩), .int .u64 n, .agg #[.int .i64 0, .int .u64 n, .string ⟨#[]⟩]] w fun e w' =>
      e = .returned (.int .i64 (putE 0 (hasR 0 R n) n (gN n))) ∧ Sf p 0 (putR 0 R n (gN n)) w' ∧ But w.heap.size p w w' :=
  sput_any p 0 R n (gN n) n0 n1 (by decide) (by decide) w hS

set_option maxRecDepth 100000 in
set_option maxHeartbeats 8000000 in
theorem reach_core (v : Value) (l : List Int) (miss : Int) (m0 : 0 ≤ miss) (m1 : miss ≤ 255) (w : World) (hR : Rn v l w) (hB : Bytes l) :
    Calls Try.prog 5 #[v, .int .u8 miss] w fun e w' => e = .returned (.bool true) ∧ Below w.heap.size w w' := by
  obtain ⟨a, cap, rfl, h3⟩ := id hR
  by_cases hla : 100 < l.length
  · have z1 : decide ((100 : Int) < (l.length : Int)) = true := decide_eq_true (by omega)
    have z1N : decide (100 < l.length) = true := decide_eq_true hla
    go_enter Try.func5, Try.ntmps5
    go_wp2_with fail
    refine (shown_any _).mono ?_
    rintro e w1 ⟨rfl, hb⟩
    go_wp2_with fail
    go_ret
    exact ⟨rfl, hb⟩
  · have z1 : decide ((100 : Int) < (l.length : Int)) = false := decide_eq_false (by omega)
    have z1N : decide (100 < l.length) = false := decide_eq_false hla
    have hll : (l.length : Int) ≤ 100 := by omega
    obtain ⟨M, e1, e2, hM⟩ : ∃ M : Nat, miss % 64 = M ∧ miss.tmod 64 = M ∧ M ≤ 63 := ⟨(miss % 64).toNat, by omega, by rw [Int.tmod_eq_emod_of_nonneg m0]; omega, by omega⟩
    have hM' : (M : Int) ≤ 63 := by omega
    have hM0 : 0 ≤ (M : Int) := by omega
    have hz := run_zero_shelf
    have hn := shelf_zero_ne
    have hS := fun w => Sf.new w
    have b0 := fun w => below_alloc w (.cells (shC 0 R0).toArray 32)
    generalize (shC 0 R0).toArray = A at *
    go_enter Try.func5, Try.ntmps5
    go_wp2_with fail
    refine (shown_any _).mono ?_
    rintro e w1 ⟨rfl, hb1⟩
    have hS1 := hS w1
    have hB1 := hb1.trans ((b0 w1).mono hb1.size)
    have hp : w.heap.size ≤ w1.heap.size := hb1.size
    go_wp2_with fail
    clear hz hn hS b0
    go_loopg [7] l.length (fun gk t7 wr => ∃ i : Nat, i + gk = l.length ∧ t7 = .int .i64 i ∧ (∃ R, Gp (1 + (M : Int)) R ∧ Sf w1.heap.size 0 R wr) ∧ Below w.heap.size w wr)
    case atStart => exact ⟨0, by omega, rfl, ⟨R0, Gp.zero _, hS1⟩, hB1⟩
    case round =>
      obtain ⟨i, hi, rfl, ⟨R, hI, hSr⟩, hBr⟩ := hrel
      have i0 : (0 : Int) ≤ i := by omega
      by_cases hlt : (i : Int) < l.length
      · have hil : i < l.length := by omega
        rcases h3 with h3 | ⟨g, off, rfl, h3⟩
        · omega
        have c0 := (hR.below hBr).at hil
        have hb0 := hB _ (List.getElem_mem hil)
        clear h3
        generalize l[i] = x at *
        obtain ⟨N, n1, n2, hN⟩ : ∃ N : Nat, x % 64 = N ∧ x.tmod 64 = N ∧ N ≤ 63 := ⟨(x % 64).toNat, by omega, by rw [Int.tmod_eq_emod_of_nonneg hb0.1]; omega, by omega⟩
        have hN' : (N : Int) ≤ 63 := by omega
        have hN0 : 0 ≤ (N : Int) := by omega
        by_cases q : N = M
        · subst q
          go_wp2_with fail
          go_roundg (gk - 1)
          case rel => exact ⟨i + 1, by omega, by go_num, ⟨_, hI, hSr⟩, hBr⟩
          case measure => omega
        · have y1 : ((1 : Int) + N == 1 + M) = false := by simp; omega
          have y2 : ((1 : Int) + N != 1 + M) = true := by simp; omega
          have y3 : ((N : Int) == M) = false := by simp; omega
          have y4 : (N == M) = false := by simp; omega
          have hI2 := hI.put (n := 1 + (N : Int)) (by omega) (by omega) (by omega)
          have hput := sput_gN w1.heap.size R (1 + (N : Int)) (by omega) (by omega) wr hSr
          go_wp2_with fail
          refine hput.mono ?_
          rintro e w2 ⟨⟨E, rfl⟩, hS2, hb2⟩
          have hB2 : Below w.heap.size w w2 := hBr.trans ((hb2.mono (B := w.heap.size) hBr.size).to hp)
          go_wp2_with fail
          go_roundg (gk - 1)
          case rel => exact ⟨i + 1, by omega, by go_num, ⟨_, hI2, hS2⟩, hB2⟩
          case measure => omega
      · go_wp2_with fail
        go_loopg [9] 64 (fun gk t9 wr => ∃ k : Nat, k = gk ∧ k ≤ 64 ∧ t9 = .int .u64 k ∧ (∃ R, Gp (1 + (M : Int)) R ∧ Ab (1 + (M : Int)) R k ∧ Sf w1.heap.size 0 R wr) ∧ Below w.heap.size w wr)
        case atStart => exact ⟨64, rfl, Nat.le_refl _, rfl, ⟨R, hI, fun m h1 h2 _ => by omega, hSr⟩, hBr⟩
        case round =>
          obtain ⟨k, rfl, hk, rfl, ⟨R2, hI2, hA2, hS2⟩, hB2⟩ := hrel
          have k0 : (0 : Int) ≤ k := by omega
          clear hI hSr hBr
          by_cases hlt2 : 1 ≤ (k : Int)
          · by_cases q : (k : Int) = 1 + M
            · have y1 : ((k : Int) == 1 + M) = true := by simp [q]
              have y2 : ((k : Int) != 1 + M) = false := by simp [q]
              have hA3 : Ab (1 + (M : Int)) R2 ((k - 1 : Nat) : Int) := by
                rw [show ((k - 1 : Nat) : Int) = 1 + (M : Int) - 1 by omega]; exact Ab.skip (by rw [← q]; rwa [← q] at hA2)
              clear q
              go_wp2_with fail
              go_roundg (k - 1)
              case rel => exact ⟨k - 1, rfl, by omega, by go_num, ⟨_, hI2, hA3, hS2⟩, hB2⟩
              case measure => omega
            · have y1 : ((k : Int) == 1 + M) = false := by simp [q]
              have y2 : ((k : Int) != 1 + M) = true := by simp [q]
              have hI3 := hI2.put (n := (k : Int)) (by omega) (by omega) q
              have hA3 := hA2.put hI2 (n := (k : Int)) (by omega) (by omega)
              have hput := sput_gN w1.heap.size R2 (k : Int) (by omega) (by omega) wr hS2
              rw [show (k : Int) - 1 = ((k - 1 : Nat) : Int) by omega] at hA3
              clear q
              go_wp2_with fail
              refine hput.mono ?_
              rintro e w3 ⟨⟨E, rfl⟩, hS3, hb3⟩
              have hB3 : Below w.heap.size w w3 := hB2.trans ((hb3.mono (B := w.heap.size) hB2.size).to hp)
              go_wp2_with fail
              go_roundg (k - 1)
              case rel => exact ⟨k - 1, rfl, by omega, by go_num, ⟨_, hI3, hA3, hS3⟩, hB3⟩
              case measure => omega
          · obtain rfl : k = 0 := by omega
            obtain ⟨r1, p1, p2, r2, g1, g2, hh⟩ := gap_end hI2 hA2 (by omega) (by omega)
            have hr1 := sreach_any w1.heap.size 0 R2 (by decide) (by decide) wr hS2
            rw [r1] at hr1
            have hp1 := fun w' => sput_any w1.heap.size 0 R2 65 zM (by decide) (by decide) (by decide) (by decide) w'
            rw [p1] at hp1
            have hR1 : putR 0 R2 65 zM = R2 := by unfold putR; rw [p1]; rfl
            rw [hR1] at hp1
            have hp2 := fun w' => sput_gE w1.heap.size R2 (1 + (M : Int)) (by omega) (by omega) w'
            rw [p2] at hp2
            have hr2 := fun w' => sreach_any w1.heap.size 0 (putR 0 R2 (1 + (M : Int)) (gN (1 + (M : Int)))) (by decide) (by decide) w'
            rw [r2] at hr2
            have hg := fun w' => sget_any w1.heap.size 0 (putR 0 R2 (1 + (M : Int)) (gN (1 + (M : Int)))) (1 + (M : Int)) (by omega) w'
            rw [g1] at hg
            have hhv := fun w' => shave_any w1.heap.size 0 (putR 0 R2 (1 + (M : Int)) (gN (1 + (M : Int)))) (by decide) (by decide) w'
            clear r1 p1 p2 r2 g1 hI2 hA2 hR1
            generalize putR 0 R2 (1 + (M : Int)) (gN (1 + (M : Int))) = R3 at *
            generalize getM 0 R3 (1 + (M : Int)) = gm at *
            have y5 : (gm.m == 1 + (M : Int)) = true := by simp [g2]
            clear g2
            go_wp2_with fail
            refine hr1.mono ?_
            rintro e w3 ⟨rfl, hb3⟩
            have hS3 := hS2.below hb3
            have hB3 := hB2.trans (hb3.mono hB2.size)
            go_wp2_with fail
            refine (hp1 w3 hS3).mono ?_
            rintro e w4 ⟨rfl, hS4, hb4⟩
            have hB4 : Below w.heap.size w w4 := hB3.trans ((hb4.mono (B := w.heap.size) hB3.size).to hp)
            go_wp2_with fail
            refine (hp2 w4 hS4).mono ?_
            rintro e w5 ⟨rfl, hS5, hb5⟩
            have hB5 : Below w.heap.size w w5 := hB4.trans ((hb5.mono (B := w.heap.size) hB4.size).to hp)
            go_wp2_with fail
            refine (hr2 w5 hS5).mono ?_
            rintro e w6 ⟨rfl, hb6⟩
            have hS6 := hS5.below hb6
            have hB6 := hB5.trans (hb6.mono hB5.size)
            go_wp2_with fail
            refine (hg w6 hS6).mono ?_
            rintro e w7 ⟨rfl, hb7⟩
            have hS7 := hS6.below hb7
            have hB7 := hB6.trans (hb7.mono hB6.size)
            have b8 := below_alloc w7 (.cells #[.int .i64 gm.s, .int .u64 gm.m, .string gm.x] 27)
            have hS8 := hS7.below b8
            have hB8 := hB7.trans (b8.mono hB7.size)
            have c8 := (Bm.new gm w7).c1
            go_wp2_with fail
            refine (hhv _ hS8).mono ?_
            rintro e w9 ⟨⟨v, rfl, hv⟩, hb9⟩
            obtain ⟨⟨a9, cap9, rfl, _, _, _⟩, _⟩ := id hv
            rw [hh]
            clear hv
            go_wp2_with fail
            go_ret
            exact ⟨rfl, hB8.trans (hb9.mono hB8.size)⟩
theorem shelfReach_walk (a0 : Option Addr) (len0 cap0 : Nat) (x0 : List Int) (n : Int) (hn : (Lit.int .u8 n).wf = true) (w : World) (w0 : IsBytes w a0 len0 cap0 x0) :
    Calls Try.prog 5 #[.slice a0 len0 cap0, .int .u8 n] w fun e w' => e = .returned (.bool true) ∧ Below w.heap.size w w' :=
  reach_core _ x0 n (u8_of hn).1 (u8_of hn).2 w w0.2.1 w0.2.2
end Go.Proofs.Ytajklinlcmkjmaa
