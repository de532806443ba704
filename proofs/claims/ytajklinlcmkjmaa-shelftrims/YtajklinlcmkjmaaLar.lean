/-
  ShelfArgs: numbers that none has, and texts that are too long.
-/
import Derived.Test.YtajklinlcmkjmaaSho
import Derived.Test.YtajklinlcmkjmaaOpn
namespace Go.Proofs.Ytajklinlcmkjmaa
open Go.RowKit

theorem RI0 : RI 0 R0 := RI.zero

theorem has_R0 (n : Int) : hasR 0 R0 n = false := by
  unfold hasR
  show (decide (0 < n) && decide ((0 : Int) = n)) = false
  by_cases h : (0 : Int) < n
  · rw [decide_eq_false (show ¬ (0 : Int) = n by omega), Bool.and_false]
  · rw [decide_eq_false h, Bool.false_and]
theorem have_R0 : haveR 0 R0 = [] := by decide +kernel
theorem have_one {n : Int} (g : Ms) (n0 : 0 < n) (n1 : n ≤ 64) : haveR 0 (R0.set (n % 64).toNat ⟨n, g⟩) = [⟨n, n⟩] := by
  have hR : RI 0 (R0.set (n % 64).toNat ⟨n, g⟩) := RI0.put g n0 (by omega)
  refine uniq _ _ 0 (haveR_up (by omega) (by omega)) (one_up (by omega) (by omega)) fun m => ?_
  rw [haveR_has hR (by omega) (by omega), put_has RI0 g n0 (by omega) (by omega) (has_R0 n), has_R0, one_has]
  have z : decide (1 ≤ m ∧ m ≤ 0) = false := decide_eq_false (by omega)
  rw [z]
  by_cases e : n = m
  · subst e; simp
  · rw [decide_eq_false e, decide_eq_false (fun h => e h.symm)]; rfl

def wantE (b1 b2 b3 b4 : Bool) : Int := if b1 || b2 || b3 then 1 else if b4 then 2 else 0
theorem want_put {n : Int} (n0 : 0 ≤ n) (x : ByteArray) : putE 0 (hasR 0 R0 n) n ⟨0, 0, x⟩ = wantE (n == 0) (n == 18446744073709551615) (decide (64 < (x.size : Int))) (decide (64 < n)) := by
  rw [has_R0]
  unfold putE wantE
  dsimp only
  by_cases h1 : n = 0
  · simp [h1]
  · by_cases h2 : n = 18446744073709551615
    · simp [h2]
    · by_cases h3 : 64 < (x.size : Int)
      · rw [if_pos (Or.inr (Or.inr h3)), decide_eq_true h3]; simp
      · rw [if_neg (by omega), if_neg (by omega), if_neg (by simp), decide_eq_false h3]
        by_cases h4 : 64 < n
        · rw [if_pos (by omega)]; simp [h1, h2, h4]
        · rw [if_neg (by omega)]; simp [h1, h2, h4]

set_option maxRecDepth 100000 in
set_option maxHeartbeats 4000000 in
theorem args_core (n : Int) (n0 : 0 ≤ n) (n1 : n ≤ 18446744073709551615) (x : ByteArray) (w : World) :
    Calls Try.prog 7 #[.int .u64 n, .string x] w fun e w' => e = .returned (.bool true) ∧ Below w.heap.size w w' := by
  by_cases hl : 200 < (x.size : Int)
  · have z0 : decide (200 < (x.size : Int)) = true := decide_eq_true hl
    go_enter Try.func7, Try.ntmps7
    go_wp2_with fail
    refine (shown_any _).mono ?_
    rintro e w1 ⟨rfl, hb1⟩
    go_wp2_with fail
    go_ret
    exact ⟨rfl, hb1⟩
  · have z0 : decide (200 < (x.size : Int)) = false := decide_eq_false hl
    have hz := run_zero_shelf
    have hn := shelf_zero_ne
    have hS := fun w => Sf.new w
    have b0 := fun w => below_alloc w (.cells (shC 0 R0).toArray 32)
    generalize (shC 0 R0).toArray = A at *
    have hp := fun w => sput_any w.heap.size 0 R0 n ⟨0, 0, x⟩ n0 n1 (by decide) (by decide) _ (hS w)
    have hwe := want_put n0 x
    have hput : putE 0 (hasR 0 R0 n) n ⟨0, 0, x⟩ = 0 → 0 < n ∧ n ≤ 64 := by
      rw [has_R0]; unfold putE
      intro h
      split at h
      · cases h
      · split at h
        · cases h
        · simp only [Bool.false_eq_true, if_false] at h
          split at h
          · cases h
          · omega
    have hG : getE 0 (hasR 0 (putR 0 R0 n ⟨0, 0, x⟩) n) n = if putE 0 (hasR 0 R0 n) n ⟨0, 0, x⟩ = 0 then 0 else 3 := by
      unfold getE putR
      rw [if_neg (by omega)]
      by_cases e : putE 0 (hasR 0 R0 n) n ⟨0, 0, x⟩ = 0
      · obtain ⟨a, b⟩ := hput e
        rw [if_pos e, if_pos e, put_has RI0 _ a (by omega) (by omega) (has_R0 n)]
        simp
      · rw [if_neg e, if_neg e, has_R0]; rfl
    have hH : (haveR 0 (putR 0 R0 n ⟨0, 0, x⟩)).length = if putE 0 (hasR 0 R0 n) n ⟨0, 0, x⟩ = 0 then 1 else 0 := by
      unfold putR
      by_cases e : putE 0 (hasR 0 R0 n) n ⟨0, 0, x⟩ = 0
      · obtain ⟨a, b⟩ := hput e
        rw [if_pos e, if_pos e, have_one _ a b]; rfl
      · rw [if_neg e, if_neg e, have_R0]; rfl
    have hg := fun p w => sget_any p 0 (putR 0 R0 n ⟨0, 0, x⟩) n n0 w
    have hh := fun p w => shave_any p 0 (putR 0 R0 n ⟨0, 0, x⟩) (by decide) (by decide) w
    rw [hG, hwe] at hg
    rw [hwe] at hH hp
    generalize putR 0 R0 n ⟨0, 0, x⟩ = R at *
    clear hwe hput hG
    generalize getM 0 R n = gm at *
    cases z1 : (n == 0) <;> cases z2 : (n == 18446744073709551615) <;> cases z3 : decide (64 < (x.size : Int)) <;> cases z4 : decide (64 < n)
    all_goals
      simp only [z1, z2, z3, z4, wantE, Bool.or_false, Bool.or_true, Bool.false_eq_true, if_true, if_false, Bool.or_self] at hp hg hH
      go_enter Try.func7, Try.ntmps7
      go_wp2_with fail
      refine (shown_any _).mono ?_
      rintro e w1 ⟨rfl, hb1⟩
      have hB := hb1.trans ((b0 w1).mono hb1.size)
      go_wp2_with fail
      refine (hp w1).mono ?_
      rintro e w2 ⟨rfl, hS2, hb2⟩
      have hB2 : Below w.heap.size w w2 := hB.trans ((hb2.mono (B := w.heap.size) hB.size).to hb1.size)
      go_wp2_with fail
      refine (hg _ w2 hS2).mono ?_
      rintro e w3 ⟨rfl, hb3⟩
      have hB3 := hB2.trans (hb3.mono hB2.size)
      have hS3 := hS2.below hb3
      have b4 := below_alloc w3 (.cells #[.int .i64 gm.s, .int .u64 gm.m, .string gm.x] 27)
      have hS4 := hS3.below b4
      have hB4 := hB3.trans (b4.mono hB3.size)
      go_wp2_with fail
      refine (hh _ _ hS4).mono ?_
      rintro e w5 ⟨⟨v, rfl, hv⟩, hb5⟩
      obtain ⟨⟨a, cap, rfl, _, _, _⟩, _⟩ := id hv
      rw [hH]
      clear hv hh hS4 hS3 hS2 hg hp hS
      go_wp2_with fail
      go_ret
      exact ⟨rfl, hB4.trans (hb5.mono hB4.size)⟩
theorem shelfArgs_walk (n : Int) (x : ByteArray) (hn : (Lit.int .u64 n).wf = true) (_ : x.size ≤ maxLen) (w : World) :
    Calls Try.prog 7 #[.int .u64 n, .string x] w fun e w' => e = .returned (.bool true) ∧ Below w.heap.size w w' :=
  args_core n (u64_of hn).1 (u64_of hn).2 x w
end Go.Proofs.Ytajklinlcmkjmaa
