/-
  The leaves of the reference's band: node, Has, With, Less.
-/
import Derived.Test.YtnhpkpodeojldaaBmt
import Derived.Laws.Bits64b
import Derived.Laws.Bits128
namespace Go.Proofs.Ytnhpkpodeojldaa
open Go.RowKit

theorem wrap_nat (x : Nat) (h : x < lim) : IntKind.u64.wrap (x : Int) = (x : Int) := by
  rw [IntKind.wrap_u64]; unfold lim at h; omega
theorem wrap_pow (n : Int) (h : nodeS n = true) : IntKind.u64.wrap (2 ^ n.toNat) = (bitS n : Int) := by
  have e : ((2 ^ n.toNat : Nat) : Int) = 2 ^ n.toNat := by simp
  have hb := bitS_lt n
  unfold bitS at hb ⊢
  rw [if_pos h] at hb ⊢
  rw [← e]
  exact wrap_nat _ hb
theorem shr_bit (b k : Nat) (hb : b < lim) : bits BinOp.and IntKind.u64 ((b : Int) / 2 ^ k) 1 = if b.testBit k then 1 else 0 := by
  have e : (b : Int) / 2 ^ k = ((b / 2 ^ k : Nat) : Int) := by simp
  rw [e, show (1 : Int) = ((1 : Nat) : Int) from rfl, bits_and_u64_nat _ _ (Nat.lt_of_le_of_lt (Nat.div_le_self _ _) hb) (by decide), Nat.and_one_is_mod, Nat.testBit_eq_decide_div_mod_eq]
  rcases Nat.mod_two_eq_zero_or_one (b / 2 ^ k) with h | h <;> simp [h]
theorem testBit_less (b k i : Nat) (h : b.testBit k = true) : (b - 2 ^ k).testBit i = (b.testBit i && decide (i ≠ k)) := by
  have hp := Nat.two_pow_pos k
  rw [Nat.testBit_eq_decide_div_mod_eq] at h
  have h := of_decide_eq_true h
  obtain ⟨m, hm⟩ : ∃ m, b / 2 ^ k = 2 * m + 1 := ⟨b / 2 ^ k / 2, by omega⟩
  have e := Nat.div_add_mod b (2 ^ k)
  rw [hm] at e
  have hr := Nat.mod_lt b hp
  generalize b % 2 ^ k = r at e hr
  have e2 : b - 2 ^ k = 2 ^ k * (2 * m) + r := by rw [Nat.mul_add] at e; omega
  rw [e2, ← e, Nat.testBit_two_pow_mul_add _ hr, Nat.testBit_two_pow_mul_add _ hr]
  by_cases h1 : i < k
  · have : i ≠ k := by omega
    simp [h1, this]
  · rw [if_neg h1, if_neg h1]
    by_cases h3 : i = k
    · subst h3; simp
    · obtain ⟨j, hj⟩ : ∃ j, i - k = j + 1 := ⟨i - k - 1, by omega⟩
      rw [hj, Nat.testBit_succ, Nat.testBit_succ]
      have d1 : (2 * m + 1) / 2 = m := by omega
      have d2 : 2 * m / 2 = m := by omega
      rw [d1, d2]; simp [h3]
theorem testBit_lessS (b : Nat) (n : Int) (i : Nat) : (lessS b n).testBit i = (b.testBit i && !(nodeS n && decide (n.toNat = i))) := by
  unfold lessS
  cases h : hasS b n
  · rw [if_neg (by simp)]
    unfold hasS at h
    by_cases h1 : nodeS n = true
    · rw [h1] at h ⊢
      by_cases h2 : n.toNat = i
      · subst h2; simp at h; simp [h]
      · simp [h2]
    · rw [Bool.not_eq_true] at h1
      rw [h1]; simp
  · rw [if_pos rfl]
    unfold hasS at h
    rw [Bool.and_eq_true] at h
    rw [testBit_less _ _ _ h.2, h.1]
    by_cases h2 : n.toNat = i
    · subst h2; simp
    · have : i ≠ n.toNat := fun e => h2 e.symm
      simp [h2, this]
theorem with_bits (b : Nat) (n : Int) (hb : b < lim) : bits .or .u64 (b : Int) (bitS n : Int) = (withS b n : Int) := bits_or_u64_nat _ _ hb (bitS_lt n)

set_option maxHeartbeats 1000000 in
theorem node_any (n : Int) (w : World) : Calls Try.prog 44 #[.int .i64 n] w fun e w' => e = .returned (.bool (nodeS n)) ∧ w' = w := by
  unfold nodeS
  go_enter Try.func44, Try.ntmps44
  go_wp2
  all_goals go_ret
  all_goals (simp_all <;> omega)
set_option maxHeartbeats 1000000 in
theorem rhas_any (b : Nat) (hb : b < lim) (n : Int) (w : World) : Calls Try.prog 27 #[.int .u64 b, .int .i64 n] w fun e w' => e = .returned (.bool (hasS b n)) ∧ w' = w := by
  unfold hasS
  cases h : nodeS n
  · go_enter Try.func27, Try.ntmps27
    go_wp2_with fail
    refine (node_any n w).mono ?_
    rw [h]
    rintro e w1 ⟨rfl, rfl⟩
    go_wp2_with fail
    go_ret
    exact ⟨rfl, rfl⟩
  · obtain ⟨h0, h1⟩ := (nodeS_iff n).1 h
    have ha := shr_bit b n.toNat hb
    cases h2 : b.testBit n.toNat
    all_goals
      rw [h2] at ha
      simp only [Bool.false_eq_true, if_false, if_true] at ha
      go_enter Try.func27, Try.ntmps27
      go_wp2_with fail
      refine (node_any n w).mono ?_
      rw [h]
      rintro e w1 ⟨rfl, rfl⟩
      go_wp2_with fail
      go_ret
      exact ⟨rfl, rfl⟩
set_option maxHeartbeats 1000000 in
theorem rwith_any (b : Nat) (hb : b < lim) (n : Int) (w : World) : Calls Try.prog 43 #[.int .u64 b, .int .i64 n] w fun e w' => e = .returned (.int .u64 (withS b n)) ∧ w' = w := by
  cases h : nodeS n
  · have hz : withS b n = b := by unfold withS bitS; rw [h]; simp
    rw [hz]
    go_enter Try.func43, Try.ntmps43
    go_wp2_with fail
    refine (node_any n w).mono ?_
    rw [h]
    rintro e w1 ⟨rfl, rfl⟩
    go_wp2_with fail
    go_ret
    exact ⟨rfl, rfl⟩
  · have hw := wrap_pow n h
    obtain ⟨h0, h1⟩ := (nodeS_iff n).1 h
    have ha := with_bits b n hb
    go_enter Try.func43, Try.ntmps43
    go_wp2_with fail
    refine (node_any n w).mono ?_
    rw [h]
    rintro e w1 ⟨rfl, rfl⟩
    go_wp2_with fail
    go_ret
    exact ⟨rfl, rfl⟩
theorem pow_le_of_bit (b k : Nat) (h : b.testBit k = true) : 2 ^ k ≤ b := Nat.ge_two_pow_of_testBit h
theorem sub_has (b : Nat) (n : Int) (hb : b < lim) (h : hasS b n = true) : IntKind.u64.wrap ((b : Int) - (bitS n : Int)) = (lessS b n : Int) := by
  unfold lessS
  rw [if_pos h]
  unfold hasS at h
  rw [Bool.and_eq_true] at h
  have h2 := pow_le_of_bit _ _ h.2
  unfold bitS
  rw [if_pos h.1]
  generalize 2 ^ n.toNat = p at h2
  rw [show (b : Int) - (p : Int) = ((b - p : Nat) : Int) by omega]
  exact wrap_nat _ (by omega)
set_option maxHeartbeats 1000000 in
theorem rless_any (b : Nat) (hb : b < lim) (n : Int) (w : World) : Calls Try.prog 23 #[.int .u64 b, .int .i64 n] w fun e w' => e = .returned (.int .u64 (lessS b n)) ∧ w' = w := by
  cases h : hasS b n
  · have hz : lessS b n = b := by unfold lessS; rw [h]; simp
    rw [hz]
    go_enter Try.func23, Try.ntmps23
    go_wp2_with fail
    refine (rhas_any b hb n w).mono ?_
    rw [h]
    rintro e w1 ⟨rfl, rfl⟩
    go_wp2_with fail
    go_ret
    exact ⟨rfl, rfl⟩
  · have hn : nodeS n = true := by unfold hasS at h; rw [Bool.and_eq_true] at h; exact h.1
    have hw := wrap_pow n hn
    obtain ⟨h0, h1⟩ := (nodeS_iff n).1 hn
    have ha := sub_has b n hb h
    go_enter Try.func23, Try.ntmps23
    go_wp2_with fail
    refine (rhas_any b hb n w).mono ?_
    rw [h]
    rintro e w1 ⟨rfl, rfl⟩
    go_wp2_with fail
    go_ret
    exact ⟨rfl, rfl⟩

end Go.Proofs.Ytnhpkpodeojldaa
