/-
  The leaves of band and of its reference: bit, node, Has, With, Less, Many, and the two functions of math/bits; the table that lies in its variable.
-/
import Derived.Test.YtlbeincgknmijaaDoorProg
import Derived.Test.YtlbeincgknmijaaDoorRMth
import Derived.WalkKit
import Derived.WalkSpells
import Derived.WalkLawsBesides
import Derived.Deep.LoopGhost
import Derived.Deep.QuietTactic
import Derived.BigQuiet
import Derived.Laws.Bits64b
import Derived.Laws.Bits128
namespace Go.Proofs.YtlbeincgknmijaaDoor.Ro.Bnd
open Go.RowKit

/-! ## Bits of numbers, as the walk spells them -/

theorem wrap_nat (x : Nat) (h : x < lim) : IntKind.u64.wrap (x : Int) = (x : Int) := by
  rw [IntKind.wrap_u64]; unfold lim at h; omega
theorem wrap_pow (n : Int) (h : nodeS n = true) : IntKind.u64.wrap (2 ^ n.toNat) = (bitS n : Int) := by
  have e : ((2 ^ n.toNat : Nat) : Int) = 2 ^ n.toNat := by simp
  have hb := bitS_lt n
  unfold bitS at hb ⊢
  rw [if_pos h] at hb ⊢
  rw [← e]
  exact wrap_nat _ hb
theorem shr_bit (b k : Nat) (hb : b < lim) : bits BinOp.and IntKind.u64 ((b : Int) / 2 ^ k) 1 = if b.testBit k then 1 else 0 := by
  have e : (b : Int) / 2 ^ k = ((b / 2 ^ k : Nat) : Int) := by simp
  rw [e, show (1 : Int) = ((1 : Nat) : Int) from rfl, bits_and_u64_nat _ _ (Nat.lt_of_le_of_lt (Nat.div_le_self _ _) hb) (by decide), Nat.and_one_is_mod, Nat.testBit_eq_decide_div_mod_eq]
  rcases Nat.mod_two_eq_zero_or_one (b / 2 ^ k) with h | h <;> simp [h]
theorem and_bit (b : Nat) (n : Int) (hb : b < lim) : bits BinOp.and IntKind.u64 (b : Int) (bitS n : Int) = if hasS b n then (bitS n : Int) else 0 := by
  rw [bits_and_u64_nat _ _ hb (bitS_lt n)]
  have : b &&& bitS n = if hasS b n then bitS n else 0 := by
    refine Nat.eq_of_testBit_eq fun i => ?_
    rw [Nat.testBit_and, testBit_bitS]
    unfold hasS
    by_cases h1 : nodeS n = true
    · rw [h1]
      by_cases h2 : n.toNat = i
      · subst h2
        cases h3 : b.testBit n.toNat <;> simp [testBit_bitS, h1]
      · cases h3 : b.testBit n.toNat <;> simp [testBit_bitS, h1, h2]
    · rw [Bool.not_eq_true] at h1
      rw [h1]; simp
  rw [this]
  split <;> simp
theorem bitS_pos (b : Nat) (n : Int) (h : hasS b n = true) : (bitS n : Int) ≠ 0 := by
  unfold hasS at h
  rw [Bool.and_eq_true] at h
  unfold bitS
  rw [if_pos h.1]
  have := Nat.two_pow_pos n.toNat
  omega
theorem testBit_less (b k i : Nat) (h : b.testBit k = true) : (b - 2 ^ k).testBit i = (b.testBit i && decide (i ≠ k)) := by
  have hp := Nat.two_pow_pos k
  rw [Nat.testBit_eq_decide_div_mod_eq] at h
  have h := of_decide_eq_true h
  obtain ⟨m, hm⟩ : ∃ m, b / 2 ^ k = 2 * m + 1 := ⟨b / 2 ^ k / 2, by omega⟩
  have e := Nat.div_add_mod b (2 ^ k)
  rw [hm] at e
  have hr := Nat.mod_lt b hp
  generalize b % 2 ^ k = r at e hr
  have e2 : b - 2 ^ k = 2 ^ k * (2 * m) + r := by rw [Nat.mul_add] at e; omega
  rw [e2, ← e, Nat.testBit_two_pow_mul_add _ hr, Nat.testBit_two_pow_mul_add _ hr]
  by_cases h1 : i < k
  · have : i ≠ k := by omega
    simp [h1, this]
  · rw [if_neg h1, if_neg h1]
    by_cases h3 : i = k
    · subst h3; simp
    · obtain ⟨j, hj⟩ : ∃ j, i - k = j + 1 := ⟨i - k - 1, by omega⟩
      rw [hj, Nat.testBit_succ, Nat.testBit_succ]
      have d1 : (2 * m + 1) / 2 = m := by omega
      have d2 : 2 * m / 2 = m := by omega
      rw [d1, d2]; simp [h3]
theorem testBit_lessS (b : Nat) (n : Int) (i : Nat) : (lessS b n).testBit i = (b.testBit i && !(nodeS n && decide (n.toNat = i))) := by
  unfold lessS
  cases h : hasS b n
  · rw [if_neg (by simp)]
    unfold hasS at h
    by_cases h1 : nodeS n = true
    · rw [h1] at h ⊢
      by_cases h2 : n.toNat = i
      · subst h2; simp at h; simp [h]
      · simp [h2]
    · rw [Bool.not_eq_true] at h1
      rw [h1]; simp
  · rw [if_pos rfl]
    unfold hasS at h
    rw [Bool.and_eq_true] at h
    rw [testBit_less _ _ _ h.2, h.1]
    by_cases h2 : n.toNat = i
    · subst h2; simp
    · have : i ≠ n.toNat := fun e => h2 e.symm
      simp [h2, this]
theorem testBit_not (b i : Nat) (hb : b < lim) : (lim - 1 - b).testBit i = (decide (i < 64) && !b.testBit i) := by
  rw [show lim - 1 - b = 2 ^ 64 - (b + 1) by unfold lim; omega, Nat.testBit_two_pow_sub_succ hb]
theorem bits_andNot (a b : Nat) (ha : a < lim) (hb : b < lim) : bits .andNot .u64 (a : Int) (b : Int) = ((a &&& (lim - 1 - b) : Nat) : Int) := by
  have h1 : (BitVec.ofInt 64 (a : Int)).toNat = a := by
    rw [BitVec.ofInt_natCast, BitVec.toNat_ofNat]; exact Nat.mod_eq_of_lt ha
  have h2 : (BitVec.ofInt 64 (b : Int)).toNat = b := by
    rw [BitVec.ofInt_natCast, BitVec.toNat_ofNat]; exact Nat.mod_eq_of_lt hb
  show IntKind.u64.wrap ((BitVec.ofInt 64 (a : Int) &&& ~~~ BitVec.ofInt 64 (b : Int)).toNat : Int) = _
  rw [BitVec.toNat_and, BitVec.toNat_not, h1, h2]
  exact wrap_nat _ (and_lt ha)
theorem less_bits (b : Nat) (n : Int) (hb : b < lim) : bits .andNot .u64 (b : Int) (bitS n : Int) = (lessS b n : Int) := by
  rw [bits_andNot _ _ hb (bitS_lt n)]
  congr 1
  refine eq_of_bits (and_lt hb) (lessS_lt hb n) fun i hi => ?_
  rw [Nat.testBit_and, testBit_not _ _ (bitS_lt n), testBit_lessS, testBit_bitS]
  simp [hi]
theorem with_bits (b : Nat) (n : Int) (hb : b < lim) : bits .or .u64 (b : Int) (bitS n : Int) = (withS b n : Int) := bits_or_u64_nat _ _ hb (bitS_lt n)

/-! ## Leaves -/

end Go.Proofs.YtlbeincgknmijaaDoor.Ro.Bnd
