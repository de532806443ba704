/-
  How long is waited: two ticks for each bit, at a base of two; no longer with more that told it. Plain mathematics.
-/
import Derived.Test.YtahiiieifdhgeaaDmt
namespace Go.Proofs.Ytahiiieifdhgeaa
namespace Re

def two : Nat := 4611686018427387904
theorem two_at : two = (1023 + 1) * B := by decide
theorem V_two : V two = 2 * pw 1074 := by rw [two_at, V_pow]
theorem two_fi : two = fi 2 := V_inj (by rw [V_two, V_fi 2 (by omega) (by omega)]; rfl)
theorem prod_two {k : Int} (h0 : 0 ≤ k) (h : k ≤ 64) : prodS two (fi k) = fi (2 * k) := by
  unfold prodS
  rw [V_two, V_fi k h0 (by omega)]
  have e1 : pw 1074 * (pw 1074 * pw 1852) = pw 4000 := by rw [U_1852, U_1074]
  have e2 : 2 * pw 1074 * (k.toNat * pw 1074) * pw 1852 = (2 * k.toNat) * (pw 1074 * (pw 1074 * pw 1852)) := by
    generalize pw 1074 = a
    generalize pw 1852 = b
    simp only [Nat.mul_assoc, Nat.mul_comm, Nat.mul_left_comm]
  rw [e2, e1]
  unfold fi
  rw [show (2 * k).toNat = 2 * k.toNat from by omega]
theorem fi_max (a b : Int) : max (fi a) (fi b) = fi (max a b) := by
  rcases Int.le_total a b with h | h
  · have := fi_mono h
    rw [Int.max_eq_right h, Nat.max_eq_right this]
  · have := fi_mono h
    rw [Int.max_eq_left h, Nat.max_eq_left this]
theorem great_two {k : Int} (h0 : 0 ≤ k) (h : k ≤ 64) : greatS two k = fi (max 2 (2 * k)) := by
  unfold greatS
  rw [prod_two h0 h, ← fi_max, ← two_fi]
theorem cei_fi (c : Nat) (h0 : 0 < c) (h : c ≤ 1000) : cei (fi c) = c := by
  have h1 := cei_spec (fi c)
  rw [V_fi (c : Int) (by omega) (by omega), Int.toNat_natCast] at h1
  obtain ⟨h2, h3⟩ := h1
  obtain ⟨h4, h5⟩ := h3 (Nat.mul_pos h0 (pw_pos _))
  have h6 := mul_le_pw h2
  have h7 := mul_lt_pw h5
  omega
theorem ticks_fi (c : Nat) (h0 : 0 < c) (h : c ≤ 1000) : ticksS (fi c) = c := by
  have h1 : fi c ≤ (1023 + 10) * B := fi_le (c : Int) 10 (by omega)
  have h2 : one ≤ fi c := le_fi (c : Int) 0 (by simp; omega)
  have h3 : (1023 + 10) * B < infR := by decide
  have h4 : (1023 + 10) * B < K40 := by decide
  have h5 : 0 < one := by decide
  have h6 := infR_lt_S
  have hk : key (fi c) = fi c := key_pos (by omega)
  have hc := cei_fi c h0 h
  generalize fi (c : Int) = x at *
  unfold ticksS
  rw [nan_pos (by omega), if_neg (by simp), hk, if_neg (by omega), if_neg (by omega), hc]
theorem clean_two : cleanS two 0 K1000 = two := by
  rw [cleanS_eq (by decide) (by decide) (by decide), if_neg (by decide), if_neg (by decide), if_neg (by decide), if_neg (by decide)]
theorem ticks_mono {x y : Nat} (h : x ≤ y) (hy : y < infR) : ticksS x ≤ ticksS y := by
  have h6 := infR_lt_S
  unfold ticksS
  rw [nan_pos (x := x) (by omega), nan_pos (x := y) (by omega), key_pos (x := x) (by omega), key_pos (x := y) (by omega)]
  simp only [Bool.false_eq_true, if_false]
  have hc := cei_mono h
  by_cases h0 : (x : Int) ≤ 0
  · rw [if_pos h0]; exact Nat.zero_le _
  · rw [if_neg h0, if_neg (show ¬ (y : Int) ≤ 0 by omega)]
    by_cases h1 : (K40 : Int) ≤ x
    · rw [if_pos h1, if_pos (show (K40 : Int) ≤ y by omega)]; exact Nat.le_refl _
    · rw [if_neg h1]
      by_cases h2 : (K40 : Int) ≤ y
      · rw [if_pos h2]; exact cei_K40 (by omega)
      · rw [if_neg h2]; exact hc
end Re
theorem tk_two (nodes : Int) (hn : nodes ≤ 9223372036854775807) : tkS Re.two nodes 0 = max 2 (2 * Re.bitsS nodes) := by
  obtain ⟨h0, h1⟩ := Re.bits_range nodes hn
  unfold tkS
  rw [Re.clean_two, Re.wait_none, Re.great_two h0 h1]
  have e : max 2 (2 * Re.bitsS nodes) = (((max 2 (2 * Re.bitsS nodes)).toNat : Nat) : Int) := by omega
  generalize (max 2 (2 * Re.bitsS nodes)).toNat = c at e
  rw [e, Re.ticks_fi c (by omega) (by omega)]
theorem tk_mono (base : Nat) (HB : base < 2 ^ 64) (nodes : Int) (hn : nodes ≤ 9223372036854775807) {t t' : Int} (h : t ≤ t') (ht : t' ≤ 9223372036854775807) : tkS base nodes t' ≤ tkS base nodes t := by
  have hK : Re.K1000 < Re.infR := by decide
  have hb : Re.cleanS base 0 Re.K1000 ≤ Re.K1000 := Re.clean_pos HB (Nat.le_of_lt hK)
  have hk := (Re.bits_range nodes hn).2
  have h1 := Re.wait_mono (m := 3) hb hk h ht (by omega)
  have h2 := (Re.wait_held (t := t) (m := 3) hb hk).2
  have h3 := (Re.great_lt hb hk).2
  have := Re.ticks_mono h1 (Nat.lt_of_le_of_lt h2 h3)
  unfold tkS
  omega
theorem bits_one : Re.bitsS 1 = 1 := by decide
theorem bits_64 : Re.bitsS 64 = 7 := by decide
theorem until_mono (base : Nat) (HB : base < 2 ^ 64) (nodes a : Int) (hn : nodes ≤ 9223372036854775807) {t t' : Int} (h : t ≤ t') (ht : t' ≤ 9223372036854775807) : untilS base nodes a t' ≤ untilS base nodes a t := by
  have := tk_mono base HB nodes hn h ht
  unfold untilS laterS
  omega
theorem until_two (a nodes k : Int) (hn : nodes ≤ 9223372036854775807) (hb : Re.bitsS nodes = k) (h0 : 1 ≤ k) (ha : a + 2 * k ≤ 18446744073709551615) : untilS Re.two nodes a 0 = a + 2 * k := by
  unfold untilS laterS
  rw [tk_two nodes hn, hb]
  omega
end Go.Proofs.Ytahiiieifdhgeaa
