/-
  The rounding of float64: it rises, and what the format has stays.
-/
import Derived.Test.YtahiiieifdhgeaaXfl
namespace Go.Proofs.Ytahiiieifdhgeaa.Re

/-- 'n / 2 ^ drop' to the nearest, by what is twice as much. -/
theorem cut_even (s : Bool) (n drop : Nat) : ∃ c, Ieee.Toward.even.cut s n drop = c ∧ 2 * n ≤ (2 * c + 1) * 2 ^ drop ∧ (c % 2 = 1 → 2 * n < (2 * c + 1) * 2 ^ drop) ∧
    2 * c * 2 ^ drop ≤ 2 * n + 2 ^ drop ∧ (c % 2 = 1 → 2 * c * 2 ^ drop < 2 * n + 2 ^ drop) := by
  by_cases h : drop ≤ n.log2 + 2
  · unfold Ieee.Toward.cut
    rw [Nat.min_eq_left h, Nat.one_shiftLeft]
    have hg : 0 < 2 ^ drop := Nat.two_pow_pos drop
    generalize 2 ^ drop = g at *
    dsimp only
    have h1 := Nat.div_add_mod n g
    have h2 := Nat.mod_lt n hg
    generalize n / g = q at *
    generalize n % g = r at *
    have hc : g * q = q * g := Nat.mul_comm _ _
    refine ⟨_, rfl, ?_⟩
    by_cases a : g < 2 * r
    · simp only [a, decide_true, Bool.true_or, Bool.toNat_true]
      have e1 : (2 * (q + 1) + 1) * g = 2 * (q * g) + 3 * g := by rw [show 2 * (q + 1) + 1 = 2 * q + 3 by omega, Nat.add_mul, Nat.mul_assoc]
      have e2 : 2 * (q + 1) * g = 2 * (q * g) + 2 * g := by rw [Nat.mul_add, Nat.add_mul, Nat.mul_assoc]
      rw [e1, e2]
      omega
    · simp only [a, decide_false, Bool.false_or]
      have e1 : ∀ c, (2 * c + 1) * g = 2 * (c * g) + g := fun c => by rw [Nat.add_mul, Nat.mul_assoc, Nat.one_mul]
      have e2 : ∀ c, 2 * c * g = 2 * (c * g) := fun c => Nat.mul_assoc ..
      by_cases b : g = 2 * r
      · by_cases o : q % 2 = 1
        · simp only [o, show (g == 2 * r) = true by simpa using b, beq_self_eq_true, Bool.and_true, Bool.toNat_true]
          rw [e1, e2, Nat.add_mul]
          refine ⟨?_, ?_, ?_, ?_⟩ <;> omega
        · simp only [show (q % 2 == 1) = false by simpa using o, Bool.and_false, Bool.toNat_false, Nat.add_zero]
          rw [e1, e2]
          refine ⟨?_, ?_, ?_, ?_⟩ <;> omega
      · simp only [show (g == 2 * r) = false by simpa using b, Bool.false_and, Bool.toNat_false, Nat.add_zero]
        rw [e1, e2]
        refine ⟨?_, ?_, ?_, ?_⟩ <;> omega
  · have h0 : n < 2 ^ (n.log2 + 1) := Nat.lt_log2_self
    have hp : 2 ^ (n.log2 + 2) = 2 * 2 ^ (n.log2 + 1) := by rw [Nat.pow_succ]; omega
    have hd : 2 ^ (n.log2 + 2) ≤ 2 ^ drop := Nat.pow_le_pow_right (by omega) (by omega)
    refine ⟨0, ?_, ?_⟩
    · unfold Ieee.Toward.cut
      rw [Nat.min_eq_right (by omega), Nat.one_shiftLeft]
      dsimp only
      rw [Nat.div_eq_of_lt (by omega), Nat.mod_eq_of_lt (by omega)]
      generalize 2 ^ (n.log2 + 2) = g at *
      have a : ¬ g < 2 * n := by omega
      have b : (g == 2 * n) = false := by simp; omega
      simp [a]
    · refine ⟨?_, ?_, ?_, ?_⟩ <;> omega

/-- What is rounded, in units of 2 ^ -4000. -/
def Q (m : Nat) (p : Int) : Nat := m * 2 ^ (p + 4000).toNat

/-- The rung nearest to a number. -/
def R (m : Nat) (p : Int) : Nat :=
  if m = 0 then 0 else
    (max (p + m.log2 - 52) (-1074) - -1074).toNat * B + Ieee.Toward.even.cut false (m <<< (p - max (p + m.log2 - 52) (-1074)).toNat) (max (p + m.log2 - 52) (-1074) - p).toNat

theorem cut_sign (s t : Bool) (n d : Nat) : Ieee.Toward.even.cut s n d = Ieee.Toward.even.cut t n d := rfl

theorem nearest_R (s : Bool) (m : Nat) (p : Int) : fm.nearest s m p = fm.word s (min (R m p) infR) := by
  unfold Ieee.Format.nearest R
  rw [fm_binade, fm_inf, fm_least, fm_fb]
  by_cases h : m = 0
  · rw [if_pos h, if_pos h]; rfl
  · rw [if_neg h, if_neg h]; rfl

/-- A power of two that is never worked out. -/
def pw (n : Nat) : Nat := if _h : n = 0 then 1 else pw (n - 1) * 2
theorem pw_eq (n : Nat) : pw n = 2 ^ n := by
  induction n with
  | zero => unfold pw; rfl
  | succ n ih => unfold pw; rw [dif_neg (by omega), Nat.add_sub_cancel, ih, Nat.pow_succ]
theorem pw_pos (n : Nat) : 0 < pw n := by rw [pw_eq]; exact Nat.two_pow_pos n
theorem pow_split (a b c : Nat) (h : a + b = c) : 2 ^ a * 2 ^ b = 2 ^ c := by rw [← Nat.pow_add, h]
theorem pw_split (a b c : Nat) (h : a + b = c) : pw a * pw b = pw c := by rw [pw_eq, pw_eq, pw_eq]; exact pow_split a b c h
def U : Nat := pw 2926
theorem U_pos : 0 < U := pw_pos _

theorem U_mul (l : Int) (h : -1074 ≤ l) : 2 ^ (l - -1074).toNat * U = 2 ^ (l + 4000).toNat := by
  rw [← pw_eq, ← pw_eq]; exact pw_split _ 2926 _ (by omega)

/-- Between which midpoints a number lies that comes to a rung. -/
theorem R_mid (m : Nat) (p : Int) (hp : -4000 ≤ p) : ∃ r, R m p = r ∧
    2 * Q m p ≤ (V r + V (r + 1)) * U ∧ (r % 2 = 1 → 2 * Q m p < (V r + V (r + 1)) * U) ∧
    (0 < r → (V (r - 1) + V r) * U ≤ 2 * Q m p) ∧ (r % 2 = 1 → (V (r - 1) + V r) * U < 2 * Q m p) := by
  by_cases hm : m = 0
  · refine ⟨0, by simp [R, hm], ?_⟩
    have : Q m p = 0 := by simp [Q, hm]
    rw [this]
    refine ⟨by omega, ?_, ?_, ?_⟩ <;> intro h <;> omega
  · unfold R
    rw [if_neg hm]
    refine ⟨_, rfl, ?_⟩
    have hB : B = 4503599627370496 := rfl
    have hB2 : (2 : Nat) ^ 52 = B := rfl
    generalize hl : max (p + (m.log2 : Int) - 52) (-1074) = l
    have hl1 : -1074 ≤ l := by omega
    obtain ⟨c, hc, c1, c2, c3, c4⟩ := cut_even false (m <<< (p - l).toNat) (l - p).toNat
    rw [hc, Nat.shiftLeft_eq] at *
    clear hc
    have hlow : 2 ^ m.log2 ≤ m := Nat.log2_self_le hm
    have hhigh : m < 2 ^ (m.log2 + 1) := Nat.lt_log2_self
    -- one scale for all
    obtain ⟨z, hz⟩ : ∃ z, z = 2 ^ (min p l + 4000).toNat := ⟨_, rfl⟩
    have zp : 0 < z := by rw [hz]; exact Nat.two_pow_pos _
    have q1 : m * 2 ^ (p - l).toNat * z = Q m p := by
      unfold Q; rw [Nat.mul_assoc, hz, pow_split _ _ (p + 4000).toNat (by omega)]
    have q2 : 2 ^ (l - p).toNat * z = 2 ^ (l - -1074).toNat * U := by
      rw [U_mul l hl1, hz, pow_split _ _ (l + 4000).toNat (by omega)]
    obtain ⟨d, hd⟩ : ∃ d, d = (l - -1074).toNat := ⟨_, rfl⟩
    rw [← hd] at q2 ⊢
    -- bounds of the number in its binade
    have hup : Q m p < 2 * B * (2 ^ d * U) := by
      rw [hd, U_mul l hl1, ← hB2, show 2 * 2 ^ 52 = 2 ^ 53 from rfl]
      unfold Q
      calc m * 2 ^ (p + 4000).toNat < 2 ^ (m.log2 + 1) * 2 ^ (p + 4000).toNat := (Nat.mul_lt_mul_right (Nat.two_pow_pos _)).2 hhigh
        _ = 2 ^ (m.log2 + 1 + (p + 4000).toNat) := by rw [← Nat.pow_add]
        _ ≤ 2 ^ (53 + (l + 4000).toNat) := Nat.pow_le_pow_right (by omega) (by omega)
        _ = _ := by rw [Nat.pow_add]
    have hdn : d = 0 ∨ B * (2 ^ d * U) ≤ Q m p := by
      by_cases h0 : d = 0
      · exact .inl h0
      right
      rw [hd, U_mul l hl1, ← hB2]
      unfold Q
      calc 2 ^ 52 * 2 ^ (l + 4000).toNat = 2 ^ (52 + (l + 4000).toNat) := by rw [Nat.pow_add]
        _ = 2 ^ (m.log2 + (p + 4000).toNat) := by congr 1; omega
        _ = 2 ^ m.log2 * 2 ^ (p + 4000).toNat := by rw [Nat.pow_add]
        _ ≤ _ := Nat.mul_le_mul_right _ hlow
    have D1 : 2 * Q m p ≤ (2 * c + 1) * (2 ^ d * U) := by
      rw [← q1, ← q2]; have := Nat.mul_le_mul_right z c1; rw [Nat.mul_assoc (2 * c + 1), Nat.mul_assoc 2] at this; exact this
    have D2 : c % 2 = 1 → 2 * Q m p < (2 * c + 1) * (2 ^ d * U) := fun o => by
      rw [← q1, ← q2]; have := (Nat.mul_lt_mul_right zp).2 (c2 o); rw [Nat.mul_assoc (2 * c + 1), Nat.mul_assoc 2] at this; exact this
    have D3 : 2 * c * (2 ^ d * U) ≤ 2 * Q m p + 2 ^ d * U := by
      rw [← q1, ← q2]; have := Nat.mul_le_mul_right z c3; rw [Nat.mul_assoc (2 * c), Nat.add_mul, Nat.mul_assoc 2 (m * _)] at this; exact this
    have D4 : c % 2 = 1 → 2 * c * (2 ^ d * U) < 2 * Q m p + 2 ^ d * U := fun o => by
      rw [← q1, ← q2]; have := (Nat.mul_lt_mul_right zp).2 (c4 o); rw [Nat.mul_assoc (2 * c), Nat.add_mul, Nat.mul_assoc 2 (m * _)] at this; exact this
    generalize hT : 2 ^ d * U = T at *
    have tp : 0 < T := by rw [← hT]; exact Nat.mul_pos (Nat.two_pow_pos _) U_pos
    generalize hq : Q m p = q at *
    clear q1 q2 c1 c2 c3 c4 hz hlow hhigh hq
    have ck : c ≤ 2 * B := by
      by_cases h : c ≤ 2 * B
      · exact h
      · have : (2 * B + 1) * T ≤ c * T := Nat.mul_le_mul_right _ (by omega)
        rw [Nat.add_mul] at this
        rw [Nat.mul_assoc] at D3
        omega
    have cl : d = 0 ∨ B ≤ c := by
      rcases hdn with h | h
      · exact .inl h
      · by_cases h' : B ≤ c
        · exact .inr h'
        · have : (c + 1) * T ≤ B * T := Nat.mul_le_mul_right _ (by omega)
          rw [Nat.add_mul] at this D1
          rw [Nat.mul_assoc] at D1
          omega
    have V0 : V (d * B + c) * U = c * T := by rw [V_at d c ck cl, Nat.mul_assoc, hT]
    have par : (d * B + c) % 2 = c % 2 := by
      have : d * B = 2 * (d * 2251799813685248) := by rw [hB]; omega
      omega
    have V1 : (c + 1) * T ≤ V (d * B + c + 1) * U := by
      rw [← hT, ← Nat.mul_assoc]
      refine Nat.mul_le_mul_right _ ?_
      by_cases h : c + 1 ≤ 2 * B
      · rw [Nat.add_assoc, V_at d (c + 1) h (by omega)]; exact Nat.le_refl _
      · have hc : c = 2 * B := by omega
        rw [hc, show d * B + 2 * B + 1 = (d + 1) * B + (B + 1) by rw [Nat.add_mul]; omega, V_at (d + 1) (B + 1) (by omega) (by omega), Nat.pow_succ, ← Nat.mul_assoc, Nat.mul_comm _ 2, ← Nat.mul_assoc]
        exact Nat.mul_le_mul_right _ (by omega)
    have Vm : 0 < d * B + c → (V (d * B + c - 1) + V (d * B + c)) * U ≤ 2 * q ∧ (c % 2 = 1 → (V (d * B + c - 1) + V (d * B + c)) * U < 2 * q) := by
      intro hr
      rw [Nat.add_mul, V0]
      by_cases h : 0 < c ∧ (d = 0 ∨ B ≤ c - 1)
      · have e : V (d * B + c - 1) * U = c * T - T := by
          rw [show d * B + c - 1 = d * B + (c - 1) by omega, V_at d (c - 1) (by omega) h.2, Nat.mul_assoc, hT, Nat.sub_mul, Nat.one_mul]
        have : T ≤ c * T := by have := Nat.mul_le_mul_right T h.1; omega
        rw [Nat.mul_assoc] at D3 D4
        rw [e]
        omega
      · have hd0 : d ≠ 0 := by
          intro e; rw [e] at hr h; simp at hr h; omega
        have hcB : c = B := by omega
        have := V_lt (show d * B + c - 1 < d * B + c by omega)
        have h2 := (Nat.mul_lt_mul_right U_pos).2 this
        rw [V0] at h2
        have : B * T ≤ q := by omega
        rw [hcB] at h2 ⊢
        omega
    refine ⟨?_, ?_, fun h => (Vm h).1, fun h => (Vm (by omega)).2 (by omega)⟩
    · rw [Nat.add_mul, V0]; rw [Nat.add_mul] at D1 V1; rw [Nat.mul_assoc] at D1; omega
    · intro h
      have := D2 (by omega)
      rw [Nat.add_mul, V0]; rw [Nat.add_mul] at this V1; rw [Nat.mul_assoc] at this; omega

theorem R_mono {m n : Nat} {p q : Int} (hp : -4000 ≤ p) (hq : -4000 ≤ q) (h : Q m p ≤ Q n q) : R m p ≤ R n q := by
  obtain ⟨a, ea, a1, a2, a3, a4⟩ := R_mid m p hp
  obtain ⟨b, eb, b1, b2, b3, b4⟩ := R_mid n q hq
  rw [ea, eb]
  by_cases hab : a ≤ b
  · exact hab
  exfalso
  have h3 := a3 (by omega)
  have v1 := V_le (show b ≤ a - 1 by omega)
  have v2 := V_le (show b + 1 ≤ a by omega)
  have e : (V b + V (b + 1)) * U ≤ (V (a - 1) + V a) * U := Nat.mul_le_mul_right _ (by omega)
  have e2 : (V b + V (b + 1)) * U = (V (a - 1) + V a) * U := by omega
  have e3 := Nat.eq_of_mul_eq_mul_right U_pos e2
  have : V b = V (a - 1) := by omega
  have := V_inj this
  by_cases o : a % 2 = 1
  · have := a4 o; omega
  · have := b2 (by omega); omega

theorem R_exact {m r : Nat} {p : Int} (hp : -4000 ≤ p) (h : Q m p = V r * U) : R m p = r := by
  obtain ⟨a, ea, a1, a2, a3, a4⟩ := R_mid m p hp
  rw [ea]
  by_cases h1 : a < r
  · have := V_le (show a + 1 ≤ r by omega)
    have v2 := V_lt h1
    have : (V a + V (a + 1)) * U < 2 * V r * U := (Nat.mul_lt_mul_right U_pos).2 (by omega)
    rw [Nat.mul_assoc] at this
    omega
  · by_cases h2 : r < a
    · have := V_le (show r ≤ a - 1 by omega)
      have v2 := V_lt h2
      have : 2 * V r * U < (V (a - 1) + V a) * U := (Nat.mul_lt_mul_right U_pos).2 (by omega)
      rw [Nat.mul_assoc] at this
      have := a3 (by omega)
      omega
    · omega

/-- The rung nearest to n units of 2 ^ -4000. -/
def rd (n : Nat) : Nat := R n (-4000)
theorem Q_rd (n : Nat) : Q n (-4000) = n := by simp [Q]
theorem R_rd (m : Nat) (p : Int) (hp : -4000 ≤ p) : R m p = rd (Q m p) :=
  Nat.le_antisymm (R_mono hp (by omega) (by rw [Q_rd]; exact Nat.le_refl _)) (R_mono (by omega) hp (by rw [Q_rd]; exact Nat.le_refl _))
theorem rd_mono {a b : Nat} (h : a ≤ b) : rd a ≤ rd b := R_mono (by omega) (by omega) (by rw [Q_rd, Q_rd]; exact h)
theorem rd_exact (r : Nat) : rd (V r * U) = r := R_exact (by omega) (Q_rd _)
theorem rd_le {a r : Nat} (h : a ≤ V r * U) : rd a ≤ r := by have := rd_mono h; rwa [rd_exact] at this
theorem le_rd {a r : Nat} (h : V r * U ≤ a) : r ≤ rd a := by have := rd_mono h; rwa [rd_exact] at this
theorem nearest_rd (s : Bool) (m : Nat) (p : Int) (hp : -4000 ≤ p) : fm.nearest s m p = fm.word s (min (rd (Q m p)) infR) := by rw [nearest_R, R_rd m p hp]

/-- Whole numbers below 2 ^ 53 stay. -/
theorem V_whole (c : Nat) (h : c < 2 * B) (h0 : 0 < c) : ∃ r, V r = c * pw 1074 ∧ r < infR := by
  have hB : B = 4503599627370496 := rfl
  have hI : infR = 9218868437227405312 := rfl
  have hl : c.log2 < 53 := (Nat.log2_lt (by omega)).2 (by omega)
  have h1 : 2 ^ c.log2 ≤ c := Nat.log2_self_le (by omega)
  have h2 : c < 2 ^ (c.log2 + 1) := Nat.lt_log2_self
  have a1 : B ≤ c * 2 ^ (52 - c.log2) := by
    rw [show B = 2 ^ 52 from rfl, ← pow_split c.log2 (52 - c.log2) 52 (by omega)]; exact Nat.mul_le_mul_right _ h1
  have a2 : c * 2 ^ (52 - c.log2) < 2 * B := by
    rw [show 2 * B = 2 ^ 53 from rfl, ← pow_split (c.log2 + 1) (52 - c.log2) 53 (by omega)]; exact (Nat.mul_lt_mul_right (Nat.two_pow_pos _)).2 h2
  refine ⟨(1022 + c.log2) * B + c * 2 ^ (52 - c.log2), ?_, ?_⟩
  · rw [V_at _ _ (by omega) (.inr a1), Nat.mul_assoc, ← pw_eq, ← pw_eq, pw_split _ _ 1074 (by omega)]
  · have : (1022 + c.log2) * B ≤ 1074 * B := Nat.mul_le_mul_right _ (by omega)
    omega
theorem U_1074 : pw 1074 * U = pw 4000 := pw_split 1074 2926 4000 rfl
theorem V_rd_whole (c : Nat) (h : c < 2 * B) : V (rd (c * pw 4000)) = c * pw 1074 ∧ rd (c * pw 4000) < infR := by
  by_cases h0 : c = 0
  · subst h0
    have : rd (0 * pw 4000) = 0 := by rw [Nat.zero_mul]; rfl
    rw [this]; exact ⟨by simp [V_zero], by decide⟩
  · obtain ⟨r, e, hr⟩ := V_whole c h (by omega)
    have : rd (c * pw 4000) = r := by rw [← U_1074, ← Nat.mul_assoc, ← e]; exact rd_exact r
    rw [this]; exact ⟨e, hr⟩
end Go.Proofs.Ytahiiieifdhgeaa.Re
