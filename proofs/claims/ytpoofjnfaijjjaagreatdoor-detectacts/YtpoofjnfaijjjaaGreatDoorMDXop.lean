/-
  Plain mathematics of float64's words: rungs and what they are worth, the order, the rounding (it rises; what the format has stays). The rounding of float64: it rises, and what the format has stays. What '+', '*', '/', float64(n), uint64(x) and math.Ceil give of words that are not below nought, by rungs.
-/
import Derived.WalkKit
import Derived.WalkLawsBesides
namespace Go.Proofs.YtpoofjnfaijjjaaGreatDoor.Do.Re
abbrev fm : Ieee.Format := FloatKind.f64.format
def B : Nat := 4503599627370496
def infR : Nat := 9218868437227405312
def S : Nat := 9223372036854775808
def rung (x : Nat) : Nat := x % S
def ng (x : Nat) : Bool := x / S % 2 == 1
def key (x : Nat) : Int := if ng x then -(rung x : Int) else rung x
def nan (x : Nat) : Bool := decide (infR < rung x)
def V (r : Nat) : Nat := if r < B then r else (B + r % B) * 2 ^ (r / B - 1)
theorem V_at (d k : Nat) (h : k ≤ 2 * B) (h' : d = 0 ∨ B ≤ k) : V (d * B + k) = k * 2 ^ d := by
  unfold V
  have hB : B = 4503599627370496 := rfl
  by_cases h1 : k < B
  · have : d = 0 := by omega
    subst this
    rw [if_pos (by omega)]; simp
  · rw [if_neg (by have := Nat.zero_le (d * B); omega)]
    by_cases h2 : k = 2 * B
    · subst h2
      have e1 : (d * B + 2 * B) % B = 0 := by rw [← Nat.add_mul]; exact Nat.mul_mod_left _ _
      have e2 : (d * B + 2 * B) / B = d + 2 := by rw [← Nat.add_mul]; exact Nat.mul_div_cancel _ (by omega)
      rw [e1, e2, show d + 2 - 1 = d + 1 by omega, Nat.pow_succ, Nat.add_zero, Nat.mul_comm (2 ^ d) 2, ← Nat.mul_assoc, Nat.mul_comm B 2]
    · obtain ⟨j, rfl⟩ : ∃ j, k = B + j := ⟨k - B, by omega⟩
      have hj : j < B := by omega
      have e0 : d * B + (B + j) = j + (d + 1) * B := by rw [Nat.add_mul]; omega
      have e1 : (d * B + (B + j)) % B = j := by rw [e0, Nat.add_mul_mod_self_right]; exact Nat.mod_eq_of_lt hj
      have e2 : (d * B + (B + j)) / B = d + 1 := by rw [e0, Nat.add_mul_div_right _ _ (by omega), Nat.div_eq_of_lt hj]; omega
      rw [e1, e2, show d + 1 - 1 = d by omega]
theorem rung_split (r : Nat) : ∃ d k, r = d * B + k ∧ k < 2 * B ∧ (d = 0 ∨ B ≤ k) := by
  have hB : B = 4503599627370496 := rfl
  by_cases h : r < B
  · exact ⟨0, r, by simp, by omega, .inl rfl⟩
  · refine ⟨r / B - 1, B + r % B, ?_, ?_, .inr (by omega)⟩
    · have := Nat.div_add_mod r B
      have h1 : 1 ≤ r / B := (Nat.one_le_div_iff (by omega)).2 (by omega)
      obtain ⟨q, hq⟩ : ∃ q, r / B = q + 1 := ⟨r / B - 1, by omega⟩
      rw [hq] at this ⊢
      rw [Nat.mul_add, Nat.mul_one, Nat.mul_comm] at this
      rw [show q + 1 - 1 = q by omega]
      omega
    · have := Nat.mod_lt r (show 0 < B by omega); omega
theorem V_succ (r : Nat) : V r < V (r + 1) := by
  obtain ⟨d, k, rfl, hk, h⟩ := rung_split r
  rw [V_at d k (by omega) h, Nat.add_assoc, V_at d (k + 1) (by omega) (by omega), Nat.add_mul]
  have := Nat.two_pow_pos d
  omega
theorem V_zero : V 0 = 0 := rfl
theorem V_lt {a b : Nat} (h : a < b) : V a < V b := by
  obtain ⟨c, rfl⟩ : ∃ c, b = a + 1 + c := ⟨b - a - 1, by omega⟩
  clear h
  induction c with
  | zero => exact V_succ a
  | succ c ih => exact Nat.lt_trans ih (V_succ _)
theorem V_le {a b : Nat} (h : a ≤ b) : V a ≤ V b := by
  by_cases h' : a = b
  · rw [h']; exact Nat.le_refl _
  · exact Nat.le_of_lt (V_lt (by omega))
theorem le_of_V {a b : Nat} (h : V a ≤ V b) : a ≤ b := by
  by_cases h' : a ≤ b
  · exact h'
  · have := V_lt (show b < a by omega); omega
theorem lt_of_V {a b : Nat} (h : V a < V b) : a < b := by
  by_cases h' : a < b
  · exact h'
  · have := V_le (show b ≤ a by omega); omega
theorem V_inj {a b : Nat} (h : V a = V b) : a = b := Nat.le_antisymm (le_of_V (by omega)) (le_of_V (by omega))
theorem fm_binade : fm.binade = B := rfl
theorem fm_sw : fm.signWeight = S := rfl
theorem fm_inf : fm.infRung = infR := by decide +kernel
theorem fm_least : fm.leastPlace = -1074 := by decide +kernel
theorem fm_fb : fm.fractionBits = 52 := rfl
theorem read_num (x : Nat) (h : rung x < infR) : ∃ m i, fm.read x = .number (ng x) m i ∧ -1074 ≤ i ∧ i ≤ 971 ∧ m < 2 * B ∧ m * 2 ^ (i + 1074).toNat = V (rung x) ∧ (B ≤ rung x → B ≤ m ∧ i = -1074 + (rung x / B - 1 : Nat)) := by
  have hB : B = 4503599627370496 := rfl
  have hI : infR = 9218868437227405312 := rfl
  unfold Ieee.Format.read
  rw [fm_binade, fm_sw, fm_inf, fm_least]
  show ∃ m i, (if rung x < B then Ieee.Datum.number (ng x) (rung x) (-1074) else if rung x < infR then Ieee.Datum.number (ng x) (B + rung x % B) (-1074 + ((rung x / B - 1 : Nat) : Int)) else if rung x = infR then .infinity (ng x) else .nan (ng x) (rung x - infR)) = _ ∧ _
  generalize rung x = r at *
  by_cases h1 : r < B
  · rw [if_pos h1]
    refine ⟨_, _, rfl, by omega, by omega, by omega, ?_, fun h2 => by omega⟩
    unfold V; rw [if_pos h1]; simp
  · rw [if_neg h1, if_pos h]
    have hm := Nat.mod_lt r (show 0 < B by omega)
    have hd : r / B ≤ 2046 := by rw [hB]; omega
    refine ⟨_, _, rfl, by omega, by omega, by omega, ?_, fun _ => ⟨by omega, rfl⟩⟩
    unfold V; rw [if_neg h1, show (-1074 + ((r / B - 1 : Nat) : Int) + 1074).toNat = r / B - 1 by omega]
theorem read_inf (x : Nat) (h : rung x = infR) : fm.read x = .infinity (ng x) := by
  unfold Ieee.Format.read
  rw [fm_binade, fm_sw, fm_inf, fm_least]
  show (if rung x < B then Ieee.Datum.number (ng x) (rung x) (-1074) else if rung x < infR then Ieee.Datum.number (ng x) (B + rung x % B) (-1074 + ((rung x / B - 1 : Nat) : Int)) else if rung x = infR then .infinity (ng x) else .nan (ng x) (rung x - infR)) = _
  rw [h, if_neg (by decide), if_neg (by decide), if_pos rfl]
theorem read_nan (x : Nat) (h : infR < rung x) : fm.read x = .nan (ng x) (rung x - infR) := by
  unfold Ieee.Format.read
  rw [fm_binade, fm_sw, fm_inf, fm_least]
  show (if rung x < B then Ieee.Datum.number (ng x) (rung x) (-1074) else if rung x < infR then Ieee.Datum.number (ng x) (B + rung x % B) (-1074 + ((rung x / B - 1 : Nat) : Int)) else if rung x = infR then .infinity (ng x) else .nan (ng x) (rung x - infR)) = _
  have hB : B = 4503599627370496 := rfl
  have hI : infR = 9218868437227405312 := rfl
  rw [if_neg (by omega), if_neg (by omega), if_neg (by omega)]
theorem compare_of (a b : Int) : compare a b = if a < b then .lt else if a = b then .eq else .gt := rfl
theorem compare_congr {a b c d : Int} (h : a < b ↔ c < d) (h' : a = b ↔ c = d) : compare a b = compare c d := by
  rw [compare_of, compare_of]
  by_cases h1 : c < d
  · rw [if_pos h1, if_pos (h.2 h1)]
  · rw [if_neg h1, if_neg (fun e => h1 (h.1 e))]
    by_cases h2 : c = d
    · rw [if_pos h2, if_pos (h'.2 h2)]
    · rw [if_neg h2, if_neg (fun e => h2 (h'.1 e))]
def sg (s : Bool) (n : Nat) : Int := if s then -(n : Int) else n
theorem key_sg (x : Nat) : key x = sg (ng x) (rung x) := rfl
theorem signed_eq (s : Bool) (m u : Nat) : Ieee.signed s m u = sg s (m * 2 ^ u) := by
  unfold Ieee.signed sg; rw [Nat.shiftLeft_eq]
theorem sg_mul (s : Bool) (n c : Nat) : sg s n * (c : Int) = sg s (n * c) := by
  unfold sg; cases s
  · simp
  · simp [Int.neg_mul]
theorem compare_mul (a b : Int) (c : Nat) (hc : 0 < c) : compare (a * (c : Int)) (b * (c : Int)) = compare a b :=
  compare_congr (Int.mul_lt_mul_right (by omega)) (Int.mul_eq_mul_right_iff (by omega))
theorem compare_sgV (s t : Bool) (a b : Nat) : compare (sg s (V a)) (sg t (V b)) = compare (sg s a) (sg t b) := by
  have h0 := V_zero
  have h1 : V a < V b ↔ a < b := ⟨lt_of_V, V_lt⟩
  have h2 : V b < V a ↔ b < a := ⟨lt_of_V, V_lt⟩
  have h3 : 0 < V a ↔ 0 < a := ⟨fun h => lt_of_V (by omega), fun h => by have := V_lt h; omega⟩
  have h4 : 0 < V b ↔ 0 < b := ⟨fun h => lt_of_V (by omega), fun h => by have := V_lt h; omega⟩
  unfold sg
  cases s <;> cases t <;> simp only [Bool.false_eq_true, if_true, if_false] <;> apply compare_congr <;> omega
theorem up_eq (m : Nat) (i b : Int) (h : b ≤ i) (hb : -1074 ≤ b) : m * 2 ^ (i - b).toNat * 2 ^ (b + 1074).toNat = m * 2 ^ (i + 1074).toNat := by
  rw [Nat.mul_assoc, ← Nat.pow_add]
  congr 2; omega
theorem order_eq (x y : Nat) : fm.order x y = if nan x || nan y then none else some (compare (key x) (key y)) := by
  unfold Ieee.Format.order nan
  have hI : infR = 9218868437227405312 := rfl
  by_cases hx : infR < rung x
  · rw [read_nan x hx]; simp [hx, Ieee.Datum.order]
  by_cases hy : infR < rung y
  · rw [read_nan y hy]; simp only [hy, decide_true, Bool.or_true, if_true]
    cases fm.read x <;> rfl
  simp only [hx, hy, decide_false, Bool.or_false, Bool.false_eq_true, if_false]
  rw [key_sg, key_sg]
  by_cases hx' : rung x = infR
  · rw [read_inf x hx']
    by_cases hy' : rung y = infR
    · rw [read_inf y hy', hx', hy']
      cases ng x <;> cases ng y <;> decide
    · obtain ⟨m, i, e, _⟩ := read_num y (by omega)
      rw [e, hx']
      simp only [Ieee.Datum.order, Option.some.injEq]
      rw [compare_of]
      unfold sg
      cases ng x <;> cases ng y <;> simp only [Bool.false_eq_true, if_true, if_false] <;> split <;> (try (first | rfl | (exfalso; omega))) <;> split <;> (first | rfl | (exfalso; omega))
  · obtain ⟨m, i, e, h1, _, _, h2, _⟩ := read_num x (by omega)
    rw [e]
    by_cases hy' : rung y = infR
    · rw [read_inf y hy', hy']
      simp only [Ieee.Datum.order, Option.some.injEq]
      rw [compare_of]
      unfold sg
      cases ng x <;> cases ng y <;> simp only [Bool.false_eq_true, if_true, if_false] <;> split <;> (try (first | rfl | (exfalso; omega))) <;> split <;> (first | rfl | (exfalso; omega))
    · obtain ⟨n, j, e', h3, _, _, h4, _⟩ := read_num y (by omega)
      rw [e']
      simp only [Ieee.Datum.order, Option.some.injEq]
      rw [signed_eq, signed_eq]
      have hb : -1074 ≤ min i j := by omega
      rw [← compare_mul _ _ (2 ^ (min i j + 1074).toNat) (Nat.two_pow_pos _), sg_mul, sg_mul, up_eq m i (min i j) (by omega) hb, up_eq n j (min i j) (by omega) hb, h2, h4]
      exact compare_sgV ..
end Go.Proofs.YtpoofjnfaijjjaaGreatDoor.Do.Re
namespace Go.Proofs.YtpoofjnfaijjjaaGreatDoor.Do.Re
theorem cut_even (s : Bool) (n drop : Nat) : ∃ c, Ieee.Toward.even.cut s n drop = c ∧ 2 * n ≤ (2 * c + 1) * 2 ^ drop ∧ (c % 2 = 1 → 2 * n < (2 * c + 1) * 2 ^ drop) ∧
    2 * c * 2 ^ drop ≤ 2 * n + 2 ^ drop ∧ (c % 2 = 1 → 2 * c * 2 ^ drop < 2 * n + 2 ^ drop) := by
  by_cases h : drop ≤ n.log2 + 2
  · unfold Ieee.Toward.cut
    rw [Nat.min_eq_left h, Nat.one_shiftLeft]
    have hg : 0 < 2 ^ drop := Nat.two_pow_pos drop
    generalize 2 ^ drop = g at *
    dsimp only
    have h1 := Nat.div_add_mod n g
    have h2 := Nat.mod_lt n hg
    generalize n / g = q at *
    generalize n % g = r at *
    have hc : g * q = q * g := Nat.mul_comm _ _
    refine ⟨_, rfl, ?_⟩
    by_cases a : g < 2 * r
    · simp only [a, decide_true, Bool.true_or, Bool.toNat_true]
      have e1 : (2 * (q + 1) + 1) * g = 2 * (q * g) + 3 * g := by rw [show 2 * (q + 1) + 1 = 2 * q + 3 by omega, Nat.add_mul, Nat.mul_assoc]
      have e2 : 2 * (q + 1) * g = 2 * (q * g) + 2 * g := by rw [Nat.mul_add, Nat.add_mul, Nat.mul_assoc]
      rw [e1, e2]
      omega
    · simp only [a, decide_false, Bool.false_or]
      have e1 : ∀ c, (2 * c + 1) * g = 2 * (c * g) + g := fun c => by rw [Nat.add_mul, Nat.mul_assoc, Nat.one_mul]
      have e2 : ∀ c, 2 * c * g = 2 * (c * g) := fun c => Nat.mul_assoc ..
      by_cases b : g = 2 * r
      · by_cases o : q % 2 = 1
        · simp only [o, show (g == 2 * r) = true by simpa using b, beq_self_eq_true, Bool.and_true, Bool.toNat_true]
          rw [e1, e2, Nat.add_mul]
          refine ⟨?_, ?_, ?_, ?_⟩ <;> omega
        · simp only [show (q % 2 == 1) = false by simpa using o, Bool.and_false, Bool.toNat_false, Nat.add_zero]
          rw [e1, e2]
          refine ⟨?_, ?_, ?_, ?_⟩ <;> omega
      · simp only [show (g == 2 * r) = false by simpa using b, Bool.false_and, Bool.toNat_false, Nat.add_zero]
        rw [e1, e2]
        refine ⟨?_, ?_, ?_, ?_⟩ <;> omega
  · have h0 : n < 2 ^ (n.log2 + 1) := Nat.lt_log2_self
    have hp : 2 ^ (n.log2 + 2) = 2 * 2 ^ (n.log2 + 1) := by rw [Nat.pow_succ]; omega
    have hd : 2 ^ (n.log2 + 2) ≤ 2 ^ drop := Nat.pow_le_pow_right (by omega) (by omega)
    refine ⟨0, ?_, ?_⟩
    · unfold Ieee.Toward.cut
      rw [Nat.min_eq_right (by omega), Nat.one_shiftLeft]
      dsimp only
      rw [Nat.div_eq_of_lt (by omega), Nat.mod_eq_of_lt (by omega)]
      generalize 2 ^ (n.log2 + 2) = g at *
      have a : ¬ g < 2 * n := by omega
      have b : (g == 2 * n) = false := by simp; omega
      simp [a]
    · refine ⟨?_, ?_, ?_, ?_⟩ <;> omega
def Q (m : Nat) (p : Int) : Nat := m * 2 ^ (p + 4000).toNat
def R (m : Nat) (p : Int) : Nat :=
  if m = 0 then 0 else
    (max (p + m.log2 - 52) (-1074) - -1074).toNat * B + Ieee.Toward.even.cut false (m <<< (p - max (p + m.log2 - 52) (-1074)).toNat) (max (p + m.log2 - 52) (-1074) - p).toNat
theorem nearest_R (s : Bool) (m : Nat) (p : Int) : fm.nearest s m p = fm.word s (min (R m p) infR) := by
  unfold Ieee.Format.nearest R
  rw [fm_binade, fm_inf, fm_least, fm_fb]
  by_cases h : m = 0
  · rw [if_pos h, if_pos h]; rfl
  · rw [if_neg h, if_neg h]; rfl
def pw (n : Nat) : Nat := if _h : n = 0 then 1 else pw (n - 1) * 2
theorem pw_eq (n : Nat) : pw n = 2 ^ n := by
  induction n with
  | zero => unfold pw; rfl
  | succ n ih => unfold pw; rw [dif_neg (by omega), Nat.add_sub_cancel, ih, Nat.pow_succ]
theorem pw_pos (n : Nat) : 0 < pw n := by rw [pw_eq]; exact Nat.two_pow_pos n
theorem pow_split (a b c : Nat) (h : a + b = c) : 2 ^ a * 2 ^ b = 2 ^ c := by rw [← Nat.pow_add, h]
theorem pw_split (a b c : Nat) (h : a + b = c) : pw a * pw b = pw c := by rw [pw_eq, pw_eq, pw_eq]; exact pow_split a b c h
def U : Nat := pw 2926
theorem U_pos : 0 < U := pw_pos _
theorem U_mul (l : Int) (h : -1074 ≤ l) : 2 ^ (l - -1074).toNat * U = 2 ^ (l + 4000).toNat := by
  rw [← pw_eq, ← pw_eq]; exact pw_split _ 2926 _ (by omega)
theorem R_mid (m : Nat) (p : Int) (hp : -4000 ≤ p) : ∃ r, R m p = r ∧
    2 * Q m p ≤ (V r + V (r + 1)) * U ∧ (r % 2 = 1 → 2 * Q m p < (V r + V (r + 1)) * U) ∧
    (0 < r → (V (r - 1) + V r) * U ≤ 2 * Q m p) ∧ (r % 2 = 1 → (V (r - 1) + V r) * U < 2 * Q m p) := by
  by_cases hm : m = 0
  · refine ⟨0, by simp [R, hm], ?_⟩
    have : Q m p = 0 := by simp [Q, hm]
    rw [this]
    refine ⟨by omega, ?_, ?_, ?_⟩ <;> intro h <;> omega
  · unfold R
    rw [if_neg hm]
    refine ⟨_, rfl, ?_⟩
    have hB : B = 4503599627370496 := rfl
    have hB2 : (2 : Nat) ^ 52 = B := rfl
    generalize hl : max (p + (m.log2 : Int) - 52) (-1074) = l
    have hl1 : -1074 ≤ l := by omega
    obtain ⟨c, hc, c1, c2, c3, c4⟩ := cut_even false (m <<< (p - l).toNat) (l - p).toNat
    rw [hc, Nat.shiftLeft_eq] at *
    clear hc
    have hlow : 2 ^ m.log2 ≤ m := Nat.log2_self_le hm
    have hhigh : m < 2 ^ (m.log2 + 1) := Nat.lt_log2_self
    -- one scale for all
    obtain ⟨z, hz⟩ : ∃ z, z = 2 ^ (min p l + 4000).toNat := ⟨_, rfl⟩
    have zp : 0 < z := by rw [hz]; exact Nat.two_pow_pos _
    have q1 : m * 2 ^ (p - l).toNat * z = Q m p := by
      unfold Q; rw [Nat.mul_assoc, hz, pow_split _ _ (p + 4000).toNat (by omega)]
    have q2 : 2 ^ (l - p).toNat * z = 2 ^ (l - -1074).toNat * U := by
      rw [U_mul l hl1, hz, pow_split _ _ (l + 4000).toNat (by omega)]
    obtain ⟨d, hd⟩ : ∃ d, d = (l - -1074).toNat := ⟨_, rfl⟩
    rw [← hd] at q2 ⊢
    -- bounds of the number in its binade
    have hup : Q m p < 2 * B * (2 ^ d * U) := by
      rw [hd, U_mul l hl1, ← hB2, show 2 * 2 ^ 52 = 2 ^ 53 from rfl]
      unfold Q
      calc m * 2 ^ (p + 4000).toNat < 2 ^ (m.log2 + 1) * 2 ^ (p + 4000).toNat := (Nat.mul_lt_mul_right (Nat.two_pow_pos _)).2 hhigh
        _ = 2 ^ (m.log2 + 1 + (p + 4000).toNat) := by rw [← Nat.pow_add]
        _ ≤ 2 ^ (53 + (l + 4000).toNat) := Nat.pow_le_pow_right (by omega) (by omega)
        _ = _ := by rw [Nat.pow_add]
    have hdn : d = 0 ∨ B * (2 ^ d * U) ≤ Q m p := by
      by_cases h0 : d = 0
      · exact .inl h0
      right
      rw [hd, U_mul l hl1, ← hB2]
      unfold Q
      calc 2 ^ 52 * 2 ^ (l + 4000).toNat = 2 ^ (52 + (l + 4000).toNat) := by rw [Nat.pow_add]
        _ = 2 ^ (m.log2 + (p + 4000).toNat) := by congr 1; omega
        _ = 2 ^ m.log2 * 2 ^ (p + 4000).toNat := by rw [Nat.pow_add]
        _ ≤ _ := Nat.mul_le_mul_right _ hlow
    have D1 : 2 * Q m p ≤ (2 * c + 1) * (2 ^ d * U) := by
      rw [← q1, ← q2]; have := Nat.mul_le_mul_right z c1; rw [Nat.mul_assoc (2 * c + 1), Nat.mul_assoc 2] at this; exact this
    have D2 : c % 2 = 1 → 2 * Q m p < (2 * c + 1) * (2 ^ d * U) := fun o => by
      rw [← q1, ← q2]; have := (Nat.mul_lt_mul_right zp).2 (c2 o); rw [Nat.mul_assoc (2 * c + 1), Nat.mul_assoc 2] at this; exact this
    have D3 : 2 * c * (2 ^ d * U) ≤ 2 * Q m p + 2 ^ d * U := by
      rw [← q1, ← q2]; have := Nat.mul_le_mul_right z c3; rw [Nat.mul_assoc (2 * c), Nat.add_mul, Nat.mul_assoc 2 (m * _)] at this; exact this
    have D4 : c % 2 = 1 → 2 * c * (2 ^ d * U) < 2 * Q m p + 2 ^ d * U := fun o => by
      rw [← q1, ← q2]; have := (Nat.mul_lt_mul_right zp).2 (c4 o); rw [Nat.mul_assoc (2 * c), Nat.add_mul, Nat.mul_assoc 2 (m * _)] at this; exact this
    generalize hT : 2 ^ d * U = T at *
    have tp : 0 < T := by rw [← hT]; exact Nat.mul_pos (Nat.two_pow_pos _) U_pos
    generalize hq : Q m p = q at *
    clear q1 q2 c1 c2 c3 c4 hz hlow hhigh hq
    have ck : c ≤ 2 * B := by
      by_cases h : c ≤ 2 * B
      · exact h
      · have : (2 * B + 1) * T ≤ c * T := Nat.mul_le_mul_right _ (by omega)
        rw [Nat.add_mul] at this
        rw [Nat.mul_assoc] at D3
        omega
    have cl : d = 0 ∨ B ≤ c := by
      rcases hdn with h | h
      · exact .inl h
      · by_cases h' : B ≤ c
        · exact .inr h'
        · have : (c + 1) * T ≤ B * T := Nat.mul_le_mul_right _ (by omega)
          rw [Nat.add_mul] at this D1
          rw [Nat.mul_assoc] at D1
          omega
    have V0 : V (d * B + c) * U = c * T := by rw [V_at d c ck cl, Nat.mul_assoc, hT]
    have par : (d * B + c) % 2 = c % 2 := by
      have : d * B = 2 * (d * 2251799813685248) := by rw [hB]; omega
      omega
    have V1 : (c + 1) * T ≤ V (d * B + c + 1) * U := by
      rw [← hT, ← Nat.mul_assoc]
      refine Nat.mul_le_mul_right _ ?_
      by_cases h : c + 1 ≤ 2 * B
      · rw [Nat.add_assoc, V_at d (c + 1) h (by omega)]; exact Nat.le_refl _
      · have hc : c = 2 * B := by omega
        rw [hc, show d * B + 2 * B + 1 = (d + 1) * B + (B + 1) by rw [Nat.add_mul]; omega, V_at (d + 1) (B + 1) (by omega) (by omega), Nat.pow_succ, ← Nat.mul_assoc, Nat.mul_comm _ 2, ← Nat.mul_assoc]
        exact Nat.mul_le_mul_right _ (by omega)
    have Vm : 0 < d * B + c → (V (d * B + c - 1) + V (d * B + c)) * U ≤ 2 * q ∧ (c % 2 = 1 → (V (d * B + c - 1) + V (d * B + c)) * U < 2 * q) := by
      intro hr
      rw [Nat.add_mul, V0]
      by_cases h : 0 < c ∧ (d = 0 ∨ B ≤ c - 1)
      · have e : V (d * B + c - 1) * U = c * T - T := by
          rw [show d * B + c - 1 = d * B + (c - 1) by omega, V_at d (c - 1) (by omega) h.2, Nat.mul_assoc, hT, Nat.sub_mul, Nat.one_mul]
        have : T ≤ c * T := by have := Nat.mul_le_mul_right T h.1; omega
        rw [Nat.mul_assoc] at D3 D4
        rw [e]
        omega
      · have hd0 : d ≠ 0 := by
          intro e; rw [e] at hr h; simp at hr h; omega
        have hcB : c = B := by omega
        have := V_lt (show d * B + c - 1 < d * B + c by omega)
        have h2 := (Nat.mul_lt_mul_right U_pos).2 this
        rw [V0] at h2
        have : B * T ≤ q := by omega
        rw [hcB] at h2 ⊢
        omega
    refine ⟨?_, ?_, fun h => (Vm h).1, fun h => (Vm (by omega)).2 (by omega)⟩
    · rw [Nat.add_mul, V0]; rw [Nat.add_mul] at D1 V1; rw [Nat.mul_assoc] at D1; omega
    · intro h
      have := D2 (by omega)
      rw [Nat.add_mul, V0]; rw [Nat.add_mul] at this V1; rw [Nat.mul_assoc] at this; omega
theorem R_mono {m n : Nat} {p q : Int} (hp : -4000 ≤ p) (hq : -4000 ≤ q) (h : Q m p ≤ Q n q) : R m p ≤ R n q := by
  obtain ⟨a, ea, a1, a2, a3, a4⟩ := R_mid m p hp
  obtain ⟨b, eb, b1, b2, b3, b4⟩ := R_mid n q hq
  rw [ea, eb]
  by_cases hab : a ≤ b
  · exact hab
  exfalso
  have h3 := a3 (by omega)
  have v1 := V_le (show b ≤ a - 1 by omega)
  have v2 := V_le (show b + 1 ≤ a by omega)
  have e : (V b + V (b + 1)) * U ≤ (V (a - 1) + V a) * U := Nat.mul_le_mul_right _ (by omega)
  have e2 : (V b + V (b + 1)) * U = (V (a - 1) + V a) * U := by omega
  have e3 := Nat.eq_of_mul_eq_mul_right U_pos e2
  have : V b = V (a - 1) := by omega
  have := V_inj this
  by_cases o : a % 2 = 1
  · have := a4 o; omega
  · have := b2 (by omega); omega
theorem R_exact {m r : Nat} {p : Int} (hp : -4000 ≤ p) (h : Q m p = V r * U) : R m p = r := by
  obtain ⟨a, ea, a1, a2, a3, a4⟩ := R_mid m p hp
  rw [ea]
  by_cases h1 : a < r
  · have := V_le (show a + 1 ≤ r by omega)
    have v2 := V_lt h1
    have : (V a + V (a + 1)) * U < 2 * V r * U := (Nat.mul_lt_mul_right U_pos).2 (by omega)
    rw [Nat.mul_assoc] at this
    omega
  · by_cases h2 : r < a
    · have := V_le (show r ≤ a - 1 by omega)
      have v2 := V_lt h2
      have : 2 * V r * U < (V (a - 1) + V a) * U := (Nat.mul_lt_mul_right U_pos).2 (by omega)
      rw [Nat.mul_assoc] at this
      have := a3 (by omega)
      omega
    · omega
def rd (n : Nat) : Nat := R n (-4000)
theorem Q_rd (n : Nat) : Q n (-4000) = n := by simp [Q]
theorem R_rd (m : Nat) (p : Int) (hp : -4000 ≤ p) : R m p = rd (Q m p) :=
  Nat.le_antisymm (R_mono hp (by omega) (by rw [Q_rd]; exact Nat.le_refl _)) (R_mono (by omega) hp (by rw [Q_rd]; exact Nat.le_refl _))
theorem rd_mono {a b : Nat} (h : a ≤ b) : rd a ≤ rd b := R_mono (by omega) (by omega) (by rw [Q_rd, Q_rd]; exact h)
theorem rd_exact (r : Nat) : rd (V r * U) = r := R_exact (by omega) (Q_rd _)
theorem rd_le {a r : Nat} (h : a ≤ V r * U) : rd a ≤ r := by have := rd_mono h; rwa [rd_exact] at this
theorem le_rd {a r : Nat} (h : V r * U ≤ a) : r ≤ rd a := by have := rd_mono h; rwa [rd_exact] at this
theorem nearest_rd (s : Bool) (m : Nat) (p : Int) (hp : -4000 ≤ p) : fm.nearest s m p = fm.word s (min (rd (Q m p)) infR) := by rw [nearest_R, R_rd m p hp]
theorem V_whole (c : Nat) (h : c < 2 * B) (h0 : 0 < c) : ∃ r, V r = c * pw 1074 ∧ r < infR := by
  have hB : B = 4503599627370496 := rfl
  have hI : infR = 9218868437227405312 := rfl
  have hl : c.log2 < 53 := (Nat.log2_lt (by omega)).2 (by omega)
  have h1 : 2 ^ c.log2 ≤ c := Nat.log2_self_le (by omega)
  have h2 : c < 2 ^ (c.log2 + 1) := Nat.lt_log2_self
  have a1 : B ≤ c * 2 ^ (52 - c.log2) := by
    rw [show B = 2 ^ 52 from rfl, ← pow_split c.log2 (52 - c.log2) 52 (by omega)]; exact Nat.mul_le_mul_right _ h1
  have a2 : c * 2 ^ (52 - c.log2) < 2 * B := by
    rw [show 2 * B = 2 ^ 53 from rfl, ← pow_split (c.log2 + 1) (52 - c.log2) 53 (by omega)]; exact (Nat.mul_lt_mul_right (Nat.two_pow_pos _)).2 h2
  refine ⟨(1022 + c.log2) * B + c * 2 ^ (52 - c.log2), ?_, ?_⟩
  · rw [V_at _ _ (by omega) (.inr a1), Nat.mul_assoc, ← pw_eq, ← pw_eq, pw_split _ _ 1074 (by omega)]
  · have : (1022 + c.log2) * B ≤ 1074 * B := Nat.mul_le_mul_right _ (by omega)
    omega
theorem U_1074 : pw 1074 * U = pw 4000 := pw_split 1074 2926 4000 rfl
theorem V_rd_whole (c : Nat) (h : c < 2 * B) : V (rd (c * pw 4000)) = c * pw 1074 ∧ rd (c * pw 4000) < infR := by
  by_cases h0 : c = 0
  · subst h0
    have : rd (0 * pw 4000) = 0 := by rw [Nat.zero_mul]; rfl
    rw [this]; exact ⟨by simp [V_zero], by decide⟩
  · obtain ⟨r, e, hr⟩ := V_whole c h (by omega)
    have : rd (c * pw 4000) = r := by rw [← U_1074, ← Nat.mul_assoc, ← e]; exact rd_exact r
    rw [this]; exact ⟨e, hr⟩
end Go.Proofs.YtpoofjnfaijjjaaGreatDoor.Do.Re
namespace Go.Proofs.YtpoofjnfaijjjaaGreatDoor.Do.Re
theorem infR_lt_S : infR < S := by decide
theorem rung_pos {x : Nat} (h : x < S) : rung x = x := Nat.mod_eq_of_lt h
theorem ng_pos {x : Nat} (h : x < S) : ng x = false := by unfold ng; rw [Nat.div_eq_of_lt h]; rfl
theorem key_pos {x : Nat} (h : x < S) : key x = x := by unfold key; rw [ng_pos h, rung_pos h]; rfl
theorem nan_pos {x : Nat} (h : x ≤ infR) : nan x = false := by unfold nan; rw [rung_pos (by have := infR_lt_S; omega)]; simp; omega
theorem word_false (r : Nat) : fm.word false r = r := rfl
theorem order_pos {x y : Nat} (hx : x ≤ infR) (hy : y ≤ infR) : fm.order x y = some (compare (x : Int) (y : Int)) := by
  have := infR_lt_S
  rw [order_eq, nan_pos hx, nan_pos hy, key_pos (by omega), key_pos (by omega)]; rfl
theorem read_pos {x : Nat} (h : x < infR) : ∃ m i, fm.read x = .number false m i ∧ -1074 ≤ i ∧ i ≤ 971 ∧ m < 2 * B ∧ m * 2 ^ (i + 1074).toNat = V x ∧ (B ≤ x → B ≤ m ∧ i = -1074 + (x / B - 1 : Nat)) := by
  have := infR_lt_S
  have h1 := read_num x (by rw [rung_pos (by omega)]; exact h)
  rwa [rung_pos (by omega), ng_pos (by omega)] at h1
theorem mul_pos {x y : Nat} (hx : x < infR) (hy : y < infR) : fm.mul x y = some (min (rd (V x * V y * pw 1852)) infR) := by
  obtain ⟨m, i, e, i1, i2, _, v, _⟩ := read_pos hx
  obtain ⟨n, j, e', j1, j2, _, v', _⟩ := read_pos hy
  unfold Ieee.Format.mul
  rw [e, e']
  simp only [Ieee.Datum.product, Option.map_some, Ieee.Format.write, Bool.xor_self]
  rw [nearest_rd _ _ _ (by omega), word_false]
  congr 4
  unfold Q
  rw [← v, ← v', show m * 2 ^ (i + 1074).toNat * (n * 2 ^ (j + 1074).toNat) = m * n * (2 ^ (i + 1074).toNat * 2 ^ (j + 1074).toNat) from Nat.mul_mul_mul_comm .., Nat.mul_assoc (m * n), ← Nat.pow_add, ← pw_eq, ← pw_eq, pw_split _ 1852 _ rfl]
  congr 2; omega
theorem opp_num (s : Bool) (m : Nat) (i : Int) : (Ieee.Datum.number s m i).opposite = .number (!s) m i := rfl
theorem sub_pos {x y : Nat} (hx : x < infR) (h : y ≤ x) : fm.sub x y = some (rd ((V x - V y) * U)) ∧ rd ((V x - V y) * U) ≤ x := by
  have hle : rd ((V x - V y) * U) ≤ x := rd_le (Nat.mul_le_mul_right _ (Nat.sub_le _ _))
  refine ⟨?_, hle⟩
  obtain ⟨m, i, e, i1, i2, _, v, _⟩ := read_pos hx
  obtain ⟨n, j, e', j1, j2, _, v', _⟩ := read_pos (show y < infR by omega)
  have hV := V_le h
  unfold Ieee.Format.sub
  rw [e, e', opp_num]
  simp only [Ieee.Datum.sum, Option.map_some, Ieee.Format.write]
  rw [signed_eq, signed_eq]
  have hb : -1074 ≤ min i j := by omega
  have k1 := up_eq m i (min i j) (by omega) hb
  have k2 := up_eq n j (min i j) (by omega) hb
  rw [v] at k1; rw [v'] at k2
  generalize m * 2 ^ (i - min i j).toNat = a at *
  generalize n * 2 ^ (j - min i j).toNat = b at *
  have hz := Nat.two_pow_pos (min i j + 1074).toNat
  have hab : b ≤ a := by rw [← k1, ← k2] at hV; exact Nat.le_of_mul_le_mul_right hV hz
  have et : sg false a + sg (!false) b = ((a - b : Nat) : Int) := by simp [sg]; omega
  rw [et]
  have en : (if ((a - b : Nat) : Int) = 0 then (false && !false) else decide (((a - b : Nat) : Int) < 0)) = false := by split <;> simp
  rw [en, nearest_rd _ _ _ (by omega), word_false, Int.natAbs_natCast]
  have eq : Q (a - b) (min i j) = (V x - V y) * U := by
    unfold Q
    rw [← k1, ← k2, ← Nat.sub_mul, Nat.mul_assoc, ← pw_eq, ← pw_eq]
    congr 1
    exact (pw_split _ 2926 _ (by omega)).symm
  rw [eq, Nat.min_eq_left (by omega)]
def fi (n : Int) : Nat := rd (n.toNat * pw 4000)
theorem V_pow (e : Nat) : V ((1023 + e) * B) = 2 ^ e * pw 1074 := by
  rw [show (1023 + e) * B = (1022 + e) * B + B by rw [Nat.add_mul, Nat.add_mul]; have : B = 4503599627370496 := rfl; omega, V_at _ _ (by decide) (.inr (Nat.le_refl _)), show B = 2 ^ 52 from rfl, ← pw_eq, ← pw_eq, ← pw_eq, pw_split _ _ (1074 + e) (by omega), pw_split _ _ (1074 + e) (by omega)]
theorem fi_le (n : Int) (e : Nat) (h : n ≤ 2 ^ e) : fi n ≤ (1023 + e) * B := by
  unfold fi
  apply rd_le
  rw [V_pow, Nat.mul_assoc, U_1074]
  refine Nat.mul_le_mul_right _ ?_
  have h1 : ((2 ^ e : Nat) : Int) = 2 ^ e := by simp
  have h2 := Nat.two_pow_pos e
  rw [← h1] at h
  generalize 2 ^ e = z at *
  omega
theorem le_fi (n : Int) (e : Nat) (h : (2 : Int) ^ e ≤ n) : (1023 + e) * B ≤ fi n := by
  unfold fi
  apply le_rd
  rw [V_pow, Nat.mul_assoc, U_1074]
  refine Nat.mul_le_mul_right _ ?_
  have h1 : ((2 ^ e : Nat) : Int) = 2 ^ e := by simp
  have h2 := Nat.two_pow_pos e
  rw [← h1] at h
  generalize 2 ^ e = z at *
  omega
theorem fi_mono {n m : Int} (h : n ≤ m) : fi n ≤ fi m := rd_mono (Nat.mul_le_mul_right _ (by omega))
theorem floatOfInt_eq (n : Int) (h0 : 0 ≤ n) (h : n < 18446744073709551616) : floatOfInt .f64 n = fi n := by
  have hlt : fi n < infR := Nat.lt_of_le_of_lt (fi_le n 64 (by omega)) (by decide)
  have : ¬ n < 0 := by omega
  show fm.nearest (decide (n < 0)) n.natAbs 0 = _
  rw [nearest_rd _ _ _ (by omega), decide_eq_false this, word_false]
  have e : Q n.natAbs 0 = n.toNat * pw 4000 := by unfold Q; rw [← pw_eq]; congr 1; omega
  rw [e]; exact Nat.min_eq_left (Nat.le_of_lt hlt)
theorem V_fi (n : Int) (h0 : 0 ≤ n) (h : n < 9007199254740992) : V (fi n) = n.toNat * pw 1074 :=
  (V_rd_whole n.toNat (by show n.toNat < 9007199254740992; omega)).1
def gq (D n : Nat) : Nat := 2 * (D / n) + (D % n != 0).toNat
theorem gq_mono {D E n : Nat} (h : D ≤ E) : gq D n ≤ gq E n := by
  unfold gq
  have h1 := Nat.div_add_mod D n
  have h2 := Nat.div_add_mod E n
  have h3 := Nat.div_le_div_right (c := n) h
  have b : ∀ z : Nat, (z != 0).toNat = if z = 0 then 0 else 1 := fun z => by by_cases h : z = 0 <;> simp [h]
  rw [b, b]
  by_cases e : D / n = E / n
  · rw [e] at h1
    rw [e]
    split <;> split <;> omega
  · split <;> split <;> omega
theorem gq_two {D E n : Nat} (hn : 0 < n) (hn' : n < 9007199254740992) (h : D + 18014398509481984 ≤ 2 * E) : gq D n ≤ 2 * gq E n := by
  unfold gq
  have h1 := Nat.div_add_mod D n
  have h2 := Nat.div_add_mod E n
  have h3 := Nat.mod_lt E hn
  have b : ∀ z : Nat, (z != 0).toNat ≤ 1 := fun z => by cases (z != 0) <;> simp
  have bD := b (D % n)
  have key : D / n + 1 ≤ 2 * (E / n) := by
    by_cases hh : D / n + 1 ≤ 2 * (E / n)
    · exact hh
    · exfalso
      have : n * (2 * (E / n)) ≤ n * (D / n) := Nat.mul_le_mul_left _ (by omega)
      rw [show n * (2 * (E / n)) = 2 * (n * (E / n)) from Nat.mul_left_comm ..] at this
      omega
  omega
def dq (x y : Nat) : Nat := gq ((B + x % B) * 18014398509481984) (B + y % B) * 2 ^ ((x / B : Nat) - (y / B : Nat) + 3945 : Int).toNat
theorem norm_m {x m : Nat} {i : Int} (hx : B ≤ x) (h : m * 2 ^ (i + 1074).toNat = V x) (hi : i = -1074 + (x / B - 1 : Nat)) : m = B + x % B := by
  unfold V at h
  rw [if_neg (by omega), hi, show (-1074 + ((x / B - 1 : Nat) : Int) + 1074).toNat = x / B - 1 by omega] at h
  exact Nat.eq_of_mul_eq_mul_right (Nat.two_pow_pos _) h
theorem log2_norm {m : Nat} (h : B ≤ m) (h' : m < 2 * B) : m.log2 = 52 := by
  have : B = 4503599627370496 := rfl
  exact (Nat.log2_eq_iff (by omega)).2 ⟨h, h'⟩
theorem div_pos {x y : Nat} (hx : x < infR) (hx' : B ≤ x) (hy : y < infR) (hy' : B ≤ y) : fm.div x y = some (min (rd (dq x y)) infR) := by
  have hB : B = 4503599627370496 := rfl
  have hI : infR = 9218868437227405312 := rfl
  obtain ⟨m, i, e, i1, i2, m2, v, nm⟩ := read_pos hx
  obtain ⟨n, j, e', j1, j2, n2, v', nn⟩ := read_pos hy
  have hm := norm_m hx' v (nm hx').2
  have hn := norm_m hy' v' (nn hy').2
  have lm := log2_norm (nm hx').1 m2
  have ln := log2_norm (nn hy').1 n2
  have hi := (nm hx').2
  have hj := (nn hy').2
  unfold Ieee.Format.div
  rw [e, e', fm_fb]
  simp only [Ieee.Datum.quotient]
  rw [if_neg (by omega)]
  simp only [Option.map_some, Ieee.Format.write, Bool.xor_self]
  rw [lm, ln, Nat.shiftLeft_eq]
  have hd1 : 1 ≤ x / B := (Nat.one_le_div_iff (by omega)).2 hx'
  have hd2 : 1 ≤ y / B := (Nat.one_le_div_iff (by omega)).2 hy'
  have hd3 : x / B ≤ 2046 := by rw [hB]; omega
  have hd4 : y / B ≤ 2046 := by rw [hB]; omega
  have hex : (i - j - ((52 + 2 + 52 - 52 : Nat) : Int) - 1 + 4000).toNat = (((x / B : Nat) : Int) - ((y / B : Nat) : Int) + 3945).toNat := by
    generalize x / B = a at *
    generalize y / B = b at *
    omega
  have hq : Q (2 * (m * 2 ^ (52 + 2 + 52 - 52) / n) + (m * 2 ^ (52 + 2 + 52 - 52) % n != 0).toNat) (i - j - ((52 + 2 + 52 - 52 : Nat) : Int) - 1) = dq x y := by
    unfold Q dq gq
    rw [hex, hm, hn]
  rw [nearest_rd _ _ _ (by omega), word_false, hq]
theorem dq_mono {x x' y : Nat} (h : x ≤ x') (hx' : x' < infR) (hy : y < infR) : dq x y ≤ dq x' y := by
  have hB : B = 4503599627370496 := rfl
  have hI : infR = 9218868437227405312 := rfl
  unfold dq
  have d1 : x / B ≤ x' / B := Nat.div_le_div_right h
  have d2 : x' / B ≤ 2046 := by rw [hB]; omega
  have d3 : y / B ≤ 2046 := by rw [hB]; omega
  have a1 := Nat.div_add_mod x B
  have a2 := Nat.div_add_mod x' B
  have m1 := Nat.mod_lt x (show 0 < B by omega)
  have m2 := Nat.mod_lt x' (show 0 < B by omega)
  have m3 := Nat.mod_lt y (show 0 < B by omega)
  generalize x / B = a at *
  generalize x' / B = a' at *
  generalize y / B = b at *
  generalize x % B = r at *
  generalize x' % B = r' at *
  generalize y % B = t at *
  by_cases e : a = a'
  · rw [e]
    refine Nat.mul_le_mul_right _ (gq_mono (Nat.mul_le_mul_right _ ?_))
    rw [e] at a1; omega
  · have g := gq_two (D := (B + r) * 18014398509481984) (E := (B + r') * 18014398509481984) (n := B + t) (by omega) (by omega) (by omega)
    have p : 2 ^ ((a : Int) - (b : Int) + 3945 : Int).toNat * 2 ≤ 2 ^ ((a' : Int) - (b : Int) + 3945 : Int).toNat := by
      rw [← Nat.pow_succ]; exact Nat.pow_le_pow_right (by omega) (by omega)
    calc gq _ _ * 2 ^ ((a : Int) - (b : Int) + 3945 : Int).toNat ≤ 2 * gq ((B + r') * 18014398509481984) (B + t) * 2 ^ ((a : Int) - (b : Int) + 3945 : Int).toNat := Nat.mul_le_mul_right _ g
      _ = gq ((B + r') * 18014398509481984) (B + t) * (2 ^ ((a : Int) - (b : Int) + 3945 : Int).toNat * 2) := by
        rw [Nat.mul_comm 2, Nat.mul_assoc, Nat.mul_comm 2]
      _ ≤ _ := Nat.mul_le_mul_left _ p
theorem dq_same (y : Nat) : dq y y = pw 4000 := by
  unfold dq gq
  have hB : B = 4503599627370496 := rfl
  rw [Nat.mul_div_cancel_left _ (by omega), Nat.mul_mod_right]
  have gen : ∀ k, (2 * 18014398509481984 + ((0 : Nat) != 0).toNat) * 2 ^ k = pw (55 + k) := by
    intro k
    rw [← pw_eq k, ← pw_split 55 k _ rfl, pw_eq 55]; rfl
  rw [gen]
  congr 1; omega
def one : Nat := 1023 * B
theorem rd_one : rd (pw 4000) = one := by
  have := rd_exact one
  rw [show one = (1023 + 0) * B from rfl, V_pow, Nat.pow_zero, Nat.one_mul, U_1074] at this
  exact this
theorem dq_le_one {x y : Nat} (h : x ≤ y) (hy : y < infR) : rd (dq x y) ≤ one := by
  rw [← rd_one, ← dq_same y]; exact rd_mono (dq_mono h hy hy)
theorem cut_zero (s : Bool) (n d : Nat) : Ieee.Toward.zero.cut s n d = n / 2 ^ d := by
  unfold Ieee.Toward.cut
  rw [Nat.one_shiftLeft]
  dsimp only
  rw [Bool.toNat_false, Nat.add_zero]
  by_cases h : d ≤ n.log2 + 2
  · rw [Nat.min_eq_left h]
  · have h0 : n < 2 ^ (n.log2 + 1) := Nat.lt_log2_self
    rw [Nat.min_eq_right (by omega), Nat.div_eq_of_lt (Nat.lt_of_lt_of_le h0 (Nat.pow_le_pow_right (by omega) (by omega))), Nat.div_eq_of_lt (Nat.lt_of_lt_of_le h0 (Nat.pow_le_pow_right (by omega) (by omega)))]
theorem cut_up (n d : Nat) : Ieee.Toward.up.cut false n d = (n + (2 ^ d - 1)) / 2 ^ d := by
  have gen : ∀ g : Nat, 0 < g → (n + (g - 1)) / g = n / g + (!false && n % g != 0).toNat := by
    intro g hg
    have h1 := Nat.div_add_mod n g
    have h2 := Nat.mod_lt n hg
    have b : (!false && n % g != 0).toNat = if n % g = 0 then 0 else 1 := by by_cases h : n % g = 0 <;> simp [h]
    rw [b, Nat.mul_comm] at *
    refine Nat.div_eq_of_lt_le ?_ ?_
    · split
      · rw [Nat.add_zero]; omega
      · rw [Nat.add_mul]; omega
    · split
      · simp only [Nat.add_zero]; rw [Nat.succ_mul]; omega
      · rw [Nat.succ_mul, Nat.add_mul]; omega
  unfold Ieee.Toward.cut
  rw [Nat.one_shiftLeft]
  dsimp only
  by_cases h : d ≤ n.log2 + 2
  · rw [Nat.min_eq_left h, gen _ (Nat.two_pow_pos _)]
  · have h0 : n < 2 ^ (n.log2 + 1) := Nat.lt_log2_self
    have e1 : n < 2 ^ (n.log2 + 2) := Nat.lt_of_lt_of_le h0 (Nat.pow_le_pow_right (by omega) (by omega))
    have e2 : n < 2 ^ d := Nat.lt_of_lt_of_le h0 (Nat.pow_le_pow_right (by omega) (by omega))
    rw [Nat.min_eq_right (by omega), gen _ (Nat.two_pow_pos _), Nat.div_eq_of_lt e1, Nat.div_eq_of_lt e2, Nat.mod_eq_of_lt e1, Nat.mod_eq_of_lt e2]
def flo (x : Nat) : Nat := V x / pw 1074
def cei (x : Nat) : Nat := (V x + (pw 1074 - 1)) / pw 1074
theorem toInt_pos {x : Nat} (h : x < infR) : (fm.read x).toInt .zero = some (flo x : Int) := by
  obtain ⟨m, i, e, i1, i2, _, v, _⟩ := read_pos h
  rw [e]
  simp only [Ieee.Datum.toInt, Ieee.Datum.integral]
  rw [signed_eq, cut_zero, Nat.shiftLeft_eq]
  show some (((m * 2 ^ i.toNat / 2 ^ (-i).toNat * 2 ^ 0 : Nat)) : Int) = _
  rw [Nat.pow_zero, Nat.mul_one]
  congr 2
  unfold flo
  rw [← v, pw_eq]
  by_cases hi : 0 ≤ i
  · rw [show (i + 1074).toNat = i.toNat + 1074 by omega, Nat.pow_add, ← Nat.mul_assoc, show (-i).toNat = 0 by omega, Nat.pow_zero, Nat.div_one, ← pw_eq 1074, Nat.mul_div_cancel _ (pw_pos _)]
  · have : 2 ^ (-i).toNat * 2 ^ (i + 1074).toNat = pw 1074 := by rw [← pw_eq, ← pw_eq]; exact pw_split _ _ _ (by omega)
    rw [← pw_eq 1074, ← this, Nat.mul_div_mul_right _ _ (Nat.two_pow_pos _), show i.toNat = 0 by omega, Nat.pow_zero, Nat.mul_one]
theorem ceil_pos {x : Nat} (h : x < infR) : ∃ c, (fm.read x).integral .up = .number false c 0 ∧ c = cei x := by
  obtain ⟨m, i, e, i1, i2, _, v, _⟩ := read_pos h
  rw [e]
  refine ⟨_, rfl, ?_⟩
  rw [cut_up, Nat.shiftLeft_eq]
  unfold cei
  rw [← v]
  by_cases hi : 0 ≤ i
  · have hp := pw_pos 1074
    rw [show (i + 1074).toNat = i.toNat + 1074 by omega, Nat.pow_add, ← Nat.mul_assoc, show (-i).toNat = 0 by omega, Nat.pow_zero, Nat.div_one, ← pw_eq 1074, Nat.add_comm (_ * pw 1074), Nat.add_mul_div_right _ _ hp, Nat.div_eq_of_lt (by omega)]
    omega
  · have e2 : 2 ^ (-i).toNat * 2 ^ (i + 1074).toNat = pw 1074 := by rw [← pw_eq, ← pw_eq]; exact pw_split _ _ _ (by omega)
    rw [show i.toNat = 0 by omega, Nat.pow_zero, Nat.mul_one, ← e2]
    have g1 := Nat.two_pow_pos (-i).toNat
    have g2 := Nat.two_pow_pos (i + 1074).toNat
    generalize 2 ^ (-i).toNat = g at *
    generalize 2 ^ (i + 1074).toNat = u at *
    rw [Nat.mul_comm g u, ← Nat.div_div_eq_div_mul]
    congr 1
    have : u * g - 1 = (u - 1) + (g - 1) * u := by
      rw [Nat.sub_mul, Nat.one_mul, Nat.mul_comm g u]
      have : u ≤ u * g := Nat.le_mul_of_pos_right _ g1
      omega
    rw [this, show m * u + (u - 1 + (g - 1) * u) = (u - 1) + (m + (g - 1)) * u by rw [Nat.add_mul]; omega, Nat.add_mul_div_right _ _ g2, Nat.div_eq_of_lt (by omega), Nat.zero_add]
end Go.Proofs.YtpoofjnfaijjjaaGreatDoor.Do.Re
