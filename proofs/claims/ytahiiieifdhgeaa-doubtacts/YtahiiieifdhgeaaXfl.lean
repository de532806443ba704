/-
  Plain mathematics of float64's words: rungs and what they are worth, the order, the rounding (it rises; what the format has stays).
-/
import Derived.WalkKit
import Derived.WalkLawsBesides
namespace Go.Proofs.Ytahiiieifdhgeaa.Re

abbrev fm : Ieee.Format := FloatKind.f64.format
def B : Nat := 4503599627370496
def infR : Nat := 9218868437227405312
def S : Nat := 9223372036854775808
def rung (x : Nat) : Nat := x % S
def ng (x : Nat) : Bool := x / S % 2 == 1
def key (x : Nat) : Int := if ng x then -(rung x : Int) else rung x
def nan (x : Nat) : Bool := decide (infR < rung x)

/-- What a rung is worth, in units of the least number. -/
def V (r : Nat) : Nat := if r < B then r else (B + r % B) * 2 ^ (r / B - 1)

theorem V_at (d k : Nat) (h : k ≤ 2 * B) (h' : d = 0 ∨ B ≤ k) : V (d * B + k) = k * 2 ^ d := by
  unfold V
  have hB : B = 4503599627370496 := rfl
  by_cases h1 : k < B
  · have : d = 0 := by omega
    subst this
    rw [if_pos (by omega)]; simp
  · rw [if_neg (by have := Nat.zero_le (d * B); omega)]
    by_cases h2 : k = 2 * B
    · subst h2
      have e1 : (d * B + 2 * B) % B = 0 := by rw [← Nat.add_mul]; exact Nat.mul_mod_left _ _
      have e2 : (d * B + 2 * B) / B = d + 2 := by rw [← Nat.add_mul]; exact Nat.mul_div_cancel _ (by omega)
      rw [e1, e2, show d + 2 - 1 = d + 1 by omega, Nat.pow_succ, Nat.add_zero, Nat.mul_comm (2 ^ d) 2, ← Nat.mul_assoc, Nat.mul_comm B 2]
    · obtain ⟨j, rfl⟩ : ∃ j, k = B + j := ⟨k - B, by omega⟩
      have hj : j < B := by omega
      have e0 : d * B + (B + j) = j + (d + 1) * B := by rw [Nat.add_mul]; omega
      have e1 : (d * B + (B + j)) % B = j := by rw [e0, Nat.add_mul_mod_self_right]; exact Nat.mod_eq_of_lt hj
      have e2 : (d * B + (B + j)) / B = d + 1 := by rw [e0, Nat.add_mul_div_right _ _ (by omega), Nat.div_eq_of_lt hj]; omega
      rw [e1, e2, show d + 1 - 1 = d by omega]

/-- Each rung, in its binade. -/
theorem rung_split (r : Nat) : ∃ d k, r = d * B + k ∧ k < 2 * B ∧ (d = 0 ∨ B ≤ k) := by
  have hB : B = 4503599627370496 := rfl
  by_cases h : r < B
  · exact ⟨0, r, by simp, by omega, .inl rfl⟩
  · refine ⟨r / B - 1, B + r % B, ?_, ?_, .inr (by omega)⟩
    · have := Nat.div_add_mod r B
      have h1 : 1 ≤ r / B := (Nat.one_le_div_iff (by omega)).2 (by omega)
      obtain ⟨q, hq⟩ : ∃ q, r / B = q + 1 := ⟨r / B - 1, by omega⟩
      rw [hq] at this ⊢
      rw [Nat.mul_add, Nat.mul_one, Nat.mul_comm] at this
      rw [show q + 1 - 1 = q by omega]
      omega
    · have := Nat.mod_lt r (show 0 < B by omega); omega

theorem V_succ (r : Nat) : V r < V (r + 1) := by
  obtain ⟨d, k, rfl, hk, h⟩ := rung_split r
  rw [V_at d k (by omega) h, Nat.add_assoc, V_at d (k + 1) (by omega) (by omega), Nat.add_mul]
  have := Nat.two_pow_pos d
  omega
theorem V_zero : V 0 = 0 := rfl
theorem V_lt {a b : Nat} (h : a < b) : V a < V b := by
  obtain ⟨c, rfl⟩ : ∃ c, b = a + 1 + c := ⟨b - a - 1, by omega⟩
  clear h
  induction c with
  | zero => exact V_succ a
  | succ c ih => exact Nat.lt_trans ih (V_succ _)
theorem V_le {a b : Nat} (h : a ≤ b) : V a ≤ V b := by
  by_cases h' : a = b
  · rw [h']; exact Nat.le_refl _
  · exact Nat.le_of_lt (V_lt (by omega))
theorem le_of_V {a b : Nat} (h : V a ≤ V b) : a ≤ b := by
  by_cases h' : a ≤ b
  · exact h'
  · have := V_lt (show b < a by omega); omega
theorem lt_of_V {a b : Nat} (h : V a < V b) : a < b := by
  by_cases h' : a < b
  · exact h'
  · have := V_le (show b ≤ a by omega); omega
theorem V_inj {a b : Nat} (h : V a = V b) : a = b := Nat.le_antisymm (le_of_V (by omega)) (le_of_V (by omega))

/-! ## Reading -/
theorem fm_binade : fm.binade = B := rfl
theorem fm_sw : fm.signWeight = S := rfl
theorem fm_inf : fm.infRung = infR := by decide +kernel
theorem fm_least : fm.leastPlace = -1074 := by decide +kernel
theorem fm_fb : fm.fractionBits = 52 := rfl

theorem read_num (x : Nat) (h : rung x < infR) : ∃ m i, fm.read x = .number (ng x) m i ∧ -1074 ≤ i ∧ i ≤ 971 ∧ m < 2 * B ∧ m * 2 ^ (i + 1074).toNat = V (rung x) ∧ (B ≤ rung x → B ≤ m ∧ i = -1074 + (rung x / B - 1 : Nat)) := by
  have hB : B = 4503599627370496 := rfl
  have hI : infR = 9218868437227405312 := rfl
  unfold Ieee.Format.read
  rw [fm_binade, fm_sw, fm_inf, fm_least]
  show ∃ m i, (if rung x < B then Ieee.Datum.number (ng x) (rung x) (-1074) else if rung x < infR then Ieee.Datum.number (ng x) (B + rung x % B) (-1074 + ((rung x / B - 1 : Nat) : Int)) else if rung x = infR then .infinity (ng x) else .nan (ng x) (rung x - infR)) = _ ∧ _
  generalize rung x = r at *
  by_cases h1 : r < B
  · rw [if_pos h1]
    refine ⟨_, _, rfl, by omega, by omega, by omega, ?_, fun h2 => by omega⟩
    unfold V; rw [if_pos h1]; simp
  · rw [if_neg h1, if_pos h]
    have hm := Nat.mod_lt r (show 0 < B by omega)
    have hd : r / B ≤ 2046 := by rw [hB]; omega
    refine ⟨_, _, rfl, by omega, by omega, by omega, ?_, fun _ => ⟨by omega, rfl⟩⟩
    unfold V; rw [if_neg h1, show (-1074 + ((r / B - 1 : Nat) : Int) + 1074).toNat = r / B - 1 by omega]

theorem read_inf (x : Nat) (h : rung x = infR) : fm.read x = .infinity (ng x) := by
  unfold Ieee.Format.read
  rw [fm_binade, fm_sw, fm_inf, fm_least]
  show (if rung x < B then Ieee.Datum.number (ng x) (rung x) (-1074) else if rung x < infR then Ieee.Datum.number (ng x) (B + rung x % B) (-1074 + ((rung x / B - 1 : Nat) : Int)) else if rung x = infR then .infinity (ng x) else .nan (ng x) (rung x - infR)) = _
  rw [h, if_neg (by decide), if_neg (by decide), if_pos rfl]
theorem read_nan (x : Nat) (h : infR < rung x) : fm.read x = .nan (ng x) (rung x - infR) := by
  unfold Ieee.Format.read
  rw [fm_binade, fm_sw, fm_inf, fm_least]
  show (if rung x < B then Ieee.Datum.number (ng x) (rung x) (-1074) else if rung x < infR then Ieee.Datum.number (ng x) (B + rung x % B) (-1074 + ((rung x / B - 1 : Nat) : Int)) else if rung x = infR then .infinity (ng x) else .nan (ng x) (rung x - infR)) = _
  have hB : B = 4503599627370496 := rfl
  have hI : infR = 9218868437227405312 := rfl
  rw [if_neg (by omega), if_neg (by omega), if_neg (by omega)]

/-! ## The order -/
theorem compare_of (a b : Int) : compare a b = if a < b then .lt else if a = b then .eq else .gt := rfl
theorem compare_congr {a b c d : Int} (h : a < b ↔ c < d) (h' : a = b ↔ c = d) : compare a b = compare c d := by
  rw [compare_of, compare_of]
  by_cases h1 : c < d
  · rw [if_pos h1, if_pos (h.2 h1)]
  · rw [if_neg h1, if_neg (fun e => h1 (h.1 e))]
    by_cases h2 : c = d
    · rw [if_pos h2, if_pos (h'.2 h2)]
    · rw [if_neg h2, if_neg (fun e => h2 (h'.1 e))]

def sg (s : Bool) (n : Nat) : Int := if s then -(n : Int) else n
theorem key_sg (x : Nat) : key x = sg (ng x) (rung x) := rfl
theorem signed_eq (s : Bool) (m u : Nat) : Ieee.signed s m u = sg s (m * 2 ^ u) := by
  unfold Ieee.signed sg; rw [Nat.shiftLeft_eq]
theorem sg_mul (s : Bool) (n c : Nat) : sg s n * (c : Int) = sg s (n * c) := by
  unfold sg; cases s
  · simp
  · simp [Int.neg_mul]

theorem compare_mul (a b : Int) (c : Nat) (hc : 0 < c) : compare (a * (c : Int)) (b * (c : Int)) = compare a b :=
  compare_congr (Int.mul_lt_mul_right (by omega)) (Int.mul_eq_mul_right_iff (by omega))

theorem compare_sgV (s t : Bool) (a b : Nat) : compare (sg s (V a)) (sg t (V b)) = compare (sg s a) (sg t b) := by
  have h0 := V_zero
  have h1 : V a < V b ↔ a < b := ⟨lt_of_V, V_lt⟩
  have h2 : V b < V a ↔ b < a := ⟨lt_of_V, V_lt⟩
  have h3 : 0 < V a ↔ 0 < a := ⟨fun h => lt_of_V (by omega), fun h => by have := V_lt h; omega⟩
  have h4 : 0 < V b ↔ 0 < b := ⟨fun h => lt_of_V (by omega), fun h => by have := V_lt h; omega⟩
  unfold sg
  cases s <;> cases t <;> simp only [Bool.false_eq_true, if_true, if_false] <;> apply compare_congr <;> omega

theorem up_eq (m : Nat) (i b : Int) (h : b ≤ i) (hb : -1074 ≤ b) : m * 2 ^ (i - b).toNat * 2 ^ (b + 1074).toNat = m * 2 ^ (i + 1074).toNat := by
  rw [Nat.mul_assoc, ← Nat.pow_add]
  congr 2; omega

theorem order_eq (x y : Nat) : fm.order x y = if nan x || nan y then none else some (compare (key x) (key y)) := by
  unfold Ieee.Format.order nan
  have hI : infR = 9218868437227405312 := rfl
  by_cases hx : infR < rung x
  · rw [read_nan x hx]; simp [hx, Ieee.Datum.order]
  by_cases hy : infR < rung y
  · rw [read_nan y hy]; simp only [hy, decide_true, Bool.or_true, if_true]
    cases fm.read x <;> rfl
  simp only [hx, hy, decide_false, Bool.or_false, Bool.false_eq_true, if_false]
  rw [key_sg, key_sg]
  by_cases hx' : rung x = infR
  · rw [read_inf x hx']
    by_cases hy' : rung y = infR
    · rw [read_inf y hy', hx', hy']
      cases ng x <;> cases ng y <;> decide
    · obtain ⟨m, i, e, _⟩ := read_num y (by omega)
      rw [e, hx']
      simp only [Ieee.Datum.order, Option.some.injEq]
      rw [compare_of]
      unfold sg
      cases ng x <;> cases ng y <;> simp only [Bool.false_eq_true, if_true, if_false] <;> split <;> (try (first | rfl | (exfalso; omega))) <;> split <;> (first | rfl | (exfalso; omega))
  · obtain ⟨m, i, e, h1, _, _, h2, _⟩ := read_num x (by omega)
    rw [e]
    by_cases hy' : rung y = infR
    · rw [read_inf y hy', hy']
      simp only [Ieee.Datum.order, Option.some.injEq]
      rw [compare_of]
      unfold sg
      cases ng x <;> cases ng y <;> simp only [Bool.false_eq_true, if_true, if_false] <;> split <;> (try (first | rfl | (exfalso; omega))) <;> split <;> (first | rfl | (exfalso; omega))
    · obtain ⟨n, j, e', h3, _, _, h4, _⟩ := read_num y (by omega)
      rw [e']
      simp only [Ieee.Datum.order, Option.some.injEq]
      rw [signed_eq, signed_eq]
      have hb : -1074 ≤ min i j := by omega
      rw [← compare_mul _ _ (2 ^ (min i j + 1074).toNat) (Nat.two_pow_pos _), sg_mul, sg_mul, up_eq m i (min i j) (by omega) hb, up_eq n j (min i j) (by omega) hb, h2, h4]
      exact compare_sgV ..
end Go.Proofs.Ytahiiieifdhgeaa.Re
