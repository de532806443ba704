/-
  What '+', '*', '/', float64(n), uint64(x) and math.Ceil give of words that are not below nought, by rungs.
-/
import Derived.Test.YtpoofjnfaijjjaaGreatDoorMDXrn
namespace Go.Proofs.YtpoofjnfaijjjaaGreatDoor.Do.Re

theorem infR_lt_S : infR < S := by decide
theorem rung_pos {x : Nat} (h : x < S) : rung x = x := Nat.mod_eq_of_lt h
theorem ng_pos {x : Nat} (h : x < S) : ng x = false := by unfold ng; rw [Nat.div_eq_of_lt h]; rfl
theorem key_pos {x : Nat} (h : x < S) : key x = x := by unfold key; rw [ng_pos h, rung_pos h]; rfl
theorem nan_pos {x : Nat} (h : x ≤ infR) : nan x = false := by unfold nan; rw [rung_pos (by have := infR_lt_S; omega)]; simp; omega
theorem word_false (r : Nat) : fm.word false r = r := rfl

theorem order_pos {x y : Nat} (hx : x ≤ infR) (hy : y ≤ infR) : fm.order x y = some (compare (x : Int) (y : Int)) := by
  have := infR_lt_S
  rw [order_eq, nan_pos hx, nan_pos hy, key_pos (by omega), key_pos (by omega)]; rfl

theorem read_pos {x : Nat} (h : x < infR) : ∃ m i, fm.read x = .number false m i ∧ -1074 ≤ i ∧ i ≤ 971 ∧ m < 2 * B ∧ m * 2 ^ (i + 1074).toNat = V x ∧ (B ≤ x → B ≤ m ∧ i = -1074 + (x / B - 1 : Nat)) := by
  have := infR_lt_S
  have h1 := read_num x (by rw [rung_pos (by omega)]; exact h)
  rwa [rung_pos (by omega), ng_pos (by omega)] at h1

theorem mul_pos {x y : Nat} (hx : x < infR) (hy : y < infR) : fm.mul x y = some (min (rd (V x * V y * pw 1852)) infR) := by
  obtain ⟨m, i, e, i1, i2, _, v, _⟩ := read_pos hx
  obtain ⟨n, j, e', j1, j2, _, v', _⟩ := read_pos hy
  unfold Ieee.Format.mul
  rw [e, e']
  simp only [Ieee.Datum.product, Option.map_some, Ieee.Format.write, Bool.xor_self]
  rw [nearest_rd _ _ _ (by omega), word_false]
  congr 4
  unfold Q
  rw [← v, ← v', show m * 2 ^ (i + 1074).toNat * (n * 2 ^ (j + 1074).toNat) = m * n * (2 ^ (i + 1074).toNat * 2 ^ (j + 1074).toNat) from Nat.mul_mul_mul_comm .., Nat.mul_assoc (m * n), ← Nat.pow_add, ← pw_eq, ← pw_eq, pw_split _ 1852 _ rfl]
  congr 2; omega

theorem opp_num (s : Bool) (m : Nat) (i : Int) : (Ieee.Datum.number s m i).opposite = .number (!s) m i := rfl

theorem sub_pos {x y : Nat} (hx : x < infR) (h : y ≤ x) : fm.sub x y = some (rd ((V x - V y) * U)) ∧ rd ((V x - V y) * U) ≤ x := by
  have hle : rd ((V x - V y) * U) ≤ x := rd_le (Nat.mul_le_mul_right _ (Nat.sub_le _ _))
  refine ⟨?_, hle⟩
  obtain ⟨m, i, e, i1, i2, _, v, _⟩ := read_pos hx
  obtain ⟨n, j, e', j1, j2, _, v', _⟩ := read_pos (show y < infR by omega)
  have hV := V_le h
  unfold Ieee.Format.sub
  rw [e, e', opp_num]
  simp only [Ieee.Datum.sum, Option.map_some, Ieee.Format.write]
  rw [signed_eq, signed_eq]
  have hb : -1074 ≤ min i j := by omega
  have k1 := up_eq m i (min i j) (by omega) hb
  have k2 := up_eq n j (min i j) (by omega) hb
  rw [v] at k1; rw [v'] at k2
  generalize m * 2 ^ (i - min i j).toNat = a at *
  generalize n * 2 ^ (j - min i j).toNat = b at *
  have hz := Nat.two_pow_pos (min i j + 1074).toNat
  have hab : b ≤ a := by rw [← k1, ← k2] at hV; exact Nat.le_of_mul_le_mul_right hV hz
  have et : sg false a + sg (!false) b = ((a - b : Nat) : Int) := by simp [sg]; omega
  rw [et]
  have en : (if ((a - b : Nat) : Int) = 0 then (false && !false) else decide (((a - b : Nat) : Int) < 0)) = false := by split <;> simp
  rw [en, nearest_rd _ _ _ (by omega), word_false, Int.natAbs_natCast]
  have eq : Q (a - b) (min i j) = (V x - V y) * U := by
    unfold Q
    rw [← k1, ← k2, ← Nat.sub_mul, Nat.mul_assoc, ← pw_eq, ← pw_eq]
    congr 1
    exact (pw_split _ 2926 _ (by omega)).symm
  rw [eq, Nat.min_eq_left (by omega)]

def fi (n : Int) : Nat := rd (n.toNat * pw 4000)
theorem V_pow (e : Nat) : V ((1023 + e) * B) = 2 ^ e * pw 1074 := by
  rw [show (1023 + e) * B = (1022 + e) * B + B by rw [Nat.add_mul, Nat.add_mul]; have : B = 4503599627370496 := rfl; omega, V_at _ _ (by decide) (.inr (Nat.le_refl _)), show B = 2 ^ 52 from rfl, ← pw_eq, ← pw_eq, ← pw_eq, pw_split _ _ (1074 + e) (by omega), pw_split _ _ (1074 + e) (by omega)]
theorem fi_le (n : Int) (e : Nat) (h : n ≤ 2 ^ e) : fi n ≤ (1023 + e) * B := by
  unfold fi
  apply rd_le
  rw [V_pow, Nat.mul_assoc, U_1074]
  refine Nat.mul_le_mul_right _ ?_
  have h1 : ((2 ^ e : Nat) : Int) = 2 ^ e := by simp
  have h2 := Nat.two_pow_pos e
  rw [← h1] at h
  generalize 2 ^ e = z at *
  omega
theorem le_fi (n : Int) (e : Nat) (h : (2 : Int) ^ e ≤ n) : (1023 + e) * B ≤ fi n := by
  unfold fi
  apply le_rd
  rw [V_pow, Nat.mul_assoc, U_1074]
  refine Nat.mul_le_mul_right _ ?_
  have h1 : ((2 ^ e : Nat) : Int) = 2 ^ e := by simp
  have h2 := Nat.two_pow_pos e
  rw [← h1] at h
  generalize 2 ^ e = z at *
  omega
theorem fi_mono {n m : Int} (h : n ≤ m) : fi n ≤ fi m := rd_mono (Nat.mul_le_mul_right _ (by omega))
theorem floatOfInt_eq (n : Int) (h0 : 0 ≤ n) (h : n < 18446744073709551616) : floatOfInt .f64 n = fi n := by
  have hlt : fi n < infR := Nat.lt_of_le_of_lt (fi_le n 64 (by omega)) (by decide)
  have : ¬ n < 0 := by omega
  show fm.nearest (decide (n < 0)) n.natAbs 0 = _
  rw [nearest_rd _ _ _ (by omega), decide_eq_false this, word_false]
  have e : Q n.natAbs 0 = n.toNat * pw 4000 := by unfold Q; rw [← pw_eq]; congr 1; omega
  rw [e]; exact Nat.min_eq_left (Nat.le_of_lt hlt)
theorem V_fi (n : Int) (h0 : 0 ≤ n) (h : n < 9007199254740992) : V (fi n) = n.toNat * pw 1074 :=
  (V_rd_whole n.toNat (by show n.toNat < 9007199254740992; omega)).1

/-! ## The quotient -/
def gq (D n : Nat) : Nat := 2 * (D / n) + (D % n != 0).toNat
theorem gq_mono {D E n : Nat} (h : D ≤ E) : gq D n ≤ gq E n := by
  unfold gq
  have h1 := Nat.div_add_mod D n
  have h2 := Nat.div_add_mod E n
  have h3 := Nat.div_le_div_right (c := n) h
  have b : ∀ z : Nat, (z != 0).toNat = if z = 0 then 0 else 1 := fun z => by by_cases h : z = 0 <;> simp [h]
  rw [b, b]
  by_cases e : D / n = E / n
  · rw [e] at h1
    rw [e]
    split <;> split <;> omega
  · split <;> split <;> omega
theorem gq_two {D E n : Nat} (hn : 0 < n) (hn' : n < 9007199254740992) (h : D + 18014398509481984 ≤ 2 * E) : gq D n ≤ 2 * gq E n := by
  unfold gq
  have h1 := Nat.div_add_mod D n
  have h2 := Nat.div_add_mod E n
  have h3 := Nat.mod_lt E hn
  have b : ∀ z : Nat, (z != 0).toNat ≤ 1 := fun z => by cases (z != 0) <;> simp
  have bD := b (D % n)
  have key : D / n + 1 ≤ 2 * (E / n) := by
    by_cases hh : D / n + 1 ≤ 2 * (E / n)
    · exact hh
    · exfalso
      have : n * (2 * (E / n)) ≤ n * (D / n) := Nat.mul_le_mul_left _ (by omega)
      rw [show n * (2 * (E / n)) = 2 * (n * (E / n)) from Nat.mul_left_comm ..] at this
      omega
  omega

def dq (x y : Nat) : Nat := gq ((B + x % B) * 18014398509481984) (B + y % B) * 2 ^ ((x / B : Nat) - (y / B : Nat) + 3945 : Int).toNat

theorem norm_m {x m : Nat} {i : Int} (hx : B ≤ x) (h : m * 2 ^ (i + 1074).toNat = V x) (hi : i = -1074 + (x / B - 1 : Nat)) : m = B + x % B := by
  unfold V at h
  rw [if_neg (by omega), hi, show (-1074 + ((x / B - 1 : Nat) : Int) + 1074).toNat = x / B - 1 by omega] at h
  exact Nat.eq_of_mul_eq_mul_right (Nat.two_pow_pos _) h

theorem log2_norm {m : Nat} (h : B ≤ m) (h' : m < 2 * B) : m.log2 = 52 := by
  have : B = 4503599627370496 := rfl
  exact (Nat.log2_eq_iff (by omega)).2 ⟨h, h'⟩

theorem div_pos {x y : Nat} (hx : x < infR) (hx' : B ≤ x) (hy : y < infR) (hy' : B ≤ y) : fm.div x y = some (min (rd (dq x y)) infR) := by
  have hB : B = 4503599627370496 := rfl
  have hI : infR = 9218868437227405312 := rfl
  obtain ⟨m, i, e, i1, i2, m2, v, nm⟩ := read_pos hx
  obtain ⟨n, j, e', j1, j2, n2, v', nn⟩ := read_pos hy
  have hm := norm_m hx' v (nm hx').2
  have hn := norm_m hy' v' (nn hy').2
  have lm := log2_norm (nm hx').1 m2
  have ln := log2_norm (nn hy').1 n2
  have hi := (nm hx').2
  have hj := (nn hy').2
  unfold Ieee.Format.div
  rw [e, e', fm_fb]
  simp only [Ieee.Datum.quotient]
  rw [if_neg (by omega)]
  simp only [Option.map_some, Ieee.Format.write, Bool.xor_self]
  rw [lm, ln, Nat.shiftLeft_eq]
  have hd1 : 1 ≤ x / B := (Nat.one_le_div_iff (by omega)).2 hx'
  have hd2 : 1 ≤ y / B := (Nat.one_le_div_iff (by omega)).2 hy'
  have hd3 : x / B ≤ 2046 := by rw [hB]; omega
  have hd4 : y / B ≤ 2046 := by rw [hB]; omega
  have hex : (i - j - ((52 + 2 + 52 - 52 : Nat) : Int) - 1 + 4000).toNat = (((x / B : Nat) : Int) - ((y / B : Nat) : Int) + 3945).toNat := by
    generalize x / B = a at *
    generalize y / B = b at *
    omega
  have hq : Q (2 * (m * 2 ^ (52 + 2 + 52 - 52) / n) + (m * 2 ^ (52 + 2 + 52 - 52) % n != 0).toNat) (i - j - ((52 + 2 + 52 - 52 : Nat) : Int) - 1) = dq x y := by
    unfold Q dq gq
    rw [hex, hm, hn]
  rw [nearest_rd _ _ _ (by omega), word_false, hq]

theorem dq_mono {x x' y : Nat} (h : x ≤ x') (hx' : x' < infR) (hy : y < infR) : dq x y ≤ dq x' y := by
  have hB : B = 4503599627370496 := rfl
  have hI : infR = 9218868437227405312 := rfl
  unfold dq
  have d1 : x / B ≤ x' / B := Nat.div_le_div_right h
  have d2 : x' / B ≤ 2046 := by rw [hB]; omega
  have d3 : y / B ≤ 2046 := by rw [hB]; omega
  have a1 := Nat.div_add_mod x B
  have a2 := Nat.div_add_mod x' B
  have m1 := Nat.mod_lt x (show 0 < B by omega)
  have m2 := Nat.mod_lt x' (show 0 < B by omega)
  have m3 := Nat.mod_lt y (show 0 < B by omega)
  generalize x / B = a at *
  generalize x' / B = a' at *
  generalize y / B = b at *
  generalize x % B = r at *
  generalize x' % B = r' at *
  generalize y % B = t at *
  by_cases e : a = a'
  · rw [e]
    refine Nat.mul_le_mul_right _ (gq_mono (Nat.mul_le_mul_right _ ?_))
    rw [e] at a1; omega
  · have g := gq_two (D := (B + r) * 18014398509481984) (E := (B + r') * 18014398509481984) (n := B + t) (by omega) (by omega) (by omega)
    have p : 2 ^ ((a : Int) - (b : Int) + 3945 : Int).toNat * 2 ≤ 2 ^ ((a' : Int) - (b : Int) + 3945 : Int).toNat := by
      rw [← Nat.pow_succ]; exact Nat.pow_le_pow_right (by omega) (by omega)
    calc gq _ _ * 2 ^ ((a : Int) - (b : Int) + 3945 : Int).toNat ≤ 2 * gq ((B + r') * 18014398509481984) (B + t) * 2 ^ ((a : Int) - (b : Int) + 3945 : Int).toNat := Nat.mul_le_mul_right _ g
      _ = gq ((B + r') * 18014398509481984) (B + t) * (2 ^ ((a : Int) - (b : Int) + 3945 : Int).toNat * 2) := by
        rw [Nat.mul_comm 2, Nat.mul_assoc, Nat.mul_comm 2]
      _ ≤ _ := Nat.mul_le_mul_left _ p

theorem dq_same (y : Nat) : dq y y = pw 4000 := by
  unfold dq gq
  have hB : B = 4503599627370496 := rfl
  rw [Nat.mul_div_cancel_left _ (by omega), Nat.mul_mod_right]
  have gen : ∀ k, (2 * 18014398509481984 + ((0 : Nat) != 0).toNat) * 2 ^ k = pw (55 + k) := by
    intro k
    rw [← pw_eq k, ← pw_split 55 k _ rfl, pw_eq 55]; rfl
  rw [gen]
  congr 1; omega

def one : Nat := 1023 * B
theorem rd_one : rd (pw 4000) = one := by
  have := rd_exact one
  rw [show one = (1023 + 0) * B from rfl, V_pow, Nat.pow_zero, Nat.one_mul, U_1074] at this
  exact this
theorem dq_le_one {x y : Nat} (h : x ≤ y) (hy : y < infR) : rd (dq x y) ≤ one := by
  rw [← rd_one, ← dq_same y]; exact rd_mono (dq_mono h hy hy)

/-! ## Whole numbers -/
theorem cut_zero (s : Bool) (n d : Nat) : Ieee.Toward.zero.cut s n d = n / 2 ^ d := by
  unfold Ieee.Toward.cut
  rw [Nat.one_shiftLeft]
  dsimp only
  rw [Bool.toNat_false, Nat.add_zero]
  by_cases h : d ≤ n.log2 + 2
  · rw [Nat.min_eq_left h]
  · have h0 : n < 2 ^ (n.log2 + 1) := Nat.lt_log2_self
    rw [Nat.min_eq_right (by omega), Nat.div_eq_of_lt (Nat.lt_of_lt_of_le h0 (Nat.pow_le_pow_right (by omega) (by omega))), Nat.div_eq_of_lt (Nat.lt_of_lt_of_le h0 (Nat.pow_le_pow_right (by omega) (by omega)))]
theorem cut_up (n d : Nat) : Ieee.Toward.up.cut false n d = (n + (2 ^ d - 1)) / 2 ^ d := by
  have gen : ∀ g : Nat, 0 < g → (n + (g - 1)) / g = n / g + (!false && n % g != 0).toNat := by
    intro g hg
    have h1 := Nat.div_add_mod n g
    have h2 := Nat.mod_lt n hg
    have b : (!false && n % g != 0).toNat = if n % g = 0 then 0 else 1 := by by_cases h : n % g = 0 <;> simp [h]
    rw [b, Nat.mul_comm] at *
    refine Nat.div_eq_of_lt_le ?_ ?_
    · split
      · rw [Nat.add_zero]; omega
      · rw [Nat.add_mul]; omega
    · split
      · simp only [Nat.add_zero]; rw [Nat.succ_mul]; omega
      · rw [Nat.succ_mul, Nat.add_mul]; omega
  unfold Ieee.Toward.cut
  rw [Nat.one_shiftLeft]
  dsimp only
  by_cases h : d ≤ n.log2 + 2
  · rw [Nat.min_eq_left h, gen _ (Nat.two_pow_pos _)]
  · have h0 : n < 2 ^ (n.log2 + 1) := Nat.lt_log2_self
    have e1 : n < 2 ^ (n.log2 + 2) := Nat.lt_of_lt_of_le h0 (Nat.pow_le_pow_right (by omega) (by omega))
    have e2 : n < 2 ^ d := Nat.lt_of_lt_of_le h0 (Nat.pow_le_pow_right (by omega) (by omega))
    rw [Nat.min_eq_right (by omega), gen _ (Nat.two_pow_pos _), Nat.div_eq_of_lt e1, Nat.div_eq_of_lt e2, Nat.mod_eq_of_lt e1, Nat.mod_eq_of_lt e2]

/-- What is cut off, and what is rounded up. -/
def flo (x : Nat) : Nat := V x / pw 1074
def cei (x : Nat) : Nat := (V x + (pw 1074 - 1)) / pw 1074

theorem toInt_pos {x : Nat} (h : x < infR) : (fm.read x).toInt .zero = some (flo x : Int) := by
  obtain ⟨m, i, e, i1, i2, _, v, _⟩ := read_pos h
  rw [e]
  simp only [Ieee.Datum.toInt, Ieee.Datum.integral]
  rw [signed_eq, cut_zero, Nat.shiftLeft_eq]
  show some (((m * 2 ^ i.toNat / 2 ^ (-i).toNat * 2 ^ 0 : Nat)) : Int) = _
  rw [Nat.pow_zero, Nat.mul_one]
  congr 2
  unfold flo
  rw [← v, pw_eq]
  by_cases hi : 0 ≤ i
  · rw [show (i + 1074).toNat = i.toNat + 1074 by omega, Nat.pow_add, ← Nat.mul_assoc, show (-i).toNat = 0 by omega, Nat.pow_zero, Nat.div_one, ← pw_eq 1074, Nat.mul_div_cancel _ (pw_pos _)]
  · have : 2 ^ (-i).toNat * 2 ^ (i + 1074).toNat = pw 1074 := by rw [← pw_eq, ← pw_eq]; exact pw_split _ _ _ (by omega)
    rw [← pw_eq 1074, ← this, Nat.mul_div_mul_right _ _ (Nat.two_pow_pos _), show i.toNat = 0 by omega, Nat.pow_zero, Nat.mul_one]

theorem ceil_pos {x : Nat} (h : x < infR) : ∃ c, (fm.read x).integral .up = .number false c 0 ∧ c = cei x := by
  obtain ⟨m, i, e, i1, i2, _, v, _⟩ := read_pos h
  rw [e]
  refine ⟨_, rfl, ?_⟩
  rw [cut_up, Nat.shiftLeft_eq]
  unfold cei
  rw [← v]
  by_cases hi : 0 ≤ i
  · have hp := pw_pos 1074
    rw [show (i + 1074).toNat = i.toNat + 1074 by omega, Nat.pow_add, ← Nat.mul_assoc, show (-i).toNat = 0 by omega, Nat.pow_zero, Nat.div_one, ← pw_eq 1074, Nat.add_comm (_ * pw 1074), Nat.add_mul_div_right _ _ hp, Nat.div_eq_of_lt (by omega)]
    omega
  · have e2 : 2 ^ (-i).toNat * 2 ^ (i + 1074).toNat = pw 1074 := by rw [← pw_eq, ← pw_eq]; exact pw_split _ _ _ (by omega)
    rw [show i.toNat = 0 by omega, Nat.pow_zero, Nat.mul_one, ← e2]
    have g1 := Nat.two_pow_pos (-i).toNat
    have g2 := Nat.two_pow_pos (i + 1074).toNat
    generalize 2 ^ (-i).toNat = g at *
    generalize 2 ^ (i + 1074).toNat = u at *
    rw [Nat.mul_comm g u, ← Nat.div_div_eq_div_mul]
    congr 1
    have : u * g - 1 = (u - 1) + (g - 1) * u := by
      rw [Nat.sub_mul, Nat.one_mul, Nat.mul_comm g u]
      have : u ≤ u * g := Nat.le_mul_of_pos_right _ g1
      omega
    rw [this, show m * u + (u - 1 + (g - 1) * u) = (u - 1) + (m + (g - 1)) * u by rw [Nat.add_mul]; omega, Nat.add_mul_div_right _ _ g2, Nat.div_eq_of_lt (by omega), Nat.zero_add]
end Go.Proofs.YtpoofjnfaijjjaaGreatDoor.Do.Re
