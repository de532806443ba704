/-
  Plain mathematics of bands: the nodes of a number below 2^64, what is told of them as plain functions, the least bit taken off, the count of bits by masks. No program is known here.
-/
import Derived.Lib.TrailingZeros
namespace Go.Proofs.YtlbeincgknmijaaDoor.Ro.Bnd
open Go

abbrev lim : Nat := 18446744073709551616

/-! ## What is answered, as plain functions -/

/-- The nodes of b, rising. -/
def nodesS (b : Nat) : List Nat := (List.range 64).filter (fun i => b.testBit i)
def lst (b : Nat) : List Int := (nodesS b).map (fun (i : Nat) => (i : Int))
def nodeS (n : Int) : Bool := decide (0 ≤ n) && decide (n < 64)
def bitS (n : Int) : Nat := if nodeS n then 2 ^ n.toNat else 0
def hasS (b : Nat) (n : Int) : Bool := nodeS n && b.testBit n.toNat
def withS (b : Nat) (n : Int) : Nat := b ||| bitS n
def lessS (b : Nat) (n : Int) : Nat := if hasS b n then b - 2 ^ n.toNat else b
def manyS (b : Nat) : Nat := (nodesS b).length
def firstS (b : Nat) : Int × Bool := match lst b with | [] => (0, false) | x :: _ => (x, true)
def nextS (b : Nat) (n : Int) : Int × Bool := match (lst b).find? (fun k => decide (n < k)) with | some k => (k, true) | none => firstS b
def placeS (b : Nat) (n : Int) : Nat := ((lst b).filter (fun k => decide (k < n))).length
def majorS (b o : Nat) : Bool := decide (manyS o < 2 * manyS (b &&& o))
def ofS (l : List Int) : Nat := l.foldl withS 0

theorem nodeS_iff (n : Int) : nodeS n = true ↔ 0 ≤ n ∧ n < 64 := by simp [nodeS]
theorem bitS_lt (n : Int) : bitS n < lim := by
  unfold bitS
  split
  · rename_i h
    obtain ⟨h1, h2⟩ := (nodeS_iff n).1 h
    have : 2 ^ n.toNat ≤ 2 ^ 63 := Nat.pow_le_pow_right (by decide) (by omega)
    exact Nat.lt_of_le_of_lt this (by decide)
  · decide
theorem withS_lt {b : Nat} (h : b < lim) (n : Int) : withS b n < lim := Nat.or_lt_two_pow (n := 64) h (bitS_lt n)
theorem lessS_lt {b : Nat} (h : b < lim) (n : Int) : lessS b n < lim := by
  unfold lessS; split
  · exact Nat.lt_of_le_of_lt (Nat.sub_le _ _) h
  · exact h
theorem and_lt {a b : Nat} (h : a < lim) : a &&& b < lim := Nat.lt_of_le_of_lt Nat.and_le_left h
theorem ofS_lt (l : List Int) : ofS l < lim := by
  unfold ofS
  suffices ∀ b, b < lim → l.foldl withS b < lim from this 0 (by decide)
  induction l with
  | nil => intro b h; exact h
  | cons x r ih => intro b h; exact ih _ (withS_lt h x)
theorem testBit_ge {b : Nat} (h : b < lim) {i : Nat} (hi : 64 ≤ i) : b.testBit i = false :=
  Nat.testBit_lt_two_pow (Nat.lt_of_lt_of_le h (Nat.pow_le_pow_right (n := 2) (by decide) hi))
theorem eq_of_bits {a b : Nat} (ha : a < lim) (hb : b < lim) (h : ∀ i, i < 64 → a.testBit i = b.testBit i) : a = b := by
  refine Nat.eq_of_testBit_eq fun i => ?_
  by_cases hi : i < 64
  · exact h i hi
  · rw [testBit_ge ha (by omega), testBit_ge hb (by omega)]

theorem mem_nodes {b i : Nat} : i ∈ nodesS b ↔ i < 64 ∧ b.testBit i = true := by simp [nodesS]
theorem mem_lst {b : Nat} {x : Int} : x ∈ lst b ↔ hasS b x = true := by
  unfold lst hasS
  constructor
  · intro h
    obtain ⟨i, hi, rfl⟩ := List.mem_map.1 h
    obtain ⟨h1, h2⟩ := mem_nodes.1 hi
    have : nodeS (i : Int) = true := (nodeS_iff _).2 ⟨by omega, by omega⟩
    simp [this, h2]
  · intro h
    rw [Bool.and_eq_true, nodeS_iff] at h
    exact List.mem_map.2 ⟨x.toNat, mem_nodes.2 ⟨by omega, h.2⟩, by omega⟩
theorem lst_range {b : Nat} {x : Int} (h : x ∈ lst b) : 0 ≤ x ∧ x < 64 := by
  have := mem_lst.1 h
  unfold hasS at this
  rw [Bool.and_eq_true, nodeS_iff] at this
  exact this.1
theorem lst_length (b : Nat) : (lst b).length = manyS b := by simp [lst, manyS]
theorem many_le (b : Nat) : manyS b ≤ 64 := by
  have := List.length_filter_le (fun i => b.testBit i) (List.range 64)
  simpa [manyS, nodesS] using this
theorem nodes_sorted (b : Nat) : (nodesS b).Pairwise (· < ·) := List.Pairwise.filter _ List.pairwise_lt_range
theorem lst_sorted (b : Nat) : (lst b).Pairwise (· < ·) := by
  unfold lst
  rw [List.pairwise_map]
  exact (nodes_sorted b).imp fun h => by omega
theorem testBit_bitS (n : Int) (i : Nat) : (bitS n).testBit i = (nodeS n && decide (n.toNat = i)) := by
  unfold bitS
  split
  · rename_i h; rw [h, Nat.testBit_two_pow]; simp
  · rename_i h
    rw [Bool.not_eq_true] at h
    rw [h]; simp
theorem testBit_withS (b : Nat) (n : Int) (i : Nat) : (withS b n).testBit i = (b.testBit i || (nodeS n && decide (n.toNat = i))) := by
  unfold withS; rw [Nat.testBit_or, testBit_bitS]

/-! ## The least bit -/

theorem split_low {x : Nat} (h0 : x ≠ 0) (hx : x < lim) : ∃ k m, Lib.ctz 64 x = k ∧ x = 2 ^ k * (2 * m + 1) ∧ k < 64 := by
  obtain ⟨m, hm, hk⟩ := Lib.ctzFrom_spec 64 x (by omega) hx
  refine ⟨_, m, by unfold Lib.ctz; rw [if_neg h0], hm, hk⟩
theorem testBit_low (k m i : Nat) : (2 ^ k * (2 * m + 1)).testBit i = (decide (k ≤ i) && (2 * m + 1).testBit (i - k)) := by
  rw [Nat.mul_comm, Nat.testBit_mul_two_pow]
theorem testBit_pred (k m i : Nat) : (2 ^ k * (2 * m + 1) - 1).testBit i = if i < k then true else (2 * m).testBit (i - k) := by
  have hp := Nat.two_pow_pos k
  have e : 2 ^ k * (2 * m + 1) - 1 = 2 ^ k * (2 * m) + (2 ^ k - 1) := by
    rw [Nat.mul_add]; omega
  rw [e, Nat.testBit_two_pow_mul_add _ (by omega)]
  split
  · rename_i h; rw [Nat.testBit_two_pow_sub_one]; simp [h]
  · rfl
theorem testBit_off (k m i : Nat) : (2 ^ k * (2 * m + 1) &&& (2 ^ k * (2 * m + 1) - 1)).testBit i = ((2 ^ k * (2 * m + 1)).testBit i && decide (i ≠ k)) := by
  rw [Nat.testBit_and, testBit_pred, testBit_low]
  by_cases h1 : i < k
  · have : ¬ k ≤ i := by omega
    simp [h1, this]
  · have h2 : k ≤ i := by omega
    rw [if_neg h1]
    simp only [h2, decide_true, Bool.true_and]
    by_cases h3 : i = k
    · subst h3; simp
    · obtain ⟨j, hj⟩ : ∃ j, i - k = j + 1 := ⟨i - k - 1, by omega⟩
      rw [hj, Nat.testBit_succ, Nat.testBit_succ]
      have d1 : (2 * m + 1) / 2 = m := by omega
      have d2 : 2 * m / 2 = m := by omega
      rw [d1, d2]; simp [h3]
/-- The least node, and the rest. -/
theorem nodes_step {x : Nat} (h0 : x ≠ 0) (hx : x < lim) : nodesS x = Lib.ctz 64 x :: nodesS (x &&& (x - 1)) := by
  obtain ⟨k, m, e, rfl, hk⟩ := split_low h0 hx
  rw [e]
  have hr : List.range 64 = List.range k ++ k :: List.range' (k + 1) (63 - k) := by
    rw [List.range_eq_range', List.range_eq_range', show (64 : Nat) = k + (1 + (63 - k)) by omega, ← List.range'_append_1, ← List.range'_append_1]
    simp
  have hz : ∀ (p : Nat → Bool), (∀ i, i < k → p i = false) → (List.range k).filter p = [] := by
    intro p hp
    rw [List.filter_eq_nil_iff]
    intro a ha
    rw [hp a (List.mem_range.1 ha)]; decide
  unfold nodesS
  rw [hr, List.filter_append, List.filter_append, List.filter_cons, List.filter_cons]
  rw [hz _ (fun i hi => by rw [testBit_low]; have : ¬ k ≤ i := by omega
                           simp [this]), hz _ (fun i hi => by rw [testBit_off, testBit_low]; have : ¬ k ≤ i := by omega
                                                              simp [this])]
  have hk1 : (2 ^ k * (2 * m + 1)).testBit k = true := by rw [testBit_low]; simp
  have hk2 : (2 ^ k * (2 * m + 1) &&& (2 ^ k * (2 * m + 1) - 1)).testBit k = false := by rw [testBit_off]; simp
  rw [if_pos hk1, hk2]
  simp only [Bool.false_eq_true, if_false, List.nil_append, List.cons.injEq, true_and]
  refine List.filter_congr fun i hi => ?_
  have := List.mem_range'_1.1 hi
  rw [testBit_off]
  have : i ≠ k := by omega
  simp [this]
theorem nodes_zero : nodesS 0 = [] := by decide
theorem nodes_nil {x : Nat} (hx : x < lim) : nodesS x = [] ↔ x = 0 := by
  constructor
  · intro h
    by_cases h0 : x = 0
    · exact h0
    · rw [nodes_step h0 hx] at h; cases h
  · intro h; rw [h]; exact nodes_zero
theorem lst_step {x : Nat} (h0 : x ≠ 0) (hx : x < lim) : lst x = (Lib.ctz 64 x : Int) :: lst (x &&& (x - 1)) := by
  unfold lst; rw [nodes_step h0 hx]; rfl
theorem lst_zero : lst 0 = [] := by unfold lst; rw [nodes_zero]; rfl
theorem lst_nil {x : Nat} (hx : x < lim) : lst x = [] ↔ x = 0 := by
  unfold lst; rw [List.map_eq_nil_iff]; exact nodes_nil hx

/-! ## How many bits, by masks -/

/-- Digits of s bits. -/
def val (s : Nat) : List Nat → Nat
  | [] => 0
  | d :: r => d + 2 ^ s * val s r
def pairs : List Nat → List Nat
  | a :: b :: r => (a + b) :: pairs r
  | _ => []
def mask (s : Nat) : Nat → Nat
  | 0 => 0
  | k + 1 => (2 ^ s - 1) + 2 ^ (2 * s) * mask s k

theorem and_split {t a b : Nat} (x y : Nat) (ha : a < 2 ^ t) (hb : b < 2 ^ t) : (a + 2 ^ t * x) &&& (b + 2 ^ t * y) = (a &&& b) + 2 ^ t * (x &&& y) := by
  refine Nat.eq_of_testBit_eq fun i => ?_
  have hab : a &&& b < 2 ^ t := Nat.lt_of_le_of_lt Nat.and_le_left ha
  rw [Nat.testBit_and, Nat.add_comm a, Nat.add_comm b, Nat.add_comm (a &&& b), Nat.testBit_two_pow_mul_add _ ha, Nat.testBit_two_pow_mul_add _ hb, Nat.testBit_two_pow_mul_add _ hab]
  split <;> simp [Nat.testBit_and]
theorem and_low {s a x : Nat} (k : Nat) (ha : a < 2 ^ (2 * s)) : (a + 2 ^ (2 * s) * x) &&& mask s (k + 1) = a % 2 ^ s + 2 ^ (2 * s) * (x &&& mask s k) := by
  have hp := Nat.two_pow_pos s
  have hq : 2 ^ s ≤ 2 ^ (2 * s) := Nat.pow_le_pow_right (by decide) (by omega)
  rw [show mask s (k + 1) = (2 ^ s - 1) + 2 ^ (2 * s) * mask s k from rfl, and_split _ _ ha (by omega), Nat.and_two_pow_sub_one_eq_mod]
theorem two_mul_pow (s : Nat) : 2 ^ (2 * s) = 2 ^ s * 2 ^ s := by rw [Nat.two_mul, Nat.pow_add]
/-- Both of a pair, side by side. -/
theorem mask_lo (s : Nat) : ∀ (k : Nat) (l : List Nat), l.length = 2 * k → (∀ d ∈ l, d < 2 ^ s) → ((val s l / 2 ^ s) &&& mask s k) + (val s l &&& mask s k) = val (2 * s) (pairs l)
  | 0, l, hl, _ => by
    have : l = [] := List.length_eq_zero_iff.1 (by omega)
    subst this; simp [val, pairs, mask]
  | k + 1, [], hl, _ => by simp at hl
  | k + 1, [_], hl, _ => by simp at hl; omega
  | k + 1, a :: b :: r, hl, hd => by
    have hp := Nat.two_pow_pos s
    have ha := hd a (by simp)
    have hb := hd b (by simp)
    have ih := mask_lo s k r (by simp at hl; omega) (fun d h => hd d (by simp [h]))
    have e1 : val s (a :: b :: r) = (a + 2 ^ s * b) + 2 ^ (2 * s) * val s r := by
      simp only [val]; rw [two_mul_pow, Nat.mul_add, Nat.mul_assoc, Nat.add_assoc]
    have e2 : val s (a :: b :: r) / 2 ^ s = (b + 2 ^ s * (val s r % 2 ^ s)) + 2 ^ (2 * s) * (val s r / 2 ^ s) := by
      simp only [val]
      rw [Nat.add_mul_div_left _ _ hp, Nat.div_eq_of_lt ha, Nat.zero_add]
      have := Nat.mod_add_div (val s r) (2 ^ s)
      rw [two_mul_pow, Nat.add_assoc, Nat.mul_assoc, ← Nat.mul_add, this]
    have h1 : a + 2 ^ s * b < 2 ^ (2 * s) := by
      rw [two_mul_pow]
      have : 2 ^ s * b ≤ 2 ^ s * (2 ^ s - 1) := Nat.mul_le_mul_left _ (by omega)
      have e : 2 ^ s * (2 ^ s - 1) = 2 ^ s * 2 ^ s - 2 ^ s := by rw [Nat.mul_sub, Nat.mul_one]
      have : 2 ^ s ≤ 2 ^ s * 2 ^ s := Nat.le_mul_of_pos_left _ hp
      omega
    have h2 : b + 2 ^ s * (val s r % 2 ^ s) < 2 ^ (2 * s) := by
      rw [two_mul_pow]
      have hm := Nat.mod_lt (val s r) hp
      have : 2 ^ s * (val s r % 2 ^ s) ≤ 2 ^ s * (2 ^ s - 1) := Nat.mul_le_mul_left _ (by omega)
      have e : 2 ^ s * (2 ^ s - 1) = 2 ^ s * 2 ^ s - 2 ^ s := by rw [Nat.mul_sub, Nat.mul_one]
      have : 2 ^ s ≤ 2 ^ s * 2 ^ s := Nat.le_mul_of_pos_left _ hp
      omega
    rw [e2, e1, and_low k h1, and_low k h2, Nat.add_mul_mod_self_left, Nat.add_mul_mod_self_left, Nat.mod_eq_of_lt ha, Nat.mod_eq_of_lt hb]
    simp only [pairs, val]
    rw [← ih, Nat.mul_add]
    omega
/-- The pair's sum at once, where it fits. -/
theorem mask_sum : ∀ (k : Nat) (l : List Nat), l.length = 2 * k → (∀ d ∈ l, d ≤ 4) → ((val 4 l / 16 + val 4 l) &&& mask 4 k) = val 8 (pairs l)
  | 0, l, hl, _ => by
    have : l = [] := List.length_eq_zero_iff.1 (by omega)
    subst this; simp [val, pairs, mask]
  | k + 1, [], hl, _ => by simp at hl
  | k + 1, [_], hl, _ => by simp at hl; omega
  | k + 1, a :: b :: r, hl, hd => by
    have ha := hd a (by simp)
    have hb := hd b (by simp)
    have ih := mask_sum k r (by simp at hl; omega) (fun d h => hd d (by simp [h]))
    have hm : val 4 r % 16 ≤ 4 := by
      cases r with
      | nil => simp [val]
      | cons c r => have := hd c (by simp); simp only [val]; omega
    have e1 : val 4 (a :: b :: r) / 16 + val 4 (a :: b :: r) = ((a + b) + 16 * (b + val 4 r % 16)) + 2 ^ (2 * 4) * (val 4 r / 16 + val 4 r) := by
      simp only [val]; omega
    rw [e1, and_low k (by omega), ih]
    simp only [pairs, val]
    omega
theorem pairs_length : ∀ (k : Nat) (l : List Nat), l.length = 2 * k → (pairs l).length = k
  | 0, l, hl => by
    have : l = [] := List.length_eq_zero_iff.1 (by omega)
    subst this; rfl
  | k + 1, [], hl => by simp at hl
  | k + 1, [_], hl => by simp at hl; omega
  | k + 1, a :: b :: r, hl => by simp [pairs, pairs_length k r (by simp at hl; omega)]
theorem pairs_sum : ∀ (k : Nat) (l : List Nat), l.length = 2 * k → (pairs l).sum = l.sum
  | 0, l, hl => by
    have : l = [] := List.length_eq_zero_iff.1 (by omega)
    subst this; rfl
  | k + 1, [], hl => by simp at hl
  | k + 1, [_], hl => by simp at hl; omega
  | k + 1, a :: b :: r, hl => by simp [pairs, pairs_sum k r (by simp at hl; omega)]; omega
theorem pairs_le {c : Nat} : ∀ (l : List Nat), (∀ d ∈ l, d ≤ c) → ∀ d ∈ pairs l, d ≤ 2 * c
  | [], _ => by simp [pairs]
  | [_], _ => by simp [pairs]
  | a :: b :: r, h => by
    intro d hd
    simp only [pairs, List.mem_cons] at hd
    have ha := h a (by simp)
    have hb := h b (by simp)
    rcases hd with rfl | hd
    · omega
    · exact pairs_le r (fun d h' => h d (by simp [h'])) d hd

/-- The bits of x from i on, so many. -/
def bitsFrom (x : Nat) : Nat → List Nat
  | 0 => []
  | n + 1 => x % 2 :: bitsFrom (x / 2) n
theorem val_bits : ∀ (n x : Nat), x < 2 ^ n → val 1 (bitsFrom x n) = x
  | 0, x, h => by simp at h; subst h; rfl
  | n + 1, x, h => by
    have hx : x / 2 < 2 ^ n := by rw [Nat.pow_succ] at h; omega
    simp only [bitsFrom, val]
    rw [val_bits n _ hx]; omega
theorem bits_length : ∀ (n x : Nat), (bitsFrom x n).length = n
  | 0, _ => rfl
  | n + 1, x => by simp [bitsFrom, bits_length n]
theorem bits_le : ∀ (n x : Nat), ∀ d ∈ bitsFrom x n, d ≤ 1
  | 0, _ => by simp [bitsFrom]
  | n + 1, x => by
    intro d hd
    simp only [bitsFrom, List.mem_cons] at hd
    rcases hd with rfl | hd
    · omega
    · exact bits_le n _ d hd
theorem bits_sum : ∀ (n x : Nat), (bitsFrom x n).sum = ((List.range n).filter (fun i => x.testBit i)).length
  | 0, _ => rfl
  | n + 1, x => by
    have ih := bits_sum n (x / 2)
    rw [List.range_succ_eq_map, List.filter_cons, List.filter_map]
    have e : ((fun i => x.testBit i) ∘ Nat.succ) = fun i => (x / 2).testBit i := by
      funext i; exact Nat.testBit_succ x i
    rw [e]
    simp only [bitsFrom, List.sum_cons]
    rw [ih, Nat.testBit_zero]
    rcases Nat.mod_two_eq_zero_or_one x with h | h <;> simp [h] <;> omega

theorem mask1 : mask 1 32 = 6148914691236517205 := by decide +kernel
theorem mask2 : mask 2 16 = 3689348814741910323 := by decide +kernel
theorem mask4 : mask 4 8 = 1085102592571150095 := by decide +kernel

/-- What the first three steps leave, in eight parts. -/
theorem ones3 (x : Nat) (hx : x < lim) : ∃ l : List Nat, l.length = 8 ∧ (∀ d ∈ l, d ≤ 8) ∧ l.sum = manyS x ∧
    ∃ x1 x2 : Nat, (x / 2 &&& 6148914691236517205) + (x &&& 6148914691236517205) = x1 ∧ (x1 / 4 &&& 3689348814741910323) + (x1 &&& 3689348814741910323) = x2 ∧ (x2 / 16 + x2 &&& 1085102592571150095) = val 8 l ∧ x1 < lim ∧ x2 < lim / 2 := by
  have hb := bits_le 64 x
  have l0 := bits_length 64 x
  have v0 := val_bits 64 x hx
  have s0 := bits_sum 64 x
  generalize bitsFrom x 64 = b0 at *
  have l1 := pairs_length 32 b0 l0
  have q1 := pairs_le b0 hb
  have s1 := pairs_sum 32 b0 l0
  have m1 := mask_lo 1 32 b0 l0 (fun d h => by have := hb d h; omega)
  generalize pairs b0 = b1 at *
  have l2 := pairs_length 16 b1 l1
  have q2 := pairs_le b1 q1
  have s2 := pairs_sum 16 b1 l1
  have m2 := mask_lo 2 16 b1 l1 (fun d h => by have := q1 d h; omega)
  generalize pairs b1 = b2 at *
  have l3 := pairs_length 8 b2 l2
  have q3 := pairs_le b2 q2
  have s3 := pairs_sum 8 b2 l2
  have m3 := mask_sum 8 b2 l2 (fun d h => by have := q2 d h; omega)
  rw [mask1, v0] at m1
  rw [mask2] at m2
  rw [mask4] at m3
  refine ⟨pairs b2, l3, fun d h => by have := q3 d h; omega, by rw [s3, s2, s1, s0]; rfl, val 2 b1, val 4 b2, ?_, ?_, m3, ?_, ?_⟩
  · exact m1
  · exact m2
  · rw [← m1]
    have h1 : x / 2 ^ 1 &&& 6148914691236517205 ≤ 6148914691236517205 := Nat.and_le_right
    have h2 : x &&& 6148914691236517205 ≤ 6148914691236517205 := Nat.and_le_right
    unfold lim; omega
  · rw [← m2]
    have h1 : val 2 b1 / 2 ^ 2 &&& 3689348814741910323 ≤ 3689348814741910323 := Nat.and_le_right
    have h2 : val 2 b1 &&& 3689348814741910323 ≤ 3689348814741910323 := Nat.and_le_right
    unfold lim; omega
theorem dv (m lo hi : Nat) (h : lo < m) : (lo + m * hi) / m = hi := by
  rw [Nat.add_mul_div_left _ _ (by omega), Nat.div_eq_of_lt h, Nat.zero_add]
theorem md (m lo hi : Nat) (h : lo < m) : (lo + m * hi) % m = lo := by
  rw [Nat.add_mul_mod_self_left, Nat.mod_eq_of_lt h]
theorem s4 (a b c d e f g i x4 : Nat) (ha : a ≤ 8) (h4 : (a + 256 * (b + 256 * (c + 256 * (d + 256 * (e + 256 * (f + 256 * (g + 256 * i))))))) + (a + 256 * (b + 256 * (c + 256 * (d + 256 * (e + 256 * (f + 256 * (g + 256 * i))))))) / 256 = x4) :
   x4 = ((a + b) + 256 * (b + c)) + 65536 * ((c + d) + 256 * (d + e) + 65536 * (e + f) + 16777216 * (f + g) + 4294967296 * (g + i) + 1099511627776 * i) := by
  rw [dv 256 a (b + 256 * (c + 256 * (d + 256 * (e + 256 * (f + 256 * (g + 256 * i)))))) (by omega)] at h4
  omega
theorem s5 (a b c d e f g i x4 x5 : Nat) (ha : a ≤ 8) (hb : b ≤ 8) (hc : c ≤ 8) (h4 : x4 = ((a + b) + 256 * (b + c)) + 65536 * ((c + d) + 256 * (d + e) + 65536 * (e + f) + 16777216 * (f + g) + 4294967296 * (g + i) + 1099511627776 * i)) (h5 : x4 + x4 / 65536 = x5) :
   x5 = ((a + b + c + d) + 256 * (b + c + d + e) + 65536 * (c + d + e + f) + 16777216 * (d + e + f + g)) + 4294967296 * ((e + f + g + i) + 256 * (f + g + i) + 65536 * (g + i) + 16777216 * i) := by
  have d1 : x4 / 65536 = (c + d) + 256 * (d + e) + 65536 * (e + f) + 16777216 * (f + g) + 4294967296 * (g + i) + 1099511627776 * i := by
    rw [h4]; exact dv 65536 ((a + b) + 256 * (b + c)) ((c + d) + 256 * (d + e) + 65536 * (e + f) + 16777216 * (f + g) + 4294967296 * (g + i) + 1099511627776 * i) (by omega)
  rw [d1] at h5
  omega
theorem s6 (a b c d e f g i x5 x6 : Nat) (ha : a ≤ 8) (hb : b ≤ 8) (hc : c ≤ 8) (hd : d ≤ 8) (he : e ≤ 8) (hf : f ≤ 8) (hg : g ≤ 8) (h5 : x5 = ((a + b + c + d) + 256 * (b + c + d + e) + 65536 * (c + d + e + f) + 16777216 * (d + e + f + g)) + 4294967296 * ((e + f + g + i) + 256 * (f + g + i) + 65536 * (g + i) + 16777216 * i)) (h6 : x5 + x5 / 4294967296 = x6) :
   x6 = (a + (b + (c + (d + (e + (f + (g + i))))))) + 128 * (2 * (b + c + d + e + f + g + i) + 512 * (c + d + e + f + g + i) + 131072 * (d + e + f + g + i) + 33554432 * (e + f + g + i) + 8589934592 * (f + g + i) + 2199023255552 * (g + i) + 562949953421312 * i) := by
  have d1 : x5 / 4294967296 = (e + f + g + i) + 256 * (f + g + i) + 65536 * (g + i) + 16777216 * i := by
    rw [h5]; exact dv 4294967296 ((a + b + c + d) + 256 * (b + c + d + e) + 65536 * (c + d + e + f) + 16777216 * (d + e + f + g)) ((e + f + g + i) + 256 * (f + g + i) + 65536 * (g + i) + 16777216 * i) (by omega)
  rw [d1] at h6
  omega
theorem s7 (a b c d e f g i x4 x5 x6 : Nat) (ha : a ≤ 8) (hb : b ≤ 8) (hc : c ≤ 8) (hd : d ≤ 8) (he : e ≤ 8) (hf : f ≤ 8) (hg : g ≤ 8) (hi : i ≤ 8)
    (h4 : (a + 256 * (b + 256 * (c + 256 * (d + 256 * (e + 256 * (f + 256 * (g + 256 * i))))))) + (a + 256 * (b + 256 * (c + 256 * (d + 256 * (e + 256 * (f + 256 * (g + 256 * i))))))) / 256 = x4)
    (h5 : x4 + x4 / 65536 = x5) (h6 : x5 + x5 / 4294967296 = x6) : x4 < lim ∧ x5 < lim ∧ x6 < lim / 2 ∧ x6 % 128 = a + (b + (c + (d + (e + (f + (g + i)))))) := by
  have f4 := s4 a b c d e f g i x4 ha h4
  have f5 := s5 a b c d e f g i x4 x5 ha hb hc f4 h5
  have f6 := s6 a b c d e f g i x5 x6 ha hb hc hd he hf hg f5 h6
  clear h4 h5 h6
  refine ⟨?_, ?_, ?_, ?_⟩
  · clear f5 f6; unfold lim; omega
  · clear f4 f6; unfold lim; omega
  · clear f4 f5; unfold lim; omega
  · have hlo : a + (b + (c + (d + (e + (f + (g + i)))))) < 128 := by clear f4 f5 f6; omega
    rw [f6]
    exact md 128 (a + (b + (c + (d + (e + (f + (g + i))))))) (2 * (b + c + d + e + f + g + i) + 512 * (c + d + e + f + g + i) + 131072 * (d + e + f + g + i) + 33554432 * (e + f + g + i) + 8589934592 * (f + g + i) + 2199023255552 * (g + i) + 562949953421312 * i) hlo
theorem val8 (a b c d e f g i : Nat) : val 8 [a, b, c, d, e, f, g, i] = a + 256 * (b + 256 * (c + 256 * (d + 256 * (e + 256 * (f + 256 * (g + 256 * i)))))) := by
  simp only [val, Nat.mul_zero, Nat.add_zero, Nat.reducePow]
theorem ones_end (l : List Nat) (hl : l.length = 8) (h : ∀ d ∈ l, d ≤ 8) (x4 x5 x6 : Nat) (h4 : val 8 l + val 8 l / 256 = x4) (h5 : x4 + x4 / 65536 = x5) (h6 : x5 + x5 / 4294967296 = x6) :
    x4 < lim ∧ x5 < lim ∧ x6 < lim / 2 ∧ x6 % 128 = l.sum := by
  match l, hl, h with
  | [a, b, c, d, e, f, g, i], _, h =>
    rw [val8] at h4
    have := s7 a b c d e f g i x4 x5 x6 (h a (by simp)) (h b (by simp)) (h c (by simp)) (h d (by simp)) (h e (by simp)) (h f (by simp)) (h g (by simp)) (h i (by simp)) h4 h5 h6
    simpa only [List.sum_cons, List.sum_nil, Nat.add_zero] using this

end Go.Proofs.YtlbeincgknmijaaDoor.Ro.Bnd
