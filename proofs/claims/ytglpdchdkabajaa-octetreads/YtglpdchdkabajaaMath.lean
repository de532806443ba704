/-
  Plain mathematics of bytes and numbers.
-/
import Derived.Test.YtglpdchdkabajaaBase
import Derived.Laws.Bits64b
namespace Go.Proofs.Ytglpdchdkabajaa

/-- The k lowest bytes of n, the lowest one first. -/
def le : Nat → Int → List Int
  | 0, _ => []
  | k + 1, n => le k n ++ [n / 256 ^ k % 256]

theorem le_length (k : Nat) (n : Int) : (le k n).length = k := by
  induction k with
  | zero => rfl
  | succ k ih => simp [le, ih]

/-- The number of some bytes, the lowest one first. -/
def ofLE : List Int → Int
  | [] => 0
  | x :: r => x + 256 * ofLE r

theorem ofLE_snoc (l : List Int) (x : Int) : ofLE (l ++ [x]) = ofLE l + x * 256 ^ l.length := by
  induction l with
  | nil => simp [ofLE]
  | cons y r ih =>
    simp only [List.cons_append, ofLE, ih, List.length_cons, Int.pow_succ]
    rw [Int.mul_add, Int.add_assoc]
    congr 2
    rw [← Int.mul_assoc, Int.mul_comm 256 x, Int.mul_assoc, Int.mul_comm 256]

def isBytes (l : List Int) : Prop := ∀ x ∈ l, 0 ≤ x ∧ x < 256

theorem ofLE_bd (l : List Int) (h : isBytes l) : 0 ≤ ofLE l ∧ ofLE l < 256 ^ l.length := by
  induction l with
  | nil => simp [ofLE]
  | cons y r ih =>
    have hy := h y (by simp)
    have := ih (fun x hx => h x (by simp [hx]))
    simp only [ofLE, List.length_cons, Int.pow_succ]
    omega

theorem le_bytes (k : Nat) (n : Int) : isBytes (le k n) := by
  induction k with
  | zero => intro x hx; simp [le] at hx
  | succ k ih =>
    intro x hx
    simp only [le, List.mem_append, List.mem_singleton] at hx
    rcases hx with hx | rfl
    · exact ih x hx
    · omega

theorem ints_bytes (s : ByteArray) : isBytes (ints s) := by
  intro x hx
  simp only [ints, List.mem_map] at hx
  obtain ⟨b, _, rfl⟩ := hx
  have := b.toNat_lt
  omega

theorem isBytes.take {l : List Int} (h : isBytes l) (k : Nat) : isBytes (l.take k) := fun x hx => h x (List.mem_of_mem_take hx)
theorem isBytes.drop {l : List Int} (h : isBytes l) (k : Nat) : isBytes (l.drop k) := fun x hx => h x (List.mem_of_mem_drop hx)

theorem ofLE_le (k : Nat) (n : Int) : ofLE (le k n) = n % 256 ^ k := by
  induction k with
  | zero => simp [le, ofLE, Int.emod_one]
  | succ k ih =>
    rw [le, ofLE_snoc, ih, le_length]
    have e := Int.emod_add_mul_ediv n (256 ^ k)
    have hp : (0 : Int) < 256 ^ k := Int.pow_pos (by decide)
    have := Int.emod_emod_of_dvd n (show (256 : Int) ^ k ∣ 256 ^ (k + 1) from ⟨256, by rw [Int.pow_succ]⟩)
    have e2 := Int.emod_add_mul_ediv (n / 256 ^ k) 256
    have e3 := Int.emod_add_mul_ediv n (256 ^ (k + 1))
    have e4 : n / 256 ^ k / 256 = n / 256 ^ (k + 1) := by rw [Int.pow_succ, Int.ediv_ediv_of_nonneg (Int.le_of_lt hp)]
    rw [Int.pow_succ] at *
    rw [e4] at e2
    generalize n / 256 ^ k = q at *
    generalize n / (256 ^ k * 256) = r at *
    generalize (256 : Int) ^ k = P at *
    have e5 : P * q = P * (q % 256) + P * 256 * r := by
      conv => lhs; rw [← e2]
      rw [Int.mul_add, Int.mul_assoc]
    have e6 : q % 256 * P = P * (q % 256) := Int.mul_comm _ _
    omega

theorem small_div (n : Int) (h0 : 0 ≤ n) (k : Nat) (h : n < 2 ^ k) : n / 2 ^ k = 0 := Int.ediv_eq_zero_of_lt h0 h

theorem len_div (n : Nat) (h : n ≤ 65535) : ((n : Nat) : Int) / 2 ^ (8 * (2 : Int)).toNat = 0 := by
  refine small_div _ (Int.natCast_nonneg _) _ ?_
  show ((n : Nat) : Int) < 2 ^ 16
  omega

theorem pow_256 (j : Nat) : (256 : Nat) ^ j = 2 ^ (8 * j) := by rw [Nat.pow_mul]

theorem orstep (nn : Int) (c j : Nat) (h0 : 0 ≤ nn) (h1 : nn < 256 ^ j) (hj : j < 8) (hc : c < 256) :
    bits BinOp.or IntKind.u64 nn (IntKind.u64.wrap (IntKind.u64.wrap (c : Int) * 2 ^ (8 * j))) = nn + (c : Int) * 256 ^ j := by
  obtain ⟨N, rfl⟩ := Int.eq_ofNat_of_zero_le h0
  have h1' : N < 2 ^ (8 * j) := by rw [← pow_256]; have e : ((256 ^ j : Nat) : Int) = 256 ^ j := Int.natCast_pow 256 j; omega
  have hp : c * 2 ^ (8 * j) < 18446744073709551616 := by
    have : 2 ^ (8 * j) ≤ 2 ^ 56 := Nat.pow_le_pow_right (by decide) (by omega)
    calc c * 2 ^ (8 * j) ≤ 255 * 2 ^ 56 := Nat.mul_le_mul (by omega) this
      _ < _ := by decide
  have hN : N < 18446744073709551616 := by
    have : 2 ^ (8 * j) ≤ 2 ^ 56 := Nat.pow_le_pow_right (by decide) (by omega)
    have : (2 : Nat) ^ 56 < 18446744073709551616 := by decide
    omega
  have e1 : IntKind.u64.wrap (c : Int) = (c : Int) := by rw [IntKind.wrap_u64]; omega
  have e2 : IntKind.u64.wrap ((c : Int) * 2 ^ (8 * j)) = ((c * 2 ^ (8 * j) : Nat) : Int) := by
    rw [IntKind.wrap_u64]
    have : ((c : Int) * 2 ^ (8 * j)) = ((c * 2 ^ (8 * j) : Nat) : Int) := by push_cast; rfl
    rw [this]; omega
  rw [e1, e2, bits_or_u64_nat N _ hN hp]
  have e3 : N ||| c * 2 ^ (8 * j) = N + c * 2 ^ (8 * j) := by
    rw [Nat.or_comm, Nat.mul_comm, ← Nat.two_pow_add_eq_or_of_lt h1', Nat.add_comm]
  rw [e3, ← pow_256]
  simp

theorem ints_get (s : ByteArray) (m : Nat) (h : m < s.size) : (ints s)[m]? = some (s[m].toNat : Int) := by
  have h' : m < s.data.size := h
  simp only [ints, List.getElem?_map, Array.getElem?_toList, Array.getElem?_eq_getElem h', Option.map_some]
  rfl

theorem take_snoc (s : ByteArray) (k j : Nat) (h : k + j < s.size) : ((ints s).drop k).take (j + 1) = ((ints s).drop k).take j ++ [(s[k + j].toNat : Int)] := by
  rw [List.take_add_one, List.getElem?_drop, ints_get s (k + j) h]; rfl

theorem num_step (s : ByteArray) (k j : Nat) (h : k + j < s.size) (hj : j < 8) :
    bits BinOp.or IntKind.u64 (ofLE (((ints s).drop k).take j)) (IntKind.u64.wrap (IntKind.u64.wrap (s[k + j].toNat : Int) * 2 ^ (8 * j))) = ofLE (((ints s).drop k).take (j + 1)) := by
  have hb := ofLE_bd (((ints s).drop k).take j) (((ints_bytes s).drop k).take j)
  have hl : (((ints s).drop k).take j).length = j := by simp [ints_length]; omega
  rw [hl] at hb
  rw [orstep _ _ j hb.1 hb.2 hj (by have := s[k + j].toNat_lt; omega), take_snoc s k j h, ofLE_snoc, hl]

theorem mask_any (k : Int) (h1 : 1 ≤ k) (h2 : k ≤ 7) (x : Int) (h0 : 0 ≤ x) (hx : x ≤ 18446744073709551615) :
    bits BinOp.and IntKind.u64 x (IntKind.u64.wrap (IntKind.u64.wrap (2 ^ (8 * k).toNat) - 1)) = x % 256 ^ k.toNat := by
  obtain ⟨j, rfl⟩ := Int.eq_ofNat_of_zero_le (show 0 ≤ k by omega)
  obtain ⟨X, rfl⟩ := Int.eq_ofNat_of_zero_le h0
  have e0 : (8 * (j : Int)).toNat = 8 * j := by omega
  have e1 : ((j : Int)).toNat = j := by omega
  rw [e0, e1]
  have hle : 2 ^ (8 * j) ≤ 2 ^ 56 := Nat.pow_le_pow_right (by decide) (by omega)
  have hlt : (2 : Nat) ^ 56 < 18446744073709551616 := by decide
  have hpos : 0 < 2 ^ (8 * j) := Nat.pow_pos (by decide)
  have e2 : ((2 : Int) ^ (8 * j)) = ((2 ^ (8 * j) : Nat) : Int) := (Int.natCast_pow 2 (8 * j)).symm
  have e3 : IntKind.u64.wrap (IntKind.u64.wrap (2 ^ (8 * j)) - 1) = ((2 ^ (8 * j) - 1 : Nat) : Int) := by
    rw [e2, IntKind.wrap_u64, IntKind.wrap_u64]; omega
  rw [e3, bits_and_u64_nat X _ (by omega) (by omega), Nat.and_two_pow_sub_one_eq_mod, ← pow_256]
  rw [Int.natCast_emod, Int.natCast_pow]; rfl

theorem mod_div (k : Int) (h1 : 1 ≤ k) (x : Int) : (x % 256 ^ k.toNat) / 2 ^ (8 * k).toNat = 0 := by
  obtain ⟨j, rfl⟩ := Int.eq_ofNat_of_zero_le (show 0 ≤ k by omega)
  have e0 : (8 * (j : Int)).toNat = 8 * j := by omega
  have e1 : ((j : Int)).toNat = j := by omega
  have e2 : ((2 : Int) ^ (8 * j)) = 256 ^ j := by rw [Int.pow_mul]; rfl
  have hp : (0 : Int) < 256 ^ j := Int.pow_pos (by decide)
  rw [e0, e1, e2]
  exact Int.ediv_eq_zero_of_lt (Int.emod_nonneg _ (Int.ne_of_gt hp)) (Int.emod_lt_of_pos _ hp)

theorem mod_div' (k : Int) (h1 : 1 ≤ k) (x : Int) : (x % 256 ^ k.toNat) / 2 ^ (8 * (k + 1)).toNat = 0 := by
  obtain ⟨j, rfl⟩ := Int.eq_ofNat_of_zero_le (show 0 ≤ k by omega)
  have e0 : (8 * ((j : Int) + 1)).toNat = 8 * (j + 1) := by omega
  have e1 : ((j : Int)).toNat = j := by omega
  have e2 : ((2 : Int) ^ (8 * (j + 1))) = 256 ^ j * 256 := by rw [Int.pow_mul, ← Int.pow_succ]; rfl
  have hp : (0 : Int) < 256 ^ j := Int.pow_pos (by decide)
  rw [e0, e1, e2]
  have := Int.emod_lt_of_pos x hp
  exact Int.ediv_eq_zero_of_lt (Int.emod_nonneg _ (Int.ne_of_gt hp)) (by omega)

theorem le_inj (k : Nat) (a b : Int) (h : le k (a % 256 ^ k) = le k (b % 256 ^ k)) : a % 256 ^ k = b % 256 ^ k := by
  have := congrArg ofLE h
  rw [ofLE_le, ofLE_le] at this
  simpa using this

theorem le_wider (k : Nat) (a : Int) : le (k + 1) (a % 256 ^ k) = le k (a % 256 ^ k) ++ [0] := by
  have hp : (0 : Int) < 256 ^ k := Int.pow_pos (by decide)
  rw [le, Int.ediv_eq_zero_of_lt (Int.emod_nonneg _ (Int.ne_of_gt hp)) (Int.emod_lt_of_pos _ hp)]; rfl

theorem strOfNums_inj (a b : List Int) (ha : isBytes a) (hb : isBytes b) (h : strOfNums a = strOfNums b) : a = b := by
  have e : ∀ l : List Int, isBytes l → ints (strOfNums l) = l := by
    intro l hl
    simp only [ints, strOfNums, List.map_map]
    conv => rhs; rw [← List.map_id l]
    apply List.map_congr_left
    intro x hx
    have := hl x hx
    simp only [Function.comp, id, UInt8.toNat_ofNat']
    omega
  rw [← e a ha, ← e b hb, h]

theorem toList_beq (a b : ByteArray) : (a.toList == b.toList) = decide (a = b) := by
  by_cases h : a = b
  · subst h; simp
  · have : ¬ a.toList = b.toList := fun e => h (by
      rw [ByteArray.toList_eq, ByteArray.toList_eq] at e
      exact ByteArray.ext (Array.toList_inj.1 e))
    simp [h, this]

end Go.Proofs.Ytglpdchdkabajaa
