/-
  Plain mathematics of sums: steps of 32 bits, bytes, texts.
-/
import Derived.WalkKit
import Derived.Laws.Bits64b
namespace Go.Proofs.Ytlklobapdljpkaa

abbrev B32 := BitVec 32
def poly : B32 := 0x82F63B78#32
/-- One step. -/
def step (x : B32) : B32 := (x >>> 1) ^^^ (if x.getLsbD 0 then poly else 0#32)
def stepN : Nat → B32 → B32
  | 0, x => x
  | n + 1, x => step (stepN n x)

theorem xor4 (a b c d : B32) : (a ^^^ b) ^^^ (c ^^^ d) = (a ^^^ c) ^^^ (b ^^^ d) := by
  apply BitVec.eq_of_getLsbD_eq; intro i _; simp only [BitVec.getLsbD_xor]
  cases a.getLsbD i <;> cases b.getLsbD i <;> cases c.getLsbD i <;> cases d.getLsbD i <;> rfl

theorem step_xor (x y : B32) : step (x ^^^ y) = step x ^^^ step y := by
  unfold step
  rw [BitVec.ushiftRight_xor_distrib, BitVec.getLsbD_xor, xor4]
  congr 1
  cases x.getLsbD 0 <;> cases y.getLsbD 0 <;> simp
theorem step_zero : step 0#32 = 0#32 := by decide
theorem stepN_xor (n : Nat) (x y : B32) : stepN n (x ^^^ y) = stepN n x ^^^ stepN n y := by
  induction n with
  | zero => rfl
  | succ n ih => simp only [stepN, ih, step_xor]
theorem stepN_zero (n : Nat) : stepN n 0#32 = 0#32 := by
  induction n with
  | zero => rfl
  | succ n ih => simp only [stepN, ih, step_zero]
theorem stepN_add (a b : Nat) (x : B32) : stepN (a + b) x = stepN a (stepN b x) := by
  induction a with
  | zero => simp [stepN]
  | succ a ih => rw [Nat.succ_add]; simp only [stepN, ih]
theorem stepN_one (x : B32) : stepN 1 x = step x := rfl
theorem step_ne (x : B32) (h : step x = 0#32) : x = 0#32 := by
  unfold step at h
  cases hx : x.getLsbD 0
  · rw [hx] at h
    apply BitVec.eq_of_getLsbD_eq
    intro i hi
    cases i with
    | zero => simpa using hx
    | succ i =>
      have := congrArg (fun v => v.getLsbD i) h
      simp at this
      rw [Nat.add_comm] at this
      simpa using this
  · rw [hx] at h
    have := congrArg (fun v => v.getLsbD 31) h
    simp [poly] at this
theorem stepN_ne (n : Nat) (x : B32) (h : stepN n x = 0#32) : x = 0#32 := by
  induction n with
  | zero => exact h
  | succ n ih => exact ih (step_ne _ h)
theorem step_low (x : B32) (h : x.getLsbD 0 = false) : step x = x >>> 1 := by
  unfold step; rw [h]; simp
/-- Steps of what has no low bits are shifts. -/
theorem stepN_low (k : Nat) (x : B32) (h : ∀ i, i < k → x.getLsbD i = false) : stepN k x = x >>> k := by
  induction k with
  | zero => simp [stepN]
  | succ k ih =>
    rw [stepN, ih (fun i hi => h i (by omega)), step_low _ (by have := h k (by omega); simpa using this)]
    rw [BitVec.shiftRight_add]
theorem stepN_shl (k : Nat) (x : B32) (h : x.toNat * 2 ^ k < 2 ^ 32) : stepN k (x <<< k) = x := by
  rw [stepN_low k _ (fun i hi => by simp [hi])]
  apply BitVec.eq_of_toNat_eq
  rw [BitVec.toNat_ushiftRight, BitVec.toNat_shiftLeft, Nat.shiftLeft_eq, Nat.mod_eq_of_lt h, Nat.shiftRight_eq_div_pow, Nat.mul_div_cancel _ (Nat.two_pow_pos k)]

theorem mask_split (x m n : B32) (h : ∀ i : Fin 32, m.getLsbD i.val = !n.getLsbD i.val) : x = (x &&& m) ^^^ (x &&& n) := by
  apply BitVec.eq_of_getLsbD_eq
  intro i hi
  rw [BitVec.getLsbD_xor, BitVec.getLsbD_and, BitVec.getLsbD_and, h ⟨i, hi⟩]
  cases x.getLsbD i <;> cases n.getLsbD i <;> rfl

/-- By half a byte. -/
theorem step4 (x : B32) : stepN 4 x = (x >>> 4) ^^^ stepN 4 (x &&& 15#32) := by
  have e : x = (x &&& 0xFFFFFFF0#32) ^^^ (x &&& 15#32) := mask_split x _ _ (by decide)
  conv => lhs; rw [e]
  rw [stepN_xor, stepN_low 4 (x &&& 0xFFFFFFF0#32)]
  · congr 1
    apply BitVec.eq_of_getLsbD_eq
    intro i hi
    simp only [BitVec.getLsbD_ushiftRight, BitVec.getLsbD_and]
    by_cases h : i < 28
    · have : (0xFFFFFFF0#32).getLsbD (4 + i) = true := by
        have : ∀ i : Fin 28, (0xFFFFFFF0#32).getLsbD (4 + i.val) = true := by decide
        exact this ⟨i, h⟩
      rw [this, Bool.and_true]
    · rw [BitVec.getLsbD_of_ge x (4 + i) (by omega)]; rfl
  · intro i hi
    have : ∀ i : Fin 4, (0xFFFFFFF0#32).getLsbD i.val = false := by decide
    rw [BitVec.getLsbD_and, this ⟨i, hi⟩, Bool.and_false]

/-! ### Texts -/
def byte (c : UInt8) : B32 := BitVec.ofNat 32 c.toNat
def ones : B32 := 4294967295#32
/-- What is held behind some bytes. -/
def raw (r : B32) : List UInt8 → B32
  | [] => r
  | c :: l => raw (stepN 8 (r ^^^ byte c)) l
def crc (l : List UInt8) : B32 := raw ones l ^^^ ones

theorem raw_append (r : B32) (a b : List UInt8) : raw r (a ++ b) = raw (raw r a) b := by
  induction a generalizing r with
  | nil => rfl
  | cons c a ih => simp only [List.cons_append, raw, ih]
theorem raw_snoc (r : B32) (a : List UInt8) (c : UInt8) : raw r (a ++ [c]) = stepN 8 (raw r a ^^^ byte c) := by rw [raw_append]; rfl
theorem raw_xor (x y : B32) (l : List UInt8) : raw (x ^^^ y) l = stepN (8 * l.length) x ^^^ raw y l := by
  induction l generalizing x y with
  | nil => rfl
  | cons c l ih =>
    simp only [raw]
    rw [BitVec.xor_assoc, stepN_xor, ih, List.length_cons, ← stepN_add]
    congr 2
theorem crc_append (a b : List UInt8) : crc (a ++ b) = stepN (8 * b.length) (crc a) ^^^ crc b := by
  unfold crc
  rw [raw_append, ← BitVec.xor_assoc]
  congr 1
  rw [← raw_xor, BitVec.xor_assoc, BitVec.xor_self, BitVec.xor_zero]

theorem byte_xor (a b : UInt8) : byte (a ^^^ b) = byte a ^^^ byte b := by
  apply BitVec.eq_of_toNat_eq
  have h1 : a.toNat < 2 ^ 32 := by have := a.toNat_lt; omega
  have h2 : b.toNat < 2 ^ 32 := by have := b.toNat_lt; omega
  have h3 : (a ^^^ b).toNat < 2 ^ 32 := by have := (a ^^^ b).toNat_lt; omega
  simp only [byte, BitVec.toNat_xor, BitVec.toNat_ofNat, Nat.mod_eq_of_lt h1, Nat.mod_eq_of_lt h2]
  rw [Nat.mod_eq_of_lt h3, UInt8.toNat_xor]
theorem raw_xor3 (x y z : B32) : ∀ (a b c : List UInt8), a.length = b.length → b.length = c.length →
    raw (x ^^^ y ^^^ z) (List.zipWith (· ^^^ ·) (List.zipWith (· ^^^ ·) a b) c) = raw x a ^^^ raw y b ^^^ raw z c := by
  intro a b c
  induction a generalizing x y z b c with
  | nil => intro h1 h2; cases b <;> cases c <;> simp_all [raw]
  | cons p a ih =>
    intro h1 h2
    cases b with
    | nil => simp at h1
    | cons q b =>
      cases c with
      | nil => simp at h2
      | cons r c =>
        simp only [List.zipWith_cons_cons, raw]
        rw [← ih _ _ _ b c (by simpa using h1) (by simpa using h2), byte_xor, byte_xor]
        congr 1
        rw [← stepN_xor, ← stepN_xor, xor4 (x ^^^ y) z, xor4 x y]
theorem crc_xor3 (a b c : List UInt8) (h1 : a.length = b.length) (h2 : b.length = c.length) :
    crc (List.zipWith (· ^^^ ·) (List.zipWith (· ^^^ ·) a b) c) = crc a ^^^ crc b ^^^ crc c := by
  unfold crc
  have := raw_xor3 ones ones ones a b c h1 h2
  rw [BitVec.xor_self, BitVec.zero_xor] at this
  rw [this, xor4 (raw ones a), BitVec.xor_self, BitVec.xor_zero, BitVec.xor_assoc]

/-! ### Sums as bytes -/
def four (x : B32) : List UInt8 := [UInt8.ofNat x.toNat, UInt8.ofNat (x.toNat / 2 ^ 8), UInt8.ofNat (x.toNat / 2 ^ 16), UInt8.ofNat (x.toNat / 2 ^ 24)]

theorem byte_eq (x : B32) (k : Nat) : byte (UInt8.ofNat (x.toNat / 2 ^ k)) = (x >>> k) &&& 255#32 := by
  apply BitVec.eq_of_toNat_eq
  rw [BitVec.toNat_and, BitVec.toNat_ushiftRight, Nat.shiftRight_eq_div_pow]
  show ((UInt8.ofNat (x.toNat / 2 ^ k)).toNat) % 2 ^ 32 = (x.toNat / 2 ^ k) &&& (2 ^ 8 - 1)
  rw [Nat.and_two_pow_sub_one_eq_mod, UInt8.toNat_ofNat']
  omega
theorem step8 (x : B32) : stepN 8 x = (x >>> 8) ^^^ stepN 8 (x &&& 255#32) := by
  have e : x = (x &&& 0xFFFFFF00#32) ^^^ (x &&& 255#32) := mask_split x _ _ (by decide)
  conv => lhs; rw [e]
  rw [stepN_xor, stepN_low 8 (x &&& 0xFFFFFF00#32)]
  · congr 1
    apply BitVec.eq_of_getLsbD_eq
    intro i hi
    simp only [BitVec.getLsbD_ushiftRight, BitVec.getLsbD_and]
    by_cases h : i < 24
    · have : (0xFFFFFF00#32).getLsbD (8 + i) = true := by
        have : ∀ i : Fin 24, (0xFFFFFF00#32).getLsbD (8 + i.val) = true := by decide
        exact this ⟨i, h⟩
      rw [this, Bool.and_true]
    · rw [BitVec.getLsbD_of_ge x (8 + i) (by omega)]; rfl
  · intro i hi
    have : ∀ i : Fin 8, (0xFFFFFF00#32).getLsbD i.val = false := by decide
    rw [BitVec.getLsbD_and, this ⟨i, hi⟩, Bool.and_false]

theorem step8_byte (r x : B32) : stepN 8 (r ^^^ (x &&& 255#32)) = stepN 8 (r ^^^ x) ^^^ (x >>> 8) := by
  rw [stepN_xor, stepN_xor, step8 x, BitVec.xor_assoc, BitVec.xor_comm (x >>> 8) (stepN 8 (x &&& 255#32)), BitVec.xor_assoc, BitVec.xor_self, BitVec.xor_zero]

/-- Behind the four bytes of x, what is held are 32 steps of what was held ^ x. -/
theorem raw_four (r x : B32) : raw r (four x) = stepN 32 (r ^^^ x) := by
  have h0 : byte (UInt8.ofNat x.toNat) = x &&& 255#32 := by have := byte_eq x 0; simpa using this
  simp only [four, raw, byte_eq, h0]
  have e : ∀ a b : B32, (a ^^^ b) ^^^ b = a := fun a b => by rw [BitVec.xor_assoc, BitVec.xor_self, BitVec.xor_zero]
  rw [step8_byte r x, step8_byte _ (x >>> 8), e, show x >>> 16 = x >>> 8 >>> 8 from by rw [← BitVec.shiftRight_add], step8_byte _ (x >>> 8 >>> 8), e, show x >>> 24 = x >>> 8 >>> 8 >>> 8 from by rw [← BitVec.shiftRight_add, ← BitVec.shiftRight_add], step8_byte _ (x >>> 8 >>> 8 >>> 8), e]
  rw [show x >>> 8 >>> 8 >>> 8 >>> 8 = 0#32 from by rw [← BitVec.shiftRight_add, ← BitVec.shiftRight_add, ← BitVec.shiftRight_add]; exact BitVec.ushiftRight_eq_zero (by omega), BitVec.xor_zero]
  rw [← stepN_add, ← stepN_add, ← stepN_add]

/-- A sealed text's own. -/
theorem raw_sealed (l : List UInt8) : raw ones (l ++ four (crc l)) = stepN 32 ones := by
  rw [raw_append, raw_four]; unfold crc
  rw [← BitVec.xor_assoc, BitVec.xor_self, BitVec.zero_xor]

/-! ### One bit turned -/
theorem raw_bit (r : B32) (l : List UInt8) (j b : Nat) (hj : j < l.length) (hb : b < 8) :
    raw r (l.set j (l[j] ^^^ UInt8.ofNat (2 ^ b))) = raw r l ^^^ stepN (8 * l.length - (8 * j + b)) 1#32 := by
  induction l generalizing r j with
  | nil => simp at hj
  | cons c l ih =>
    cases j with
    | succ j =>
      simp only [List.set_cons_succ, List.getElem_cons_succ, raw, List.length_cons]
      rw [ih _ j (by simpa using hj)]
      congr 2
      omega
    | zero =>
      simp only [List.set_cons_zero, List.getElem_cons_zero, raw, List.length_cons]
      have hbb : byte (UInt8.ofNat (2 ^ b)) = 1#32 <<< b := by
        have : ∀ b : Fin 8, byte (UInt8.ofNat (2 ^ b.val)) = 1#32 <<< b.val := by decide
        exact this ⟨b, hb⟩
      rw [byte_xor, hbb, ← BitVec.xor_assoc, stepN_xor, BitVec.xor_comm, raw_xor, BitVec.xor_comm]
      congr 1
      rw [← stepN_add]
      rw [show 8 * l.length + 8 = 8 * (l.length + 1) - (8 * 0 + b) + b by omega, stepN_add, stepN_shl]
      have : ∀ b : Fin 8, (1#32).toNat * 2 ^ b.val < 2 ^ 32 := by decide
      exact this ⟨b, hb⟩
theorem one_back (m p i : Nat) (hi : i < 32) (h : p + i ≤ m) : stepN (m - (p + i)) 1#32 = stepN (m - p) (1#32 <<< i) := by
  rw [show m - p = m - (p + i) + i by omega, stepN_add, stepN_shl]
  have : ∀ b : Fin 32, (1#32).toNat * 2 ^ b.val < 2 ^ 32 := by decide
  exact this ⟨i, hi⟩

/-! ### The numbers, as the walk has them -/
def u (x : B32) : Int := (x.toNat : Int)
theorem u_lo (x : B32) : 0 ≤ u x := Int.natCast_nonneg _
theorem u_hi (x : B32) : u x ≤ 4294967295 := by unfold u; have := x.isLt; omega
theorem u_inj (x y : B32) (h : u x = u y) : x = y := BitVec.eq_of_toNat_eq (by unfold u at h; omega)
theorem u_ofInt (x : B32) : BitVec.ofInt 32 (u x) = x := by
  unfold u; rw [BitVec.ofInt_natCast]; simp
theorem u_of (n : Int) (h0 : 0 ≤ n) (h1 : n ≤ 4294967295) : ∃ x : B32, n = u x := by
  refine ⟨BitVec.ofNat 32 n.toNat, ?_⟩
  unfold u; rw [BitVec.toNat_ofNat, Nat.mod_eq_of_lt (by omega)]; omega
theorem u_xor (x y : B32) : bits .xor .u32 (u x) (u y) = u (x ^^^ y) := by
  show IntKind.u32.wrap ((BitVec.ofInt 32 (u x) ^^^ BitVec.ofInt 32 (u y)).toNat : Int) = _
  rw [u_ofInt, u_ofInt]
  generalize x ^^^ y = z
  have h1 := u_lo z
  have h2 := u_hi z
  unfold u at *
  simp only [IntKind.wrap, IntKind.bits, IntKind.signed]
  simp
  omega
theorem u_shr (x : B32) (k : Nat) : u x / 2 ^ k = u (x >>> k) := by
  unfold u; rw [BitVec.toNat_ushiftRight, Nat.shiftRight_eq_div_pow]; simp
theorem u_byte (c : UInt8) : (c.toNat : Int) = u (byte c) := by
  unfold u byte; rw [BitVec.toNat_ofNat, Nat.mod_eq_of_lt (by have := c.toNat_lt; omega)]
theorem u_mod16 (x : B32) : u x % 16 = u (x &&& 15#32) := by
  unfold u; rw [BitVec.toNat_and]
  show (x.toNat : Int) % 16 = ((x.toNat &&& (2 ^ 4 - 1) : Nat) : Int)
  rw [Nat.and_two_pow_sub_one_eq_mod]; omega
theorem u_low (x : B32) : u x % 2 = if x.getLsbD 0 then 1 else 0 := by
  unfold u
  rw [BitVec.getLsbD, Nat.testBit_zero]
  by_cases h : x.toNat % 2 = 1
  · simp [h]; omega
  · have : x.toNat % 2 = 0 := by omega
    simp [this]; omega
theorem u_step (x : B32) : bits .xor .u32 (u x / 2) (u x % 2 * 2197175160) = u (step x) := by
  have h := u_shr x 1
  have e : u x % 2 * 2197175160 = u (if x.getLsbD 0 then poly else 0#32) := by
    rw [u_low]
    split <;> decide
  rw [e, show u x / 2 = u x / 2 ^ 1 from rfl, h, u_xor]; rfl

/-- The first k of n cells are the numbers of f, the others 0. -/
def tab (f : Nat → B32) (n k : Nat) : Array Value := ((List.range n).map fun i => Value.int .u32 (if i < k then u (f i) else 0)).toArray
theorem tab_size (f : Nat → B32) (n k : Nat) : (tab f n k).size = n := by simp [tab]
theorem tab_get (f : Nat → B32) (n k i : Nat) (h : i < n) : (tab f n k)[i]? = some (.int .u32 (if i < k then u (f i) else 0)) := by simp [tab, h]
theorem tab_set (f : Nat → B32) (n k : Nat) : (tab f n k).setIfInBounds k (.int .u32 (u (f k))) = tab f n (k + 1) := by
  apply Array.ext_getElem?
  intro i
  rw [Array.getElem?_setIfInBounds, tab_size]
  by_cases hi : i < n
  · rw [tab_get _ _ _ _ hi, tab_get _ _ _ _ hi]
    by_cases e : k = i
    · subst e; simp [hi]
    · rw [if_neg e]
      congr 2
      by_cases h : i < k
      · rw [if_pos h, if_pos (by omega)]
      · rw [if_neg h, if_neg (by omega)]
  · rw [Array.getElem?_eq_none (by rw [tab_size]; omega), Array.getElem?_eq_none (by rw [tab_size]; omega)]
    by_cases e : k = i
    · subst e; simp [hi]
    · rw [if_neg e]
theorem tab_one (f : Nat → B32) (n k : Nat) : (tab f n k).all (·.oneCell') = true := by
  rw [Array.all_eq_true_iff_forall_mem]
  intro v hv
  simp [tab] at hv
  obtain ⟨i, _, rfl⟩ := hv
  rfl
end Go.Proofs.Ytlklobapdljpkaa
