/-
  The walk of OctetBack.
-/
import Derived.Test.YtglpdchdkabajaaRel
import Derived.Test.YtglpdchdkabajaaAll
namespace Go.Proofs.Ytglpdchdkabajaa
open Go.RowKit

theorem ints_append (a b : ByteArray) : ints (a ++ b) = ints a ++ ints b := by simp [ints]
theorem ints_strOfNums (l : List Int) (hl : isBytes l) : ints (strOfNums l) = l := by
  simp only [ints, strOfNums, List.map_map]
  conv => rhs; rw [← List.map_id l]
  apply List.map_congr_left
  intro x hx
  have := hl x hx
  simp only [Function.comp, id, UInt8.toNat_ofNat']
  omega
theorem ints_inj {a b : ByteArray} (h : ints a = ints b) : a = b := by rw [← strOfNums_ints a, ← strOfNums_ints b, h]
theorem ints_extract (s : ByteArray) (i j : Nat) : ints (s.extract i j) = ((ints s).take j).drop i := by
  simp only [ints, ByteArray.data_extract, Array.toList_extract, List.extract_eq_take_drop, List.map_take, List.map_drop, List.drop_take]

/-- What is written, and what is behind it. -/
def zed (k : Nat) (m : Int) (x : Nat) (s rest : ByteArray) : ByteArray := strOfNums ((([] ++ le k m) ++ le 8 (bitsOf x)) ++ (le 2 s.size ++ ints s)) ++ rest

theorem isBytes.append {a b : List Int} (ha : isBytes a) (hb : isBytes b) : isBytes (a ++ b) := fun x hx => by
  rcases List.mem_append.1 hx with h | h
  · exact ha x h
  · exact hb x h

theorem zed_ints (k : Nat) (m : Int) (x : Nat) (s rest : ByteArray) : ints (zed k m x s rest) = le k m ++ (le 8 (bitsOf x) ++ (le 2 s.size ++ (ints s ++ ints rest))) := by
  rw [zed, ints_append, ints_strOfNums]
  · simp
  · exact (((le_bytes k m).append (le_bytes 8 _)).append ((le_bytes 2 _).append (ints_bytes s)))

theorem zed_size (k : Nat) (m : Int) (x : Nat) (s rest : ByteArray) : (zed k m x s rest).size = k + 10 + s.size + rest.size := by
  rw [← ints_length, zed_ints]
  simp [le_length, ints_length]; omega

theorem take_len' {α : Type} (a b : List α) (n : Nat) (h : a.length = n) : (a ++ b).take n = a := by rw [← h]; simp
theorem drop_len' {α : Type} (a b : List α) (n : Nat) (h : a.length = n) : (a ++ b).drop n = b := by rw [← h]; simp

theorem zed_num (k : Int) (hk1 : 1 ≤ k) (hk8 : k ≤ 8) (m : Int) (hm0 : 0 ≤ m) (hm : m < 256 ^ k.toNat) (x : Nat) (s rest : ByteArray) : numS (zed k.toNat m x s rest) 0 k = (m, 0, k.toNat) := by
  unfold numS
  rw [if_neg (by omega), if_neg (by rw [zed_size]; omega), zed_ints, List.drop_zero, take_len' _ _ _ (le_length _ _), ofLE_le, Int.emod_eq_of_lt hm0 hm, Nat.zero_add]
theorem zed_real (k : Nat) (m : Int) (x : Nat) (hx : x < 2 ^ 64) (s rest : ByteArray) : realS (zed k m x s rest) k = (bitsOf (bitsOf x), 0, k + 8) := by
  unfold realS
  have hb := bitsOf_lt x hx
  rw [if_neg (by rw [zed_size]; omega), zed_ints, drop_len' _ _ _ (le_length _ _), take_len' _ _ _ (le_length _ _), ofLE_le]
  have : ((bitsOf x : Nat) : Int) % 256 ^ 8 = bitsOf x := by
    rw [show (256 : Int) ^ 8 = 18446744073709551616 from rfl]; omega
  rw [this]; rfl
theorem zed_text (k : Nat) (m : Int) (x : Nat) (s rest : ByteArray) (hs : s.size ≤ 300) : textS (zed k m x s rest) (k + 8) s.size = (s, 0, k + 10 + s.size) := by
  have e : ofLE (((ints (zed k m x s rest)).drop (k + 8)).take 2) = s.size := by
    rw [zed_ints, ← List.drop_drop, drop_len' _ _ _ (le_length _ _), drop_len' _ _ _ (le_length _ _), take_len' _ _ _ (le_length _ _), ofLE_le, show (256 : Int) ^ 2 = 65536 from rfl]
    omega
  unfold textS
  rw [e, if_neg (by rw [zed_size]; omega), if_neg (by omega), if_neg (by rw [zed_size]; omega), Int.toNat_natCast]
  have e2 : (zed k m x s rest).extract (k + 8 + 2) (k + 8 + 2 + s.size) = s := by
    apply ints_inj
    have hd : (le k m ++ (le 8 (bitsOf x) ++ (le 2 s.size ++ (ints s ++ ints rest)))).drop (k + 8 + 2) = ints s ++ ints rest := by
      rw [← List.drop_drop, ← List.drop_drop, drop_len' _ _ _ (le_length _ _), drop_len' _ _ _ (le_length _ _), drop_len' _ _ _ (le_length _ _)]
    rw [ints_extract, zed_ints, List.drop_take, hd, Nat.add_sub_cancel_left, take_len' _ _ _ (ints_length _)]
  rw [e2, show k + 8 + 2 + s.size = k + 10 + s.size by omega]
theorem bitsOf_bitsOf (x : Nat) : bitsOf (bitsOf x) = bitsOf x := by
  have ho := nan_odd
  unfold bitsOf
  cases hx : nan x <;> simp [hx, ho]

theorem pow_wrap (k : Int) (h1 : 1 ≤ k) (h7 : k < 8) : IntKind.u64.wrap (2 ^ (8 * k).toNat) = 256 ^ k.toNat := by
  obtain ⟨j, rfl⟩ := Int.eq_ofNat_of_zero_le (show 0 ≤ k by omega)
  have e0 : (8 * (j : Int)).toNat = 8 * j := by omega
  have e1 : ((j : Int)).toNat = j := by omega
  have e2 : ((2 : Int) ^ (8 * j)) = ((2 ^ (8 * j) : Nat) : Int) := (Int.natCast_pow 2 (8 * j)).symm
  have hle : 2 ^ (8 * j) ≤ 2 ^ 56 := Nat.pow_le_pow_right (by decide) (by omega)
  have hlt : (2 : Nat) ^ 56 < 18446744073709551616 := by decide
  rw [e0, e1, e2, IntKind.wrap_u64, ← pow_256, Int.natCast_pow]
  rw [← pow_256] at hle
  have : ((256 ^ j : Nat) : Int) = 256 ^ j := Int.natCast_pow 256 j
  have h0 : (0 : Int) < 256 ^ j := Int.pow_pos (by decide)
  show (256 : Int) ^ j % _ = _
  rw [Int.emod_eq_of_lt (by omega) (by omega)]

set_option maxHeartbeats 2000000 in
theorem back_lt (n width : Int) (x : Nat) (s rest : ByteArray) (w : World) (hs : s.size ≤ 300) (hr : rest.size ≤ 300) (hw0 : 0 ≤ width) (hw1 : width ≤ 255) (hn0 : 0 ≤ n) (_HN : Hid (n ≤ 18446744073709551615)) (HX : Hid (x < 2 ^ 64)) (hk : 1 + width % 8 < 8) :
    Calls Try.prog 5 #[.int .u64 n, .int .u8 width, .float .f64 x, .string s, .string rest] w fun e w' => e = .returned (.bool true) ∧ Below w.heap.size w w' := by
  have h29 := f29
  have HP := pow_wrap (1 + width % 8) (by omega) hk
  have hpos : (0 : Int) < 256 ^ (1 + width % 8).toNat := Int.pow_pos (by decide)
  have hne : ¬ IntKind.u64.wrap (2 ^ (8 * (1 + width % 8)).toNat) = 0 := by rw [HP]; omega
  have HM : Hid (0 ≤ n % IntKind.u64.wrap (2 ^ (8 * (1 + width % 8)).toNat) ∧ n % IntKind.u64.wrap (2 ^ (8 * (1 + width % 8)).toNat) < 256 ^ (1 + width % 8).toNat) := by
    rw [HP]; exact ⟨Int.emod_nonneg _ (by omega), Int.emod_lt_of_pos _ hpos⟩
  clear HP hpos
  go_enter Try.func5, Try.ntmps5
  go_wp2_with (first
    | (go_at_call 9; refine (shown_any _).mono ?_; rintro e w1 ⟨rfl, hB1⟩))
  generalize n % IntKind.u64.wrap (2 ^ (8 * (1 + width % 8)).toNat) = m at HM
  clear hne
  have hk1 : 1 ≤ 1 + width % 8 := by omega
  have hk8 : 1 + width % 8 ≤ 8 := by omega
  clear hk
  have hz1 := hB1.size
  generalize 1 + width % 8 = k at hk1 hk8 HM
  have HZ1 : Hid (numS (zed k.toNat m x s rest) 0 k = (m, 0, k.toNat)) := zed_num k hk1 hk8 m HM.out.1 HM.out.2 x s rest
  have HZ2 : Hid (realS (zed k.toNat m x s rest) k.toNat = (bitsOf x, 0, k.toNat + 8)) := by
    show _ = _
    rw [zed_real _ _ _ HX.out, bitsOf_bitsOf]
  have HZ3 : Hid (textS (zed k.toNat m x s rest) (k.toNat + 8) s.size = (s, 0, k.toNat + 10 + s.size)) := zed_text _ _ _ _ _ hs
  have hZ4 := zed_size k.toNat m x s rest
  have hdiv : m / 2 ^ (8 * k).toNat = 0 := by
    have := mod_div k hk1 m
    rwa [Int.emod_eq_of_lt HM.out.1 HM.out.2] at this
  refine (wnum_any (w1.heap.size + 1) w1.heap.size _ [] m k _ hk1 hk8 hdiv (Wr.new 27 5 w1) (by decide)).mono ?_
  rintro e w2 ⟨rfl, ⟨v2, hW2⟩, hB2⟩
  clear hdiv
  go_wp2_with fail
  refine (wreal_any _ _ _ _ x _ HX hW2 (by simp [le_length]; omega)).mono ?_
  rintro e w3 ⟨rfl, ⟨v3, hW3⟩, hB3⟩
  go_wp2_with fail
  refine (wtext_any _ _ _ _ s _ (by omega) hW3 (by simp [le_length]; omega)).mono ?_
  rintro e w4 ⟨rfl, ⟨v4, hW4⟩, hB4⟩
  go_wp2_with fail
  refine (bytes_any _ _ _ _ _ hW4).mono ?_
  rintro e w5 ⟨rfl, rfl⟩
  have hzz : zed k.toNat m x s rest = strOfNums ([] ++ le k.toNat m ++ le 8 ↑(bitsOf x) ++ (le 2 ↑s.size ++ ints s)) ++ rest := rfl
  generalize strOfNums ([] ++ le k.toNat m ++ le 8 ↑(bitsOf x) ++ (le 2 ↑s.size ++ ints s)) = Y at hzz
  rw [hzz] at HZ1 HZ2 HZ3 hZ4
  clear hzz
  have hY : Y.size + rest.size < 5000 := by rw [ByteArray.size_append] at hZ4; omega
  obtain ⟨Z, hZ⟩ : ∃ Z, Z = Y ++ rest := ⟨_, rfl⟩
  rw [← hZ] at HZ1 HZ2 HZ3 hZ4
  have HZ : Hid _ := hZ
  have hz9 : Z.size ≤ 1000000000 := by omega
  have hz0 : k.toNat ≤ Z.size := by omega
  have hz7 : k.toNat + 8 ≤ Z.size := by omega
  have hz6 : k.toNat + 10 + s.size ≤ Z.size := by omega
  have hZ5 : (((Z.size : Int) - ((k.toNat + 10 + s.size : Nat) : Int)) == (rest.size : Int)) = true := by rw [beq_iff_eq]; omega
  generalize k.toNat + 10 + s.size = P3 at HZ3 hz6 hZ5
  generalize hP2 : k.toNat + 8 = P2 at HZ2 HZ3 hz7
  generalize hP1 : k.toNat = P1 at HZ1 HZ2 hz0
  clear hP1 hP2 hZ4 hZ
  clear hW2 hW3 hk1 hk8
  go_wp2_with fail
  rw [← HZ.out]
  refine (new_any _ _).mono ?_
  rintro e w' ⟨rfl, rfl⟩
  go_wp2_with fail
  refine (rnum_any w5.heap.size Z 0 k _ (Rd.new 63 Z w5) (Nat.zero_le _) hz9).mono ?_
  rw [HZ1.out]
  rintro e w6 ⟨rfl, hR6, hB6⟩
  go_wp2_with fail
  refine (rreal_any w5.heap.size Z P1 _ hR6 hz0 hz9).mono ?_
  rw [HZ2.out]
  rintro e w7 ⟨rfl, hR7, hB7⟩
  go_wp2_with fail
  refine (rtext_any w5.heap.size Z P2 _ _ hR7 hz7 hz9).mono ?_
  rw [HZ3.out]
  rintro e w8 ⟨rfl, hR8, hB8⟩
  have HE : Hid (Below w.heap.size w w8) := by
    have a2 : Below w.heap.size w w2 := (hB1.alloc hz1 _).trans (hB2.belowAt hz1 (by omega))
    have a4 : Below w.heap.size w w5 := (a2.trans (hB3.belowAt hz1 (by omega))).trans (hB4.belowAt hz1 (by omega))
    have z5 := a4.size
    have z6 := hB6.size
    have z7 := hB7.size
    rw [World.size_alloc] at z6
    exact ((((a4.alloc z5 _).trans (hB6.belowAt z5 (by rw [World.size_alloc]; omega))).trans (hB7.belowAt z5 (by omega))).trans (hB8.belowAt z5 (by omega)))
  clear hB1 hB2 hB3 hB4 hB6 hB7 hB8 hW4 hR6 hR7 hY
  cases hx : nan x
  · rw [show bitsOf x = x by simp [bitsOf, hx]]
    have hxx : ((x : Int) == (x : Int)) = true := by simp
    go_wp2_with (first
      | (go_at_call 22; refine (alike_any _ _ _).mono ?_; rintro e w' ⟨rfl, rfl⟩; rw [hxx])
      | (go_at_call 25; refine (left_any w5.heap.size Z P3 _ hR8 hz6 hz9).mono ?_; rintro e w' ⟨rfl, rfl⟩))
    go_ret
    exact ⟨rfl, HE.out.drew⟩
  · rw [show bitsOf x = 9221120237041090561 by simp [bitsOf, hx]]
    have hx1 : (FloatKind.f64.format.order x x != some Ordering.eq) = true := hx
    have hx2 : (FloatKind.f64.format.order 9221120237041090561 9221120237041090561 != some Ordering.eq) = true := nan_odd
    cases hxy : ((x : Int) == ((9221120237041090561 : Nat) : Int))
    all_goals
      go_wp2_with fail
      refine (alike_any _ _ _).mono ?_
      rintro e w' ⟨rfl, rfl⟩
      rw [hxy]
      go_wp2_with (first
        | (go_at_call 22; refine (alike_any _ _ _).mono ?_; rintro e w' ⟨rfl, rfl⟩)
        | (go_at_call 25; refine (left_any w5.heap.size Z P3 _ hR8 hz6 hz9).mono ?_; rintro e w' ⟨rfl, rfl⟩))
      go_ret
      exact ⟨rfl, HE.out.drew⟩

set_option maxHeartbeats 2000000 in
theorem back_eq (n width : Int) (x : Nat) (s rest : ByteArray) (w : World) (hs : s.size ≤ 300) (hr : rest.size ≤ 300) (hw0 : 0 ≤ width) (hw1 : width ≤ 255) (hn0 : 0 ≤ n) (HN : Hid (n ≤ 18446744073709551615)) (HX : Hid (x < 2 ^ 64)) (hk : 8 ≤ 1 + width % 8) :
    Calls Try.prog 5 #[.int .u64 n, .int .u8 width, .float .f64 x, .string s, .string rest] w fun e w' => e = .returned (.bool true) ∧ Below w.heap.size w w' := by
  have h29 := f29
  have HM : Hid (0 ≤ n ∧ n < 256 ^ (1 + width % 8).toNat) := by
    refine ⟨hn0, ?_⟩
    rw [show 1 + width % 8 = 8 by omega]
    have := HN.out
    show n < 18446744073709551616
    omega
  obtain ⟨m, rfl⟩ : ∃ m, m = n := ⟨n, rfl⟩
  go_enter Try.func5, Try.ntmps5
  go_wp2_with (first
    | (go_at_call 9; refine (shown_any _).mono ?_; rintro e w1 ⟨rfl, hB1⟩))
  have hk1 : 1 ≤ 1 + width % 8 := by omega
  have hk8 : 1 + width % 8 ≤ 8 := by omega
  clear hk
  have hz1 := hB1.size
  generalize 1 + width % 8 = k at hk1 hk8 HM
  have HZ1 : Hid (numS (zed k.toNat m x s rest) 0 k = (m, 0, k.toNat)) := zed_num k hk1 hk8 m HM.out.1 HM.out.2 x s rest
  have HZ2 : Hid (realS (zed k.toNat m x s rest) k.toNat = (bitsOf x, 0, k.toNat + 8)) := by
    show _ = _
    rw [zed_real _ _ _ HX.out, bitsOf_bitsOf]
  have HZ3 : Hid (textS (zed k.toNat m x s rest) (k.toNat + 8) s.size = (s, 0, k.toNat + 10 + s.size)) := zed_text _ _ _ _ _ hs
  have hZ4 := zed_size k.toNat m x s rest
  have hdiv : m / 2 ^ (8 * k).toNat = 0 := by
    have := mod_div k hk1 m
    rwa [Int.emod_eq_of_lt HM.out.1 HM.out.2] at this
  refine (wnum_any (w1.heap.size + 1) w1.heap.size _ [] m k _ hk1 hk8 hdiv (Wr.new 27 5 w1) (by decide)).mono ?_
  rintro e w2 ⟨rfl, ⟨v2, hW2⟩, hB2⟩
  clear hdiv
  go_wp2_with fail
  refine (wreal_any _ _ _ _ x _ HX hW2 (by simp [le_length]; omega)).mono ?_
  rintro e w3 ⟨rfl, ⟨v3, hW3⟩, hB3⟩
  go_wp2_with fail
  refine (wtext_any _ _ _ _ s _ (by omega) hW3 (by simp [le_length]; omega)).mono ?_
  rintro e w4 ⟨rfl, ⟨v4, hW4⟩, hB4⟩
  go_wp2_with fail
  refine (bytes_any _ _ _ _ _ hW4).mono ?_
  rintro e w5 ⟨rfl, rfl⟩
  have hzz : zed k.toNat m x s rest = strOfNums ([] ++ le k.toNat m ++ le 8 ↑(bitsOf x) ++ (le 2 ↑s.size ++ ints s)) ++ rest := rfl
  generalize strOfNums ([] ++ le k.toNat m ++ le 8 ↑(bitsOf x) ++ (le 2 ↑s.size ++ ints s)) = Y at hzz
  rw [hzz] at HZ1 HZ2 HZ3 hZ4
  clear hzz
  have hY : Y.size + rest.size < 5000 := by rw [ByteArray.size_append] at hZ4; omega
  obtain ⟨Z, hZ⟩ : ∃ Z, Z = Y ++ rest := ⟨_, rfl⟩
  rw [← hZ] at HZ1 HZ2 HZ3 hZ4
  have HZ : Hid _ := hZ
  have hz9 : Z.size ≤ 1000000000 := by omega
  have hz0 : k.toNat ≤ Z.size := by omega
  have hz7 : k.toNat + 8 ≤ Z.size := by omega
  have hz6 : k.toNat + 10 + s.size ≤ Z.size := by omega
  have hZ5 : (((Z.size : Int) - ((k.toNat + 10 + s.size : Nat) : Int)) == (rest.size : Int)) = true := by rw [beq_iff_eq]; omega
  generalize k.toNat + 10 + s.size = P3 at HZ3 hz6 hZ5
  generalize hP2 : k.toNat + 8 = P2 at HZ2 HZ3 hz7
  generalize hP1 : k.toNat = P1 at HZ1 HZ2 hz0
  clear hP1 hP2 hZ4 hZ
  clear hW2 hW3 hk1 hk8
  go_wp2_with fail
  rw [← HZ.out]
  refine (new_any _ _).mono ?_
  rintro e w' ⟨rfl, rfl⟩
  go_wp2_with fail
  refine (rnum_any w5.heap.size Z 0 k _ (Rd.new 63 Z w5) (Nat.zero_le _) hz9).mono ?_
  rw [HZ1.out]
  rintro e w6 ⟨rfl, hR6, hB6⟩
  go_wp2_with fail
  refine (rreal_any w5.heap.size Z P1 _ hR6 hz0 hz9).mono ?_
  rw [HZ2.out]
  rintro e w7 ⟨rfl, hR7, hB7⟩
  go_wp2_with fail
  refine (rtext_any w5.heap.size Z P2 _ _ hR7 hz7 hz9).mono ?_
  rw [HZ3.out]
  rintro e w8 ⟨rfl, hR8, hB8⟩
  have HE : Hid (Below w.heap.size w w8) := by
    have a2 : Below w.heap.size w w2 := (hB1.alloc hz1 _).trans (hB2.belowAt hz1 (by omega))
    have a4 : Below w.heap.size w w5 := (a2.trans (hB3.belowAt hz1 (by omega))).trans (hB4.belowAt hz1 (by omega))
    have z5 := a4.size
    have z6 := hB6.size
    have z7 := hB7.size
    rw [World.size_alloc] at z6
    exact ((((a4.alloc z5 _).trans (hB6.belowAt z5 (by rw [World.size_alloc]; omega))).trans (hB7.belowAt z5 (by omega))).trans (hB8.belowAt z5 (by omega)))
  clear hB1 hB2 hB3 hB4 hB6 hB7 hB8 hW4 hR6 hR7 hY
  cases hx : nan x
  · rw [show bitsOf x = x by simp [bitsOf, hx]]
    have hxx : ((x : Int) == (x : Int)) = true := by simp
    go_wp2_with (first
      | (go_at_call 22; refine (alike_any _ _ _).mono ?_; rintro e w' ⟨rfl, rfl⟩; rw [hxx])
      | (go_at_call 25; refine (left_any w5.heap.size Z P3 _ hR8 hz6 hz9).mono ?_; rintro e w' ⟨rfl, rfl⟩))
    go_ret
    exact ⟨rfl, HE.out.drew⟩
  · rw [show bitsOf x = 9221120237041090561 by simp [bitsOf, hx]]
    have hx1 : (FloatKind.f64.format.order x x != some Ordering.eq) = true := hx
    have hx2 : (FloatKind.f64.format.order 9221120237041090561 9221120237041090561 != some Ordering.eq) = true := nan_odd
    cases hxy : ((x : Int) == ((9221120237041090561 : Nat) : Int))
    all_goals
      go_wp2_with fail
      refine (alike_any _ _ _).mono ?_
      rintro e w' ⟨rfl, rfl⟩
      rw [hxy]
      go_wp2_with (first
        | (go_at_call 22; refine (alike_any _ _ _).mono ?_; rintro e w' ⟨rfl, rfl⟩)
        | (go_at_call 25; refine (left_any w5.heap.size Z P3 _ hR8 hz6 hz9).mono ?_; rintro e w' ⟨rfl, rfl⟩))
      go_ret
      exact ⟨rfl, HE.out.drew⟩

set_option maxHeartbeats 400000 in
theorem back_long (n width : Int) (x : Nat) (s rest : ByteArray) (w : World) (h : 300 < s.size ∨ (s.size ≤ 300 ∧ 300 < rest.size)) :
    Calls Try.prog 5 #[.int .u64 n, .int .u8 width, .float .f64 x, .string s, .string rest] w fun e w' => e = .returned (.bool true) ∧ Below w.heap.size w w' := by
  rcases h with h | ⟨h, h'⟩
  all_goals
    go_enter Try.func5, Try.ntmps5
    go_wp2_with (go_at_call 9; refine (shown_any _).mono ?_; rintro e w1 ⟨rfl, hB1⟩)
    go_ret
    exact ⟨rfl, hB1⟩

theorem back_walk (n width : Int) (x : Nat) (s rest : ByteArray) (wn : (Lit.int .u64 n).wf = true) (ww : (Lit.int .u8 width).wf = true) (wx : (Lit.float .f64 x).wf = true) (_hs : s.size ≤ maxLen) (_hr : rest.size ≤ maxLen) (w : World) :
    Calls Try.prog 5 #[.int .u64 n, .int .u8 width, .float .f64 x, .string s, .string rest] w fun e w' => e = .returned (.bool true) ∧ Below w.heap.size w w' := by
  obtain ⟨hw0, hw1⟩ := bounds_u8 ww
  obtain ⟨hn0, hn1⟩ := bounds_u64 wn
  have HX : Hid (x < 2 ^ 64) := by show x < 2 ^ 64; simpa [Lit.wf] using wx
  by_cases h1 : 300 < s.size
  · exact back_long n width x s rest w (Or.inl h1)
  · by_cases h2 : 300 < rest.size
    · exact back_long n width x s rest w (Or.inr ⟨by omega, h2⟩)
    · by_cases hk : 1 + width % 8 < 8
      · exact back_lt n width x s rest w (by omega) (by omega) hw0 hw1 hn0 hn1 HX hk
      · exact back_eq n width x s rest w (by omega) (by omega) hw0 hw1 hn0 hn1 HX (by omega)
end Go.Proofs.Ytglpdchdkabajaa
