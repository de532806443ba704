/-
  The walks of the document's own answers for numbers, reals and texts in bytes.
-/
import Derived.Test.YtglpdchdkabajaaRel
import Derived.Test.YtglpdchdkabajaaAll
namespace Go.Proofs.Ytglpdchdkabajaa
open Go.RowKit

theorem own_string {w : World} {B : Nat} {v : Value} {l : List Int} (h : w.ownsRow B 5 1 v l.length (l.map (Value.int .u8))) : (convert 25 9 v).run Try.prog w = .ok (.string (strOfNums l)) w := by
  rcases h.2 with ⟨hv, hn⟩ | ⟨g, cap, cur, hv, _⟩
  · have : l = [] := List.length_eq_zero_iff.1 hn
    subst this; subst hv
    exact run_convert_bytes_nil w 25 5 Try.underlying25 Try.underlying5 0 0 9 Try.underlying9
  · subst hv
    have hcl := h.cells (g := g) rfl
    refine run_convert_bytes_arg w 25 5 Try.underlying25 Try.underlying5 g 0 l.length cap l rfl (fun i hi => ?_) 9 Try.underlying9
    have := hcl i (.int .u8 (l.getD i 0)) (by simp [List.getElem?_eq_getElem hi])
    rw [← this]; unfold Addr.add; split <;> simp_all

set_option maxHeartbeats 400000 in
theorem fnum_bad (n width : Int) (w : World) (h : width < 1 ∨ 8 < width) :
    Calls Try.prog 11 #[.int .u64 n, .int .i64 width] w fun e w' => e = .returned (.tuple #[.string ByteArray.empty, .int .i64 1]) ∧ w' = w := by
  rcases h with h | h
  · go_enter Try.func11, Try.ntmps11
    go_wp2
    go_ret2
    exact ⟨rfl, rfl⟩
  · have h1 : ¬ width < 1 := by omega
    go_enter Try.func11, Try.ntmps11
    go_wp2
    go_ret2
    exact ⟨rfl, rfl⟩
set_option maxHeartbeats 400000 in
theorem fnum_great (n width : Int) (w : World) (h1 : 1 ≤ width) (h2 : width < 8) (hn : 0 < n / 2 ^ (8 * width).toNat) :
    Calls Try.prog 11 #[.int .u64 n, .int .i64 width] w fun e w' => e = .returned (.tuple #[.string ByteArray.empty, .int .i64 1]) ∧ w' = w := by
  go_enter Try.func11, Try.ntmps11
  go_wp2
  go_ret2
  exact ⟨rfl, rfl⟩
set_option maxHeartbeats 1000000 in
theorem fnum_ok (n width : Int) (w : World) (h1 : 1 ≤ width) (h2 : width ≤ 8) (hn : width < 8 → ¬ 0 < n / 2 ^ (8 * width).toNat) :
    Calls Try.prog 11 #[.int .u64 n, .int .i64 width] w fun e w' => e = .returned (.tuple #[.string (strOfNums (le width.toNat n)), .int .i64 0]) ∧ Below w.heap.size w w' := by
  obtain ⟨i0, hi, hz0, hz1, hz2⟩ := info_parts Try.info5
  have d1 : decide (width < 1) = false := by simp; omega
  have d2 : decide (8 < width) = false := by simp; omega
  by_cases h8 : width < 8
  · have hn' : decide (0 < n / 2 ^ (8 * width).toNat) = false := decide_eq_false (hn h8)
    have h8' : decide (width < 8) = true := decide_eq_true h8
    clear hn
    go_enter Try.func11, Try.ntmps11
    go_wp2
    go_loopg [6, 7] width.toNat (fun gk b i wr => ∃ k : Nat, k + gk = width.toNat ∧ i = .int .i64 k ∧ wr.ownsRow w.heap.size 5 1 b (le k n).length ((le k n).map (Value.int .u8)) ∧ Below w.heap.size w wr)
    case atStart =>
      refine ⟨0, by omega, rfl, ?_, (Below.refl _ _).alloc (Nat.le_refl _) _⟩
      exact ⟨rfl, Or.inr ⟨w.heap.size, 0, #[], rfl, Nat.le_refl _, by show (w.heap.push _)[w.heap.size]? = _; simp, Nat.le_refl _, by decide, rfl, rfl⟩⟩
    case round =>
      obtain ⟨k, hk, rfl, hO, hB⟩ := hrel
      by_cases hlt : (k : Int) < width
      · have hll := le_length k n
        have hv : n / 2 ^ (8 * k) % 256 = n / 256 ^ k % 256 := by rw [Int.pow_mul]; rfl
        have HV : Hid _ := hv
        clear hv
        have hbz := hB.size
        generalize hL : le k n = L at hO hll
        have HL : Hid (le k n = L) := hL
        clear hL
        go_wp2_with (at_builtin; refine wpList_append_own _ rfl (.tmp 31) (.tmp 37) 25 rfl w.heap.size 5 i0 (.int .u8 0) 1 1 Try.underlying25 hi hz0 hz1 hz2 rfl (by decide) _ _ _ rfl (hO.alloc _) ⟨wr.heap.size, 0, none⟩ 1 1 [.int .u8 (n / 2 ^ (8 * k) % 256)] rfl rfl ?c1 ?c2 ?c3 ?c4 ?c5 ?_)
        case c1 => exact cell_one_new _ _ _
        case c2 => intro u hu; simp at hu; subst hu; rfl
        case c3 => unfold maxLen; omega
        case c4 => omega
        case c5 => simp; omega
        intro v1 w1 hown hgrow _
        have hb1 : Below w.heap.size w w1 := (hB.alloc hbz _).grown hgrow (by simp; omega) (fun q hq => (hO.lt q hq).1)
        clear hgrow
        go_wp2
        go_roundg (gk - 1)
        case measure => omega
        case rel =>
          refine ⟨k + 1, by omega, by go_num, ?_, hb1⟩
          rw [le, ← HV.out, HL.out]
          simpa [hll] using hown
      · have hc := own_string hO
        have e : k = width.toNat := by omega
        subst e
        go_wp2
        go_ret2
        exact ⟨rfl, hB⟩
  · have h8' : decide (width < 8) = false := by simp; omega
    clear hn
    go_enter Try.func11, Try.ntmps11
    go_wp2
    go_loopg [6, 7] width.toNat (fun gk b i wr => ∃ k : Nat, k + gk = width.toNat ∧ i = .int .i64 k ∧ wr.ownsRow w.heap.size 5 1 b (le k n).length ((le k n).map (Value.int .u8)) ∧ Below w.heap.size w wr)
    case atStart =>
      refine ⟨0, by omega, rfl, ?_, (Below.refl _ _).alloc (Nat.le_refl _) _⟩
      exact ⟨rfl, Or.inr ⟨w.heap.size, 0, #[], rfl, Nat.le_refl _, by show (w.heap.push _)[w.heap.size]? = _; simp, Nat.le_refl _, by decide, rfl, rfl⟩⟩
    case round =>
      obtain ⟨k, hk, rfl, hO, hB⟩ := hrel
      by_cases hlt : (k : Int) < width
      · have hll := le_length k n
        have hv : n / 2 ^ (8 * k) % 256 = n / 256 ^ k % 256 := by rw [Int.pow_mul]; rfl
        have HV : Hid _ := hv
        clear hv
        have hbz := hB.size
        generalize hL : le k n = L at hO hll
        have HL : Hid (le k n = L) := hL
        clear hL
        go_wp2_with (at_builtin; refine wpList_append_own _ rfl (.tmp 31) (.tmp 37) 25 rfl w.heap.size 5 i0 (.int .u8 0) 1 1 Try.underlying25 hi hz0 hz1 hz2 rfl (by decide) _ _ _ rfl (hO.alloc _) ⟨wr.heap.size, 0, none⟩ 1 1 [.int .u8 (n / 2 ^ (8 * k) % 256)] rfl rfl ?c1 ?c2 ?c3 ?c4 ?c5 ?_)
        case c1 => exact cell_one_new _ _ _
        case c2 => intro u hu; simp at hu; subst hu; rfl
        case c3 => unfold maxLen; omega
        case c4 => omega
        case c5 => simp; omega
        intro v1 w1 hown hgrow _
        have hb1 : Below w.heap.size w w1 := (hB.alloc hbz _).grown hgrow (by simp; omega) (fun q hq => (hO.lt q hq).1)
        clear hgrow
        go_wp2
        go_roundg (gk - 1)
        case measure => omega
        case rel =>
          refine ⟨k + 1, by omega, by go_num, ?_, hb1⟩
          rw [le, ← HV.out, HL.out]
          simpa [hll] using hown
      · have hc := own_string hO
        have e : k = width.toNat := by omega
        subst e
        go_wp2
        go_ret2
        exact ⟨rfl, hB⟩

theorem fnum_any (n width : Int) (w : World) (h0 : 0 ≤ n) (hn : n ≤ 18446744073709551615) :
    Calls Try.prog 11 #[.int .u64 n, .int .i64 width] w fun e w' => e = .returned (.tuple #[.string (strOfNums (wnumS n width).2), .int .i64 (wnumS n width).1]) ∧ Below w.heap.size w w' := by
  unfold wnumS
  by_cases h1 : width < 1 ∨ 8 < width
  · rw [if_pos h1]
    refine (fnum_bad n width w h1).mono ?_
    rintro e w' ⟨rfl, rfl⟩
    exact ⟨rfl, Below.refl _ _⟩
  · rw [if_neg h1]
    by_cases h2 : n / 2 ^ (8 * width).toNat = 0
    · rw [if_pos h2]
      exact fnum_ok n width w (by omega) (by omega) (fun _ => by omega)
    · rw [if_neg h2]
      have hpos : 0 ≤ n / 2 ^ (8 * width).toNat := Int.ediv_nonneg h0 (Int.le_of_lt (Int.pow_pos (by decide)))
      have h8 : width < 8 := by
        rcases Int.lt_or_le width 8 with h | h
        · exact h
        · exfalso; apply h2
          rw [show width = 8 by omega]
          exact Int.ediv_eq_zero_of_lt h0 (by show n < 18446744073709551616; omega)
      refine (fnum_great n width w (by omega) h8 (by omega)).mono ?_
      rintro e w' ⟨rfl, rfl⟩
      exact ⟨rfl, Below.refl _ _⟩

set_option maxHeartbeats 400000 in
theorem fbits_any (b : Nat) (w : World) : Calls Try.prog 32 #[.float .f64 b] w fun e w' => e = .returned (.int .u64 (bitsOf b)) ∧ w' = w := by
  have h35 := f35
  have hb : bitsOf b = if (FloatKind.f64.format.order b b != some Ordering.eq) = true then 9221120237041090561 else b := rfl
  have HB : Hid _ := hb
  clear hb
  cases hn : (FloatKind.f64.format.order b b != some Ordering.eq) <;> rw [hn] at HB
  all_goals
    go_enter Try.func32, Try.ntmps32
    go_wp2
    go_ret
    rw [HB.out]
    exact ⟨rfl, rfl⟩

theorem bits_le (b : Nat) (h : b < 2 ^ 64) : ((bitsOf b : Nat) : Int) ≤ 18446744073709551615 := by
  have := bitsOf_lt b h
  omega
theorem wnumS_bits (b : Nat) (h : b < 2 ^ 64) : wnumS (bitsOf b) 8 = (0, le 8 (bitsOf b)) := by
  unfold wnumS
  rw [if_neg (by omega), if_pos (bits_div b h)]; rfl
theorem wnumS_len (n : Nat) (h : n ≤ 65535) : wnumS n 2 = (0, le 2 n) := by
  unfold wnumS
  rw [if_neg (by omega), if_pos (len_div n h)]; rfl

set_option maxHeartbeats 400000 in
theorem freal_any (b : Nat) (w : World) (hb : Hid (b < 2 ^ 64)) : Calls Try.prog 13 #[.float .f64 b] w fun e w' => e = .returned (.string (strOfNums (le 8 (bitsOf b)))) ∧ Below w.heap.size w w' := by
  go_enter Try.func13, Try.ntmps13
  go_wp2_with (first
    | (go_at_call 32; refine (fbits_any _ _).mono ?_; rintro e w' ⟨rfl, rfl⟩)
    | (go_at_call 11; refine (fnum_any _ 8 _ (Int.natCast_nonneg _) (bits_le b hb.out)).mono ?_; rw [wnumS_bits b hb.out]; rintro e w' ⟨rfl, h1⟩))
  go_ret
  exact ⟨rfl, h1⟩

set_option maxHeartbeats 400000 in
theorem ftext_any (s : ByteArray) (w : World) (hs : s.size ≤ 65535) : Calls Try.prog 15 #[.string s] w fun e w' => e = .returned (.tuple #[.string (strOfNums (le 2 s.size ++ ints s)), .int .i64 0]) ∧ Below w.heap.size w w' := by
  have HS : Hid (strOfNums (le 2 s.size ++ ints s) = strOfNums (le 2 s.size) ++ s) := by show _ = _; rw [strOfNums_append, strOfNums_ints]
  have hsz : (strOfNums (le 2 s.size)).size = 2 := by rw [strOfNums_size, le_length]
  generalize strOfNums (le 2 s.size ++ ints s) = Y at HS
  generalize hX : strOfNums (le 2 s.size) = X at HS hsz
  have HX : Hid (strOfNums (le 2 s.size) = X) := hX
  clear hX
  have hlt : ¬ 9223372036854775807 < X.size + s.size := by omega
  go_enter Try.func15, Try.ntmps15
  go_wp2_with (go_at_call 11; refine (fnum_any _ 2 _ (Int.natCast_nonneg _) (by omega)).mono ?_; rw [wnumS_len s.size hs]; rintro e w' ⟨rfl, h1⟩; rw [HX.out])
  go_ret2
  rw [HS.out]
  exact ⟨rfl, h1⟩

set_option maxHeartbeats 400000 in
theorem ffloat_any (n : Int) (w : World) : Calls Try.prog 34 #[.int .u64 n] w fun e w' => e = .returned (.float .f64 (bitsOf n.toNat)) ∧ w' = w := by
  have h29 := f29
  generalize hb : n.toNat = b
  have hb' : bitsOf b = if (FloatKind.f64.format.order b b != some Ordering.eq) = true then 9221120237041090561 else b := rfl
  have HB : Hid _ := hb'
  clear hb'
  cases hn : (FloatKind.f64.format.order b b != some Ordering.eq) <;> rw [hn] at HB
  all_goals
    go_enter Try.func34, Try.ntmps34
    go_wp2
    go_ret
    rw [HB.out]
    exact ⟨rfl, rfl⟩

set_option maxHeartbeats 400000 in
theorem fleft_any (p : Nat) (s : ByteArray) (k : Nat) (w : World) (h : Rd 45 p s k w) (hk : k ≤ s.size) (hs : s.size ≤ 1000000000) :
    Calls Try.prog 26 #[.pointer (some ⟨p, 0, none⟩)] w fun e w' => e = .returned (.int .i64 (s.size - k)) ∧ w' = w.drew := by
  have h0 := h.cell0
  have h1 := h.cell1
  go_enter Try.func26, Try.ntmps26
  go_wp2
  go_region
  all_goals go_wp2
  all_goals go_ret
  all_goals exact ⟨rfl, rfl⟩

set_option maxHeartbeats 400000 in
theorem fend_any (p : Nat) (s : ByteArray) (k : Nat) (w : World) (h : Rd 45 p s k w) (hk : k ≤ s.size) (hs : s.size ≤ 1000000000) :
    Calls Try.prog 28 #[.pointer (some ⟨p, 0, none⟩)] w fun e w' => e = .returned (.int .i64 (if k < s.size then 11 else 0)) ∧ w' = w.drew := by
  by_cases hl : k < s.size
  · rw [if_pos hl]
    have hl' : (0 : Int) < (s.size : Int) - k := by omega
    go_enter Try.func28, Try.ntmps28
    go_wp2_with (go_at_call 26; refine (fleft_any p s k _ h hk hs).mono ?_; rintro e w' ⟨rfl, rfl⟩)
    go_ret
    exact ⟨rfl, rfl⟩
  · rw [if_neg hl]
    have hl' : ¬ (0 : Int) < (s.size : Int) - k := by omega
    go_enter Try.func28, Try.ntmps28
    go_wp2_with (go_at_call 26; refine (fleft_any p s k _ h hk hs).mono ?_; rintro e w' ⟨rfl, rfl⟩)
    go_ret
    exact ⟨rfl, rfl⟩
end Go.Proofs.Ytglpdchdkabajaa
