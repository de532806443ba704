/-
  What octet's Reader reads, as functions of the text and the place; its calls by them.
-/
import Derived.Test.YtglpdchdkabajaaSho
import Derived.OpenShut
namespace Go.Proofs.Ytglpdchdkabajaa
open Go.RowKit

/-- A number read: the number, the error, the place behind. -/
def numS (s : ByteArray) (k : Nat) (width : Int) : Int × Int × Nat :=
  if width < 1 ∨ 8 < width then (0, 1, k) else if s.size < k + width.toNat then (0, 10, k) else (ofLE (((ints s).drop k).take width.toNat), 0, k + width.toNat)
def realS (s : ByteArray) (k : Nat) : Nat × Int × Nat :=
  if s.size < k + 8 then (0, 10, k) else (bitsOf (ofLE (((ints s).drop k).take 8)).toNat, 0, k + 8)
def textS (s : ByteArray) (k : Nat) (most : Int) : ByteArray × Int × Nat :=
  if s.size < k + 2 then (ByteArray.empty, 10, k) else if most < ofLE (((ints s).drop k).take 2) then (ByteArray.empty, 12, k)
  else if (s.size : Int) < k + 2 + ofLE (((ints s).drop k).take 2) then (ByteArray.empty, 10, k)
  else (s.extract (k + 2) (k + 2 + (ofLE (((ints s).drop k).take 2)).toNat), 0, k + 2 + (ofLE (((ints s).drop k).take 2)).toNat)

theorem numS_cases (s : ByteArray) (k : Nat) (width : Int) :
    ((numS s k width).2.1 = 0 ∧ 1 ≤ width ∧ width ≤ 8 ∧ (numS s k width).2.2 = k + width.toNat ∧ k + width.toNat ≤ s.size) ∨ (((numS s k width).2.1 = 1 ∨ (numS s k width).2.1 = 10) ∧ (numS s k width).2.2 = k ∧ (numS s k width).1 = 0) := by
  unfold numS
  split
  · right; simp
  · split
    · right; simp
    · left; refine ⟨rfl, ?_, ?_, rfl, ?_⟩ <;> omega
theorem numS_le (s : ByteArray) (k : Nat) (width : Int) (hk : k ≤ s.size) : (numS s k width).2.2 ≤ s.size := by
  rcases numS_cases s k width with h | h <;> omega
theorem realS_le (s : ByteArray) (k : Nat) (hk : k ≤ s.size) : (realS s k).2.2 ≤ s.size := by unfold realS; split <;> simp <;> omega
theorem ofLE2 (s : ByteArray) (k : Nat) : 0 ≤ ofLE (((ints s).drop k).take 2) := (ofLE_bd _ (((ints_bytes s).drop k).take 2)).1
theorem textS_cases (s : ByteArray) (k : Nat) (most : Int) :
    ((textS s k most).2.1 = 0 ∧ (textS s k most).2.2 ≤ s.size) ∨ (((textS s k most).2.1 = 10 ∨ (textS s k most).2.1 = 12) ∧ (textS s k most).2.2 = k) := by
  have := ofLE2 s k
  unfold textS
  split
  · right; simp
  · split
    · right; simp
    · split
      · right; simp
      · left; refine ⟨rfl, ?_⟩; simp; omega
theorem textS_le (s : ByteArray) (k : Nat) (most : Int) (hk : k ≤ s.size) : (textS s k most).2.2 ≤ s.size := by
  rcases textS_cases s k most with h | h <;> omega

theorem rnum_any (p : Nat) (s : ByteArray) (k : Nat) (width : Int) (w : World) (h : Rd 63 p s k w) (hk : k ≤ s.size) (hs : s.size ≤ 1000000000) :
    Calls Try.prog 18 #[.pointer (some ⟨p, 0, none⟩), .int .i64 width] w fun e w' => e = .returned (.tuple #[.int .u64 (numS s k width).1, .int .i64 (numS s k width).2.1]) ∧ Rd 63 p s (numS s k width).2.2 w' ∧ But w.heap.size p w w' := by
  unfold numS
  by_cases h1 : width < 1 ∨ 8 < width
  · rw [if_pos h1]; exact rnum_width p s k width w h h1
  · rw [if_neg h1]
    by_cases h2 : s.size < k + width.toNat
    · rw [if_pos h2]; exact rnum_short p s k width w h (by omega) (by omega) hk h2 hs
    · rw [if_neg h2]; exact rnum_ok p s k width w h (by omega) (by omega) (by omega) hs
theorem rreal_any (p : Nat) (s : ByteArray) (k : Nat) (w : World) (h : Rd 63 p s k w) (hk : k ≤ s.size) (hs : s.size ≤ 1000000000) :
    Calls Try.prog 20 #[.pointer (some ⟨p, 0, none⟩)] w fun e w' => e = .returned (.tuple #[.float .f64 (realS s k).1, .int .i64 (realS s k).2.1]) ∧ Rd 63 p s (realS s k).2.2 w' ∧ But w.heap.size p w w' := by
  unfold realS
  by_cases h2 : s.size < k + 8
  · rw [if_pos h2]; exact rreal_short p s k w h hk h2 hs
  · rw [if_neg h2]; exact rreal_ok p s k w h (by omega) hs
theorem rtext_any (p : Nat) (s : ByteArray) (k : Nat) (most : Int) (w : World) (h : Rd 63 p s k w) (hk : k ≤ s.size) (hs : s.size ≤ 1000000000) :
    Calls Try.prog 23 #[.pointer (some ⟨p, 0, none⟩), .int .i64 most] w fun e w' => e = .returned (.tuple #[.string (textS s k most).1, .int .i64 (textS s k most).2.1]) ∧ Rd 63 p s (textS s k most).2.2 w' ∧ But w.heap.size p w w' := by
  unfold textS
  by_cases h1 : s.size < k + 2
  · rw [if_pos h1]; exact rtext_short p s k most w h hk h1 hs
  · rw [if_neg h1]
    by_cases h2 : most < ofLE (((ints s).drop k).take 2)
    · rw [if_pos h2]; exact rtext_wide p s k most w h (by omega) hs h2
    · rw [if_neg h2]
      by_cases h3 : (s.size : Int) < k + 2 + ofLE (((ints s).drop k).take 2)
      · rw [if_pos h3]; exact rtext_lack p s k most w h (by omega) hs (by omega) h3
      · rw [if_neg h3]; exact rtext_ok p s k most w h (by omega) hs (by omega) (by omega)

/-- A number written: the error, the bytes. -/
def wnumS (n width : Int) : Int × List Int :=
  if width < 1 ∨ 8 < width then (1, []) else if n / 2 ^ (8 * width).toNat = 0 then (0, le width.toNat n) else (1, [])
theorem wnum_all (B p : Nat) (v : Value) (l : List Int) (n width : Int) (w : World) (hW : W27 B p v l w) (hl : l.length ≤ 1000000000) :
    Calls Try.prog 10 #[.pointer (some ⟨p, 0, none⟩), .int .u64 n, .int .i64 width] w fun e w' => e = .returned (.int .i64 (wnumS n width).1) ∧ (∃ v', W27 B p v' (l ++ (wnumS n width).2) w') ∧ But B p w w' := by
  unfold wnumS
  by_cases h1 : width < 1 ∨ 8 < width
  · rw [if_pos h1]
    refine (wnum_width _ n width w h1).mono ?_
    rintro e w' ⟨rfl, rfl⟩
    exact ⟨rfl, ⟨v, by simpa using hW⟩, But.refl _ _ _⟩
  · rw [if_neg h1]
    by_cases h2 : n / 2 ^ (8 * width).toNat = 0
    · rw [if_pos h2]; exact wnum_any B p v l n width w (by omega) (by omega) h2 hW hl
    · rw [if_neg h2]
      refine (wnum_great _ n width w (by omega) (by omega) (by simpa using h2)).mono ?_
      rintro e w' ⟨rfl, rfl⟩
      exact ⟨rfl, ⟨v, by simpa using hW⟩, But.refl _ _ _⟩
theorem wnumS_cases (n width : Int) : ((wnumS n width).1 = 0 ∧ 0 < (wnumS n width).2.length ∧ (wnumS n width).2.length ≤ 8) ∨ ((wnumS n width).1 = 1 ∧ (wnumS n width).2 = []) := by
  unfold wnumS
  split
  · right; simp
  · split
    · left; simp [le_length]; omega
    · right; simp
end Go.Proofs.Ytglpdchdkabajaa
