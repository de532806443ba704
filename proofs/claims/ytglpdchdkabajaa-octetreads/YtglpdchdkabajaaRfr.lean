/-
  The walks of the document's own Reader.
-/
import Derived.Test.YtglpdchdkabajaaRef
namespace Go.Proofs.Ytglpdchdkabajaa
open Go.RowKit

set_option maxHeartbeats 1000000 in
theorem frnum_ok (p : Nat) (s : ByteArray) (k : Nat) (width : Int) (w : World) (h : Rd 45 p s k w) (hw1 : 1 ≤ width) (hw2 : width ≤ 8) (hk : k + width.toNat ≤ s.size) (hs : s.size ≤ 1000000000) :
    Calls Try.prog 19 #[.pointer (some ⟨p, 0, none⟩), .int .i64 width] w fun e w' => e = .returned (.tuple #[.int .u64 (ofLE (((ints s).drop k).take width.toNat)), .int .i64 0]) ∧ Rd 45 p s (k + width.toNat) w' ∧ But w.heap.size p w w' := by
  have hp := h.lt
  have d1 : decide (width < 1) = false := by simp; omega
  have d2 : decide (8 < width) = false := by simp; omega
  have d3 : decide ((s.size : Int) - k < width) = false := by simp; omega
  go_enter Try.func19, Try.ntmps19
  go_wp2_with (go_at_call 26; refine (fleft_any p s k _ h (by omega) hs).mono ?_; rintro e w' ⟨rfl, rfl⟩)
  go_loopg [6, 7] width.toNat (fun gk n i wr => ∃ j : Nat, j + gk = width.toNat ∧ i = .int .i64 j ∧ n = .int .u64 (ofLE (((ints s).drop k).take j)) ∧ ∃ q, wr = w.drewN q)
  case atStart => exact ⟨0, by omega, rfl, rfl, 1, rfl⟩
  case round =>
    obtain ⟨j, hj, rfl, rfl, q, rfl⟩ := hrel
    by_cases hlt : (j : Int) < width
    · have hms : (k : Int) + j < s.size := by omega
      have hms0 : (0 : Int) ≤ (k : Int) + j := by omega
      have h0 := h.cell0
      have h1 := h.cell1
      generalize hN : ofLE (((ints s).drop k).take j) = nn
      have HN : Hid _ := hN
      clear hN
      go_wp2_with fail
      go_quiet (fail)
      go_wp2
      go_roundg (gk - 1)
      case measure => omega
      case rel =>
        refine ⟨j + 1, by omega, by go_num, ?_, _, rfl⟩
        rw [← num_step s k j (by omega) (by omega), HN.out]
    · have h0 := h.cell0
      have h1 := h.cell1
      have hf := h.frozen
      have e : j = width.toNat := by omega
      go_wp2
      go_ret2
      have ek : ((k + width.toNat : Nat) : Int) = (k : Int) + width := by omega
      refine ⟨rfl, ?_, ?_⟩
      · rw [← ek]; exact h.set (k + width.toNat)
      · exact ((But.refl _ _ _).drewN _).setCell (q := ⟨p, 1, none⟩) (Or.inl rfl) _

set_option maxHeartbeats 400000 in
theorem frnum_short (p : Nat) (s : ByteArray) (k : Nat) (width : Int) (w : World) (h : Rd 45 p s k w) (hw1 : 1 ≤ width) (hw2 : width ≤ 8) (hk0 : k ≤ s.size) (hk : s.size < k + width.toNat) (hs : s.size ≤ 1000000000) :
    Calls Try.prog 19 #[.pointer (some ⟨p, 0, none⟩), .int .i64 width] w fun e w' => e = .returned (.tuple #[.int .u64 0, .int .i64 10]) ∧ Rd 45 p s k w' ∧ But w.heap.size p w w' := by
  have d3 : (s.size : Int) - k < width := by omega
  go_enter Try.func19, Try.ntmps19
  go_wp2_with (go_at_call 26; refine (fleft_any p s k _ h (by omega) hs).mono ?_; rintro e w' ⟨rfl, rfl⟩)
  go_ret2
  exact ⟨rfl, h, (But.refl _ _ _).drew⟩
set_option maxHeartbeats 400000 in
theorem frnum_width (p : Nat) (s : ByteArray) (k : Nat) (width : Int) (w : World) (h : Rd 45 p s k w) (hw : width < 1 ∨ 8 < width) :
    Calls Try.prog 19 #[.pointer (some ⟨p, 0, none⟩), .int .i64 width] w fun e w' => e = .returned (.tuple #[.int .u64 0, .int .i64 1]) ∧ Rd 45 p s k w' ∧ But w.heap.size p w w' := by
  rcases hw with hw | hw
  · go_enter Try.func19, Try.ntmps19
    go_wp2
    go_ret2
    exact ⟨rfl, h, But.refl _ _ _⟩
  · have h1 : ¬ width < 1 := by omega
    go_enter Try.func19, Try.ntmps19
    go_wp2
    go_ret2
    exact ⟨rfl, h, But.refl _ _ _⟩
theorem frnum_any (p : Nat) (s : ByteArray) (k : Nat) (width : Int) (w : World) (h : Rd 45 p s k w) (hk : k ≤ s.size) (hs : s.size ≤ 1000000000) :
    Calls Try.prog 19 #[.pointer (some ⟨p, 0, none⟩), .int .i64 width] w fun e w' => e = .returned (.tuple #[.int .u64 (numS s k width).1, .int .i64 (numS s k width).2.1]) ∧ Rd 45 p s (numS s k width).2.2 w' ∧ But w.heap.size p w w' := by
  unfold numS
  by_cases h1 : width < 1 ∨ 8 < width
  · rw [if_pos h1]; exact frnum_width p s k width w h h1
  · rw [if_neg h1]
    by_cases h2 : s.size < k + width.toNat
    · rw [if_pos h2]; exact frnum_short p s k width w h (by omega) (by omega) hk h2 hs
    · rw [if_neg h2]; exact frnum_ok p s k width w h (by omega) (by omega) (by omega) hs

set_option maxHeartbeats 400000 in
theorem frreal_any (p : Nat) (s : ByteArray) (k : Nat) (w : World) (h : Rd 45 p s k w) (hk : k ≤ s.size) (hs : s.size ≤ 1000000000) :
    Calls Try.prog 21 #[.pointer (some ⟨p, 0, none⟩)] w fun e w' => e = .returned (.tuple #[.float .f64 (realS s k).1, .int .i64 (realS s k).2.1]) ∧ Rd 45 p s (realS s k).2.2 w' ∧ But w.heap.size p w w' := by
  unfold realS
  by_cases h2 : s.size < k + 8
  · rw [if_pos h2]
    go_enter Try.func21, Try.ntmps21
    go_wp2_with (go_at_call 19; refine (frnum_short p s k 8 _ h (by decide) (by decide) hk h2 hs).mono ?_; rintro e w' ⟨rfl, h1, h2⟩)
    go_ret2
    exact ⟨rfl, h1, h2⟩
  · rw [if_neg h2]
    have hk8 : k + 8 ≤ s.size := by omega
    generalize hN : ofLE (((ints s).drop k).take 8) = nn
    have HN : Hid _ := hN
    clear hN h2
    go_enter Try.func21, Try.ntmps21
    go_wp2_with (first
      | (go_at_call 19; refine (frnum_ok p s k 8 _ h (by decide) (by decide) hk8 hs).mono ?_; rintro e w' ⟨rfl, h1, h2⟩; rw [show Int.toNat 8 = 8 from rfl, HN.out])
      | (go_at_call 34; refine (ffloat_any _ _).mono ?_; rintro e w' ⟨rfl, rfl⟩))
    go_ret2
    exact ⟨rfl, h1, h2⟩

set_option maxHeartbeats 1000000 in
theorem frtext_any (p : Nat) (s : ByteArray) (k : Nat) (most : Int) (w : World) (h : Rd 45 p s k w) (hk : k ≤ s.size) (hs : s.size ≤ 1000000000) :
    Calls Try.prog 24 #[.pointer (some ⟨p, 0, none⟩), .int .i64 most] w fun e w' => e = .returned (.tuple #[.string (textS s k most).1, .int .i64 (textS s k most).2.1]) ∧ Rd 45 p s (textS s k most).2.2 w' ∧ But w.heap.size p w w' := by
  have g0 := h.cell0
  have g1 := h.cell1
  have gp := h.lt
  have hnb := ofLE_bd (((ints s).drop k).take 2) (((ints_bytes s).drop k).take 2)
  unfold textS
  by_cases h1 : s.size < k + 2
  · rw [if_pos h1]
    clear hnb
    go_enter Try.func24, Try.ntmps24
    go_wp2_with (go_at_call 19; refine (frnum_short p s k 2 _ h (by decide) (by decide) hk h1 hs).mono ?_; rintro e w' ⟨rfl, h1, h2⟩)
    go_ret2
    exact ⟨rfl, h1, h2⟩
  · rw [if_neg h1]
    have hk2 : k + 2 ≤ s.size := by omega
    have hnl : (((ints s).drop k).take 2).length = 2 := by simp [ints_length]; omega
    rw [hnl] at hnb
    generalize hN : ofLE (((ints s).drop k).take 2) = nn at hnb
    obtain ⟨n, rfl⟩ := Int.eq_ofNat_of_zero_le hnb.1
    have hn1 : n < 65536 := by have := hnb.2; omega
    have HN : Hid _ := hN
    clear hN hnb hnl h1
    obtain ⟨k2, hk2e⟩ : ∃ k2, k2 = k + 2 := ⟨_, rfl⟩
    have hk3 : k2 ≤ s.size := by omega
    rw [Int.toNat_natCast, ← hk2e]
    by_cases h2 : most < n
    · rw [if_pos h2]
      have HK : Hid _ := hk2e
      clear hk2e
      go_enter Try.func24, Try.ntmps24
      go_wp2_with (go_at_call 19; refine (frnum_ok p s k 2 _ h (by decide) (by decide) hk2 hs).mono ?_; rintro e w2 ⟨rfl, h1, hb2⟩; rw [show Int.toNat 2 = 2 from rfl] at h1; rw [show Int.toNat 2 = 2 from rfl, HN.out]; rw [← HK.out] at h1; have g2 := h1.cell0; have g3 := h1.cell1; have gf := h1.frozen; have gl := h1.lt)
      go_ret2
      exact ⟨rfl, h1.set k, hb2.setCell (q := ⟨p, 1, none⟩) (Or.inl rfl) _⟩
    · rw [if_neg h2]
      by_cases h3 : (s.size : Int) < k + 2 + n
      · rw [if_pos h3]
        have hl : (s.size : Int) - k2 < n := by omega
        have HK : Hid _ := hk2e
        clear hk2e h3
        go_enter Try.func24, Try.ntmps24
        go_wp2_with (first
          | (go_at_call 19; refine (frnum_ok p s k 2 _ h (by decide) (by decide) hk2 hs).mono ?_; rintro e w2 ⟨rfl, h1, hb2⟩; rw [show Int.toNat 2 = 2 from rfl] at h1; rw [show Int.toNat 2 = 2 from rfl, HN.out]; rw [← HK.out] at h1; have g2 := h1.cell0; have g3 := h1.cell1; have gf := h1.frozen; have gl := h1.lt)
          | (go_at_call 26; refine (fleft_any p s k2 _ h1 hk3 hs).mono ?_; rintro e w' ⟨rfl, rfl⟩))
        go_ret2
        exact ⟨rfl, h1.set k, (hb2.setCell (q := ⟨p, 1, none⟩) (Or.inl rfl) _).drew⟩
      · rw [if_neg h3]
        have hl : ¬ (s.size : Int) - k2 < n := by omega
        have hl3 : k2 + n ≤ s.size := by omega
        have HK : Hid _ := hk2e
        clear hk2e h3
        go_enter Try.func24, Try.ntmps24
        go_wp2_with (first
          | (go_at_call 19; refine (frnum_ok p s k 2 _ h (by decide) (by decide) hk2 hs).mono ?_; rintro e w2 ⟨rfl, h1, hb2⟩; rw [show Int.toNat 2 = 2 from rfl] at h1; rw [show Int.toNat 2 = 2 from rfl, HN.out]; rw [← HK.out] at h1; have g2 := h1.cell0; have g3 := h1.cell1; have gf := h1.frozen; have gl := h1.lt)
          | (go_at_call 26; refine (fleft_any p s k2 _ h1 hk3 hs).mono ?_; rintro e w' ⟨rfl, rfl⟩))
        go_region
        go_wp2
        go_ret2
        refine ⟨rfl, ?_, ?_⟩
        · exact h1.set (k2 + n)
        · exact (hb2.setCell (q := ⟨p, 1, none⟩) (Or.inl rfl) _).drew.drew
end Go.Proofs.Ytglpdchdkabajaa
