/-
  Bits of a number, and how often a rumor is told: real.Bits, Cap, and the reference's.
-/
import Derived.Test.YtpoofjnfaijjjaaGreatDoorMRRfr
import Derived.Test.YtpoofjnfaijjjaaGreatDoorMUShl
import Derived.Lib.BitFns
namespace Go.Proofs.YtpoofjnfaijjjaaGreatDoor.Ru
open Go.RowKit Go.Proofs.YtpoofjnfaijjjaaGreatDoor.Ro
theorem len_any (x : Int) (w : World) (h0 : 0 ≤ x) (hx : x ≤ 18446744073709551615) : Calls Tryz.prog 150 #[.int .u64 x] w fun e w' => e = .returned (.int .i64 (Lib.bitLen x.toNat)) ∧ w' = w :=
  Any.bits_Len (SlLaysF0.n15.bits (P := Tryz.prog) (ρ := srtItem_ren) { srtItem with }) x w h0 (by omega)
def bitsS (n : Int) : Int := if n < 0 then 0 else (Lib.bitLen n.toNat : Int)
theorem bits_any (n : Int) (w : World) (h : -9223372036854775808 ≤ n ∧ n ≤ 9223372036854775807) : Calls Tryz.prog 198 #[.int .i64 n] w fun e w' => e = .returned (.int .i64 (bitsS n)) ∧ w' = w := by
  unfold bitsS
  by_cases hn : n < 0
  · rw [if_pos hn]
    go_enter Tryz.func198, Tryz.ntmps198
    go_wp2
    go_ret
    exact ⟨rfl, rfl⟩
  · rw [if_neg hn]
    have hn' : 0 ≤ n := by omega
    have hm : n ≤ 18446744073709551615 := by omega
    go_enter Tryz.func198, Tryz.ntmps198
    go_wp2_with (go_at_call 150; refine (len_any _ _ hn' hm).mono ?_; rintro e w' ⟨rfl, rfl⟩)
    go_ret
    exact ⟨rfl, rfl⟩
theorem bits_half {n : Int} (h0 : 0 < n) (h : n ≤ 9223372036854775807) : bitsS n = 1 + bitsS (n / 2) := by
  unfold bitsS
  rw [if_neg (by omega), if_neg (by omega), Lib.bitLen_half n.toNat (by omega) (by omega), show (n / 2).toNat = n.toNat / 2 by omega]
  omega
theorem bits_range (n : Int) (h : n ≤ 9223372036854775807) : 0 ≤ bitsS n ∧ bitsS n ≤ 64 := by
  unfold bitsS
  split
  · omega
  · have := Lib.bitLen_le n.toNat 64 (by omega) (by omega)
    omega
theorem bits_none {n : Int} (h : n ≤ 0) : bitsS n = 0 := by
  unfold bitsS
  split
  · rfl
  · rw [show n.toNat = 0 by omega]; rfl
theorem refBits_any (n : Int) (w : World) (h : -9223372036854775808 ≤ n ∧ n ≤ 9223372036854775807) : Calls Tryz.prog 174 #[.int .i64 n] w fun e w' => e = .returned (.int .i64 (bitsS n)) ∧ w' = w := by
  have hr := bits_range n h.2
  generalize hB : bitsS n = r at *
  have HB : Hid (bitsS n = r) := hB
  clear hB
  have hn1 := h.1
  have hn2 := h.2
  go_enter Tryz.func174, Tryz.ntmps174
  go_wp2_with fail
  go_loopg [0, 3] 64 (fun gk t0 t3 wr => wr = w ∧ ∃ (v k : Int), t0 = .int .i64 v ∧ t3 = .int .i64 k ∧ -9223372036854775808 ≤ v ∧ v ≤ 9223372036854775807 ∧ 0 ≤ k ∧ k ≤ 64 ∧ r = k + bitsS v ∧ bitsS v ≤ gk)
  case atStart => exact ⟨rfl, n, 0, rfl, rfl, hn1, hn2, by omega, by omega, by rw [HB.out]; omega, by rw [HB.out]; omega⟩
  case round =>
    obtain ⟨rfl, v, k, rfl, rfl, hv1, hv2, hk1, hk2, he, hg⟩ := hrel
    by_cases hv : 0 < v
    · have hh := bits_half hv hv2
      have hr2 := bits_range (v / 2) (by omega)
      have HH : Hid (bitsS v = 1 + bitsS (v / 2)) := hh
      have HE : Hid (r = k + bitsS v) := he
      have HG : Hid (bitsS v ≤ gk) := hg
      have HR : Hid (0 ≤ bitsS (v / 2) ∧ bitsS (v / 2) ≤ 64) := hr2
      have hk3 : k ≤ 63 := by omega
      clear he hh hg hr2
      go_wp2_with fail
      go_roundg (gk - 1)
      case rel =>
        have a1 := HH.out
        have a2 := HE.out
        have a3 := HG.out
        have a4 := HR.out
        refine ⟨rfl, v / 2, k + 1, rfl, rfl, by omega, by omega, by omega, by omega, by omega, by omega⟩
      case measure =>
        have a1 := HH.out
        have a3 := HG.out
        have a4 := HR.out
        omega
    · have hz := bits_none (show v ≤ 0 by omega)
      have hkr : k = r := by omega
      subst hkr
      clear he hg hz
      go_wp2_with fail
      go_ret
      exact ⟨rfl, rfl⟩
def capS (n : Int) : Int := max 1 (3 * bitsS n)
theorem cap_range (n : Int) (h : n ≤ 9223372036854775807) : 1 ≤ capS n ∧ capS n ≤ 192 := by
  have := bits_range n h
  unfold capS
  omega
theorem cap_any (n : Int) (w : World) (h : -9223372036854775808 ≤ n ∧ n ≤ 9223372036854775807) : Calls Tryz.prog 188 #[.int .i64 n] w fun e w' => e = .returned (.int .i64 (capS n)) ∧ w' = w := by
  have hc := fun w => bits_any n w h
  have hr := bits_range n h.2
  unfold capS
  generalize bitsS n = k at *
  obtain ⟨h0, h1⟩ := hr
  go_enter Tryz.func188, Tryz.ntmps188
  go_wp2_with (go_at_call 198; refine (hc _).mono ?_; rintro e w' ⟨rfl, rfl⟩)
  go_ret
  exact ⟨rfl, rfl⟩
theorem refCap_any (n : Int) (w : World) (h : -9223372036854775808 ≤ n ∧ n ≤ 9223372036854775807) : Calls Tryz.prog 144 #[.int .i64 n] w fun e w' => e = .returned (.int .i64 (capS n)) ∧ w' = w := by
  have hc := fun w => refBits_any n w h
  have hr := bits_range n h.2
  unfold capS
  generalize bitsS n = k at *
  obtain ⟨h0, h1⟩ := hr
  go_enter Tryz.func144, Tryz.ntmps144
  go_wp2_with (go_at_call 174; refine (hc _).mono ?_; rintro e w' ⟨rfl, rfl⟩)
  go_ret
  exact ⟨by rw [show max 1 (3 * k) = max (3 * k) 1 by omega]; rfl, rfl⟩
end Go.Proofs.YtpoofjnfaijjjaaGreatDoor.Ru
