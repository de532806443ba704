/-
  The walk of LotRange.
-/
import Derived.Test.YtfmnnfmcibnhpaaSom
import Derived.OpenShut
namespace Go.Proofs.Ytfmnnfmcibnhpaa
open Go.RowKit

theorem below_one (n x : Int) : belowS [x] n = if n < 2 then (0, [x]) else (x % n, []) := by unfold belowS; rfl
theorem below_none (n : Int) : belowS [] n = (0, []) := by unfold belowS; split <;> simp

set_option maxHeartbeats 1000000 in
theorem range_walk (n x : Int) (wn : (Lit.int .i64 n).wf = true) (wx : (Lit.int .u64 x).wf = true) (w : World) :
    Calls Try.prog 6 #[.int .i64 n, .int .u64 x] w fun e w' => e = .returned (.bool true) ∧ Below w.heap.size w w' := by
  obtain ⟨n0, n1⟩ := bounds_i64 wn
  obtain ⟨x0, x1⟩ := bounds_u64 wx
  clear wn wx
  go_enter Try.func6, Try.ntmps6
  go_wp2_with fail
  refine (new_any _ [x] _ (by simp) (Rd.lit .u64 32 [x] w (by simp))).mono ?_
  rintro e w1 ⟨⟨p, rfl, hL⟩, hB1⟩
  go_wp2_with fail
  refine (below_any _ p [x] n _ hL (by intro y hy; simp at hy; omega) (by omega)).mono ?_
  rintro e w2 ⟨rfl, _, hB2⟩
  have hr := belowS_range [x] n
  have HB : Hid _ := below_one n x
  generalize belowS [x] n = P at hr HB
  obtain ⟨k, rest⟩ := P
  simp only at hr
  go_wp2_with fail
  refine (new_any _ [] _ (by simp) (Rd.nil .u64 w2)).mono ?_
  rintro e w3 ⟨⟨q, rfl, hL3⟩, hB3⟩
  go_wp2_with fail
  refine (below_any _ q [] n _ hL3 (by intro y hy; simp at hy) (by omega)).mono ?_
  rw [below_none]
  rintro e w4 ⟨rfl, hL4, hB4⟩
  go_wp2_with fail
  refine (next_any _ q [] _ hL4).mono ?_
  rintro e w5 ⟨rfl, hL5, hB5⟩
  go_wp2_with fail
  refine (left_any _ q _ _ hL5).mono ?_
  rintro e w6 ⟨rfl, rfl⟩
  go_wp2_with fail
  refine (shown_any _).mono ?_
  rintro e w7 ⟨rfl, hB7⟩
  have hp := hL.le
  have hq := hL3.le
  have z1 := hB1.size
  have z2 := hB2.size
  have z3 := hB3.size
  have z4 := hB4.size
  have z5 := hB5.size
  have z7 := hB7.size
  simp at z1 z2 z3 z4 z5 z7 hp hq
  have b1 : Below w.heap.size w w1 := ((Below.refl _ w).alloc (Nat.le_refl _) _).trans (hB1.mono (by simp))
  have b2 : Below w.heap.size w w2 := b1.trans (hB2.belowAt (by omega) (by omega))
  have b3 : Below w.heap.size w w3 := b2.trans (hB3.mono (by omega))
  have b4 : Below w.heap.size w w4 := b3.trans (hB4.belowAt (by omega) (by omega))
  have b5 : Below w.heap.size w w6 := b4.trans (hB5.belowAt (by omega) (by omega))
  have b7 : Below w.heap.size w w7 := b5.trans (hB7.mono (by omega))
  clear hL hL3 hL4 hL5 hB1 hB2 hB3 hB4 hB5 hB7 b1 b2 b3 b4 b5
  by_cases hn : n < 2
  · have hk : k = 0 := by have := HB.out; rw [if_pos hn] at this; exact (Prod.mk.inj this).1
    subst hk
    go_wp2_with fail
    go_ret
    exact ⟨rfl, b7⟩
  · have hk : k = x % n := by have := HB.out; rw [if_neg hn] at this; exact (Prod.mk.inj this).1
    have h1 := hr.2 (by omega)
    have h0 := hr.1
    clear hr HB
    have hmm : x % n % n = x % n := Int.emod_emod_of_dvd x (Int.dvd_refl n)
    rw [← hk] at hmm
    have HK : Hid _ := hk
    have HM : Hid _ := hmm
    clear hk hmm
    have hx : x % n = k := HK.out.symm
    go_wp2_with fail
    refine (new_any _ [k] _ (by simp) (Rd.lit .u64 32 [k] w7 (by simp))).mono ?_
    rintro e w8 ⟨⟨r, rfl, hL8⟩, hB8⟩
    go_wp2_with fail
    refine (below_any _ r [k] n _ hL8 (by intro y hy; simp at hy; omega) (by omega)).mono ?_
    rw [below_one, if_neg (by omega), HM.out]
    rintro e w9 ⟨rfl, _, hB9⟩
    go_wp2_with fail
    go_ret
    have hr := hL8.le
    have z8 := hB8.size
    simp at z8 hr
    refine ⟨rfl, ?_⟩
    have b8 : Below w.heap.size w w8 := (b7.alloc (by omega) _).trans (hB8.mono (by simp; omega))
    exact b8.trans (hB9.belowAt (by omega) (by omega))
end Go.Proofs.Ytfmnnfmcibnhpaa
