/-
  The walk of GuardJoins.
-/
import Derived.Test.YtlklobapdljpkaaJoi
import Derived.Test.YtlklobapdljpkaaRef
import Derived.OpenShut
namespace Go.Proofs.Ytlklobapdljpkaa
open Go.RowKit

theorem crc_append_str (s t : ByteArray) : crc (s ++ t).data.toList = stepN (8 * (t.size : Int).toNat) (crc s.data.toList) ^^^ crc t.data.toList := by
  rw [ByteArray.data_append, Array.toList_append, crc_append]
  rfl

set_option maxHeartbeats 2000000 in
theorem joins_walk (s t : ByteArray) (a b n : Int) (_ws : s.size ≤ maxLen) (_wt : t.size ≤ maxLen) (wa : (Lit.int .u32 a).wf = true) (wb : (Lit.int .u32 b).wf = true) (wn : (Lit.int .i16 n).wf = true) (w : World) :
    Calls Try.prog 4 #[.string s, .string t, .int .u32 a, .int .u32 b, .int .i16 n] w fun e w' => e = .returned (.bool true) ∧ Below w.heap.size w w' := by
  clear _ws _wt
  obtain ⟨ha0, ha1⟩ := bounds_u32 wa
  obtain ⟨hb0, hb1⟩ := bounds_u32 wb
  obtain ⟨hn0, hn1⟩ := bounds_i16 wn
  obtain ⟨A, rfl⟩ := u_of a ha0 ha1
  obtain ⟨B, rfl⟩ := u_of b hb0 hb1
  clear wa wb wn ha0 ha1 hb0 hb1
  by_cases hl : (1000 : Int) < s.size
  · go_enter Try.func4, Try.ntmps4
    go_wp2_with (go_at_call 9; refine (shown_any _).mono ?_; rintro e w1 ⟨rfl, hb1⟩)
    go_ret
    exact ⟨rfl, hb1⟩
  · by_cases hl2 : (1000 : Int) < t.size
    · go_enter Try.func4, Try.ntmps4
      go_wp2_with (go_at_call 9; refine (shown_any _).mono ?_; rintro e w1 ⟨rfl, hb1⟩)
      go_ret
      exact ⟨rfl, hb1⟩
    · have hs : s.size ≤ 1000000000 := by omega
      have ht : t.size ≤ 1000000000 := by omega
      have hst : (s ++ t).size ≤ 1000000000 := by rw [ByteArray.size_append]; omega
      have hlt : ¬ 9223372036854775807 < s.size + t.size := by omega
      go_enter Try.func4, Try.ntmps4
      go_wp2_with (first | (go_at_call 9; refine (shown_any _).mono ?_; rintro e w1 ⟨rfl, hb1⟩))
      have hk : n.tmod 300 ≤ 1000000000 := by
        have := Int.tmod_lt_of_pos n (show (0 : Int) < 300 by decide)
        omega
      generalize n.tmod 300 = k at hk
      refine (sum_any s _ hs).mono ?_
      rintro e w2 ⟨rfl, hb2⟩
      go_wp2_with fail
      refine (sum_any t _ ht).mono ?_
      rintro e w3 ⟨rfl, hb3⟩
      go_wp2_with fail
      refine (join_any _ _ _ _ (by omega)).mono ?_
      rw [← crc_append_str]
      rintro e w4 ⟨rfl, hb4⟩
      go_wp2_with fail
      refine (sum_any (s ++ t) _ hst).mono ?_
      rintro e w5 ⟨rfl, hb5⟩
      go_wp2_with fail
      refine (join_any _ _ _ _ hk).mono ?_
      rintro e w6 ⟨rfl, hb6⟩
      go_wp2_with fail
      refine (rjoin_any _ _ _ _ hk).mono ?_
      rintro e w7 ⟨rfl, rfl⟩
      go_wp2_with fail
      go_ret
      have z1 := hb1.size
      have z2 := hb2.size
      have z3 := hb3.size
      have z4 := hb4.size
      have z5 := hb5.size
      exact ⟨rfl, ((((hb1.trans (hb2.mono z1)).trans (hb3.mono (by omega))).trans (hb4.mono (by omega))).trans (hb5.mono (by omega))).trans (hb6.mono (by omega))⟩
end Go.Proofs.Ytlklobapdljpkaa
