/-
  The walk of GuardTells.
-/
import Derived.Test.YtlklobapdljpkaaRef
import Derived.OpenShut
namespace Go.Proofs.Ytlklobapdljpkaa
open Go.RowKit

set_option maxHeartbeats 1000000 in
theorem tells_walk (s : ByteArray) (_wf : s.size ≤ maxLen) (w : World) :
    Calls Try.prog 3 #[.string s] w fun e w' => e = .returned (.bool true) ∧ Below w.heap.size w w' := by
  clear _wf
  by_cases hl : (2000 : Int) < s.size
  · go_enter Try.func3, Try.ntmps3
    go_wp2_with (go_at_call 9; refine (shown_any _).mono ?_; rintro e w1 ⟨rfl, hb1⟩)
    go_ret
    exact ⟨rfl, hb1⟩
  · have hs : s.size ≤ 1000000000 := by omega
    generalize hO : openS s = o
    have HO : Hid _ := hO
    clear hO
    obtain ⟨o1, o2⟩ := o
    generalize hC : u (crc s.data.toList) = c
    have HC : Hid _ := hC
    clear hC
    generalize hS : s ++ fourS (crc s.data.toList) = t
    have HS : Hid _ := hS
    clear hS
    go_enter Try.func3, Try.ntmps3
    go_wp2_with (first
      | (go_at_call 9; refine (shown_any _).mono ?_; rintro e w1 ⟨rfl, hb1⟩)
      | (go_at_call 10; refine (open_any s _ hs).mono ?_; rw [HO.out]; rintro e w2 ⟨rfl, hb2⟩)
      | (go_at_call 11; refine (ropen_any s _ hs).mono ?_; rw [HO.out]; rintro e w3 ⟨rfl, hb3⟩)
      | (go_at_call 12; refine (sum_any s _ hs).mono ?_; rw [HC.out]; rintro e w4 ⟨rfl, hb4⟩)
      | (go_at_call 13; refine (rsum_any s _ hs).mono ?_; rw [HC.out]; rintro e w5 ⟨rfl, rfl⟩)
      | (go_at_call 14; refine (seal_any s _ hs).mono ?_; rw [HS.out]; rintro e w6 ⟨rfl, hb6⟩)
      | (go_at_call 15; refine (rseal_any s _ hs).mono ?_; rw [HS.out]; rintro e w7 ⟨rfl, hb7⟩))
    go_ret
    have z1 := hb1.size
    have z2 := hb2.size
    have z3 := hb3.size
    have z4 := hb4.size
    have z6 := hb6.size
    exact ⟨rfl, ((((hb1.trans (hb2.mono z1)).trans (hb3.mono (by omega))).trans (hb4.mono (by omega))).trans (hb6.mono (by omega))).trans (hb7.mono (by omega))⟩
end Go.Proofs.Ytlklobapdljpkaa
