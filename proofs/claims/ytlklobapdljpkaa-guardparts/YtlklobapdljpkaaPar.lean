/-
  The walk of GuardParts.
-/
import Derived.Test.YtlklobapdljpkaaJoi
import Derived.OpenShut
namespace Go.Proofs.Ytlklobapdljpkaa
open Go.RowKit

theorem join_nothing (a : B32) (w : World) : Calls Try.prog 16 #[.int .u32 (u a), .int .u32 0, .int .i64 0] w fun e w' => e = .returned (.int .u32 (u a)) ∧ Below w.heap.size w w' := by
  have h := join_any a 0#32 0 w (by omega)
  rw [BitVec.xor_zero] at h
  exact h
theorem join_less (a b : B32) (w : World) : Calls Try.prog 16 #[.int .u32 (u a), .int .u32 (u b), .int .i64 (-1)] w fun e w' => e = .returned (.int .u32 (u (a ^^^ b))) ∧ Below w.heap.size w w' := join_any a b (-1) w (by omega)
theorem parts_eq (a b c : B32) (n m : Int) (hn : 0 ≤ n) (hm : 0 ≤ m) : stepN (8 * m.toNat) (stepN (8 * n.toNat) a ^^^ b) ^^^ c = stepN (8 * (n + m).toNat) a ^^^ (stepN (8 * m.toNat) b ^^^ c) := by
  rw [stepN_xor, ← stepN_add, BitVec.xor_assoc]
  congr 2
  omega

set_option maxHeartbeats 2000000 in
theorem parts_walk (a b c n m : Int) (wa : (Lit.int .u32 a).wf = true) (wb : (Lit.int .u32 b).wf = true) (wc : (Lit.int .u32 c).wf = true) (wn : (Lit.int .u8 n).wf = true) (wm : (Lit.int .u8 m).wf = true) (w : World) :
    Calls Try.prog 7 #[.int .u32 a, .int .u32 b, .int .u32 c, .int .u8 n, .int .u8 m] w fun e w' => e = .returned (.bool true) ∧ Below w.heap.size w w' := by
  obtain ⟨ha0, ha1⟩ := bounds_u32 wa
  obtain ⟨hb0, hb1⟩ := bounds_u32 wb
  obtain ⟨hc0, hc1⟩ := bounds_u32 wc
  obtain ⟨hn0, hn1⟩ := bounds_u8 wn
  obtain ⟨hm0, hm1⟩ := bounds_u8 wm
  obtain ⟨A, rfl⟩ := u_of a ha0 ha1
  obtain ⟨B, rfl⟩ := u_of b hb0 hb1
  obtain ⟨C, rfl⟩ := u_of c hc0 hc1
  clear wa wb wc wn wm ha0 ha1 hb0 hb1 hc0 hc1
  have hux := u_xor A B
  go_enter Try.func7, Try.ntmps7
  go_wp2_with fail
  refine (join_nothing _ _).mono ?_
  rintro e w1 ⟨rfl, hb1⟩
  go_wp2_with fail
  refine (join_less _ _ _).mono ?_
  rintro e w2 ⟨rfl, hb2⟩
  go_wp2_with fail
  refine (join_any _ _ _ _ (by omega)).mono ?_
  rintro e w3 ⟨rfl, hb3⟩
  go_wp2_with fail
  refine (join_any _ _ _ _ (by omega)).mono ?_
  rw [parts_eq A B C n m hn0 hm0]
  rintro e w4 ⟨rfl, hb4⟩
  go_wp2_with fail
  refine (join_any _ _ _ _ (by omega)).mono ?_
  rintro e w5 ⟨rfl, hb5⟩
  go_wp2_with fail
  refine (join_any _ _ _ _ (by omega)).mono ?_
  rintro e w6 ⟨rfl, hb6⟩
  go_wp2_with fail
  refine (shown_any _).mono ?_
  rintro e w7 ⟨rfl, hb7⟩
  go_wp2_with fail
  go_ret
  have z1 := hb1.size
  have z2 := hb2.size
  have z3 := hb3.size
  have z4 := hb4.size
  have z5 := hb5.size
  have z6 := hb6.size
  exact ⟨rfl, (((((hb1.trans (hb2.mono z1)).trans (hb3.mono (by omega))).trans (hb4.mono (by omega))).trans (hb5.mono (by omega))).trans (hb6.mono (by omega))).trans (hb7.mono (by omega))⟩
end Go.Proofs.Ytlklobapdljpkaa
