/-
  More leaves of band and of its reference; math/bits.
-/
import Derived.Test.YtlbeincgknmijaaDoorRBbt
namespace Go.Proofs.YtlbeincgknmijaaDoor.Ro.Bnd
open Go.RowKit

set_option maxHeartbeats 1000000 in
theorem node_any (n : Int) (w : World) : Calls Tryd.prog 16 #[.int .i64 n] w fun e w' => e = .returned (.bool (nodeS n)) ∧ w' = w := by
  unfold nodeS
  go_enter Tryd.func16, Tryd.ntmps16
  go_wp2
  all_goals go_ret
  all_goals (simp_all <;> omega)
set_option maxHeartbeats 1000000 in
theorem rhas_any (b : Nat) (hb : b < lim) (n : Int) (w : World) : Calls Tryd.prog 11 #[.int .u64 b, .int .i64 n] w fun e w' => e = .returned (.bool (hasS b n)) ∧ w' = w := by
  unfold hasS
  cases h : nodeS n
  · go_enter Tryd.func11, Tryd.ntmps11
    go_wp2_with fail
    refine (node_any n w).mono ?_
    rw [h]
    rintro e w1 ⟨rfl, rfl⟩
    go_wp2_with fail
    go_ret
    exact ⟨rfl, rfl⟩
  · obtain ⟨h0, h1⟩ := (nodeS_iff n).1 h
    have ha := shr_bit b n.toNat hb
    cases h2 : b.testBit n.toNat
    all_goals
      rw [h2] at ha
      simp only [Bool.false_eq_true, if_false, if_true] at ha
      go_enter Tryd.func11, Tryd.ntmps11
      go_wp2_with fail
      refine (node_any n w).mono ?_
      rw [h]
      rintro e w1 ⟨rfl, rfl⟩
      go_wp2_with fail
      go_ret
      exact ⟨rfl, rfl⟩
theorem pow_le_of_bit (b k : Nat) (h : b.testBit k = true) : 2 ^ k ≤ b := Nat.ge_two_pow_of_testBit h
theorem sub_has (b : Nat) (n : Int) (hb : b < lim) (h : hasS b n = true) : IntKind.u64.wrap ((b : Int) - (bitS n : Int)) = (lessS b n : Int) := by
  unfold lessS
  rw [if_pos h]
  unfold hasS at h
  rw [Bool.and_eq_true] at h
  have h2 := pow_le_of_bit _ _ h.2
  unfold bitS
  rw [if_pos h.1]
  generalize 2 ^ n.toNat = p at h2
  rw [show (b : Int) - (p : Int) = ((b - p : Nat) : Int) by omega]
  exact wrap_nat _ (by omega)
/-! ## How many -/

theorem and_const (x c : Nat) (hx : x < lim) (hc : c < lim) : bits BinOp.and IntKind.u64 (x : Int) (c : Int) = ((x &&& c : Nat) : Int) := bits_and_u64_nat x c hx hc
set_option maxHeartbeats 2000000 in
theorem ones_any (x : Nat) (hx : x < lim) (w : World) : Calls Tryd.prog 20 #[.int .u64 x] w fun e w' => e = .returned (.int .i64 (manyS x)) ∧ w' = w := by
  obtain ⟨l, hl, hd, hs, x1, x2, e1, e2, e3, b1, b2⟩ := ones3 x hx
  obtain ⟨b4, b5, b6, hm⟩ := ones_end l hl hd _ _ _ rfl rfl rfl
  rw [hs] at hm
  generalize hx3 : val 8 l = x3 at *
  generalize hx4 : x3 + x3 / 256 = x4 at *
  generalize hx5 : x4 + x4 / 65536 = x5 at *
  generalize hx6 : x5 + x5 / 4294967296 = x6 at *
  have b3 : x2 / 16 + x2 < lim := by unfold lim at *; omega
  have b3' : x3 < lim := by rw [← e3]; exact and_lt b3
  have k1 : bits BinOp.and IntKind.u64 ((x : Int) / 2) 6148914691236517205 = ((x / 2 &&& 6148914691236517205 : Nat) : Int) := and_const (x / 2) 6148914691236517205 (by unfold lim at *; omega) (by decide)
  have k2 : bits BinOp.and IntKind.u64 (x : Int) 6148914691236517205 = ((x &&& 6148914691236517205 : Nat) : Int) := and_const x 6148914691236517205 hx (by decide)
  have k3 : IntKind.u64.wrap (((x / 2 &&& 6148914691236517205 : Nat) : Int) + ((x &&& 6148914691236517205 : Nat) : Int)) = (x1 : Int) := by
    rw [← e1] at b1 ⊢; exact wrap_nat _ b1
  have k4 : bits BinOp.and IntKind.u64 ((x1 : Int) / 4) 3689348814741910323 = ((x1 / 4 &&& 3689348814741910323 : Nat) : Int) := and_const (x1 / 4) 3689348814741910323 (by unfold lim at *; omega) (by decide)
  have k5 : bits BinOp.and IntKind.u64 (x1 : Int) 3689348814741910323 = ((x1 &&& 3689348814741910323 : Nat) : Int) := and_const x1 3689348814741910323 b1 (by decide)
  have k6 : IntKind.u64.wrap (((x1 / 4 &&& 3689348814741910323 : Nat) : Int) + ((x1 &&& 3689348814741910323 : Nat) : Int)) = (x2 : Int) := by
    rw [← e2] at b2 ⊢; exact wrap_nat _ (by unfold lim at *; omega)
  have k7 : IntKind.u64.wrap ((x2 : Int) / 16 + (x2 : Int)) = ((x2 / 16 + x2 : Nat) : Int) := wrap_nat (x2 / 16 + x2) b3
  have k8 : bits BinOp.and IntKind.u64 ((x2 / 16 + x2 : Nat) : Int) 1085102592571150095 = (x3 : Int) := by
    rw [← e3]; exact and_const _ 1085102592571150095 b3 (by decide)
  have k9 : IntKind.u64.wrap ((x3 : Int) + (x3 : Int) / 256) = (x4 : Int) := by rw [← hx4] at b4 ⊢; exact wrap_nat _ b4
  have k10 : IntKind.u64.wrap ((x4 : Int) + (x4 : Int) / 65536) = (x5 : Int) := by rw [← hx5] at b5 ⊢; exact wrap_nat _ b5
  have k11 : IntKind.u64.wrap ((x5 : Int) + (x5 : Int) / 4294967296) = (x6 : Int) := by rw [← hx6] at b6 ⊢; exact wrap_nat (x5 + x5 / 4294967296) (by unfold lim at *; omega)
  have k12 : wrap64 (x6 : Int) = (x6 : Int) := by unfold wrap64; unfold lim at b6; omega
  have k13 : bits BinOp.and IntKind.i64 (x6 : Int) 127 = (manyS x : Int) := by rw [i64_and127, ← hm]; omega
  clear e1 e2 e3 b1 b2 b3 b3' b4 b5 b6 hm hs hx3 hx4 hx5 hx6 hd hl
  generalize (x / 2 &&& 6148914691236517205 : Nat) = p1 at *
  generalize (x &&& 6148914691236517205 : Nat) = q1 at *
  generalize (x1 / 4 &&& 3689348814741910323 : Nat) = p2 at *
  generalize (x1 &&& 3689348814741910323 : Nat) = q2 at *
  generalize (x2 / 16 + x2 : Nat) = y3 at *
  go_enter Tryd.func20, Tryd.ntmps20
  go_wp2
  go_ret
  exact ⟨rfl, rfl⟩
set_option maxHeartbeats 1000000 in
theorem many_any (x : Nat) (hx : x < lim) (w : World) : Calls Tryd.prog 14 #[.int .u64 x] w fun e w' => e = .returned (.int .i64 (manyS x)) ∧ w' = w := by
  go_enter Tryd.func14, Tryd.ntmps14
  go_wp2_with fail
  refine (ones_any x hx w).mono ?_
  rintro e w1 ⟨rfl, rfl⟩
  go_wp2_with fail
  go_ret
  exact ⟨rfl, rfl⟩
theorem and_nat (a b : Nat) (ha : a < lim) (hb : b < lim) : bits BinOp.and IntKind.u64 (a : Int) (b : Int) = ((a &&& b : Nat) : Int) := bits_and_u64_nat a b ha hb


/-! ## The table -/

/-- The table in its variable. -/
def Tab (w : World) : Prop := ∀ j, j < Lib.deBruijn64tab.length → w.cell? ⟨0, j, none⟩ = some (.int .u8 (Lib.deBruijn64tab.getD j 0))
theorem Tab.lt {w : World} (h : Tab w) : 0 < w.heap.size := World.block_lt_of_cell? _ _ (h 0 (by decide))
theorem Tab.keep {w w' : World} (h : Tab w) (e : w'.heap[0]? = w.heap[0]?) : Tab w' := fun j hj => (World.cell?_of_block (w := w) (a := ⟨0, j, none⟩) e).trans (h j hj)
theorem Tab.below {w w' : World} {B : Nat} (h : Tab w) (hB : 0 < B) (hb : Below B w w') : Tab w' := h.keep (hb.block 0 hB)

theorem tz_key (x a : Nat) (hx : x < lim) (hx0 : x ≠ 0) (hlow : x &&& (lim - x) = a) :
    IntKind.u64.wrap (bits BinOp.and IntKind.u64 (x : Int) (IntKind.u64.wrap (-(x : Int))) * 285870213051353865) / 288230376151711744 = ((a * 285870213051353865 % 18446744073709551616 / 288230376151711744 : Nat) : Int) := by
  have e1 : IntKind.u64.wrap (-(x : Int)) = ((lim - x : Nat) : Int) := by rw [IntKind.wrap_u64]; unfold lim at *; omega
  rw [e1, and_nat x _ hx (by unfold lim; omega), hlow, IntKind.wrap_u64]
  omega
set_option maxHeartbeats 1000000 in
theorem tz_core (x k idx : Nat) (w : World) (hx0 : ((x : Int) == 0) = false)
    (key : IntKind.u64.wrap (bits BinOp.and IntKind.u64 (x : Int) (IntKind.u64.wrap (-(x : Int))) * 285870213051353865) / 288230376151711744 = (idx : Int))
    (hi : idx < 64) (hk : k < 64) (hcell : w.cell? ⟨0, idx, none⟩ = some (.int .u8 k)) :
    Calls Tryd.prog 22 #[.int .u64 x] w fun e w' => e = .returned (.int .i64 k) ∧ w' = w := by
  go_enter Tryd.func22, Tryd.ntmps22
  go_wp2_with (simp only [key])
  go_ret
  exact ⟨rfl, rfl⟩
theorem tz_any (x : Nat) (hx : x < lim) (hx0 : x ≠ 0) (w : World) (hT : Tab w) : Calls Tryd.prog 22 #[.int .u64 x] w fun e w' => e = .returned (.int .i64 (Lib.ctz 64 x)) ∧ w' = w := by
  obtain ⟨hlow, hk⟩ := Lib.lowest_bit 64 x hx0 hx
  obtain ⟨hi, htab⟩ := Lib.deBruijn64_at _ hk
  have hcell := hT _ hi
  rw [htab] at hcell
  exact tz_core x _ _ w (by simp; omega) (tz_key x _ hx hx0 hlow) hi hk hcell

end Go.Proofs.YtlbeincgknmijaaDoor.Ro.Bnd
