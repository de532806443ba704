/-
  The walk of OctetOrder.
-/
import Derived.Test.YtglpdchdkabajaaSho
import Derived.OpenShut
namespace Go.Proofs.Ytglpdchdkabajaa
open Go.RowKit

/-- Three new writers. -/
theorem three_new (w : World) : let w3 := ((w.alloc (.cells #[.slice none 0 0] 27)).alloc (.cells #[.slice none 0 0] 27)).alloc (.cells #[.slice none 0 0] 27)
    W27 (w.heap.size + 3) w.heap.size (.slice none 0 0) [] w3 ∧ W27 (w.heap.size + 3) (w.heap.size + 1) (.slice none 0 0) [] w3 ∧ W27 (w.heap.size + 3) (w.heap.size + 2) (.slice none 0 0) [] w3 ∧ Below w.heap.size w w3 ∧ w3.heap.size = w.heap.size + 3 := by
  refine ⟨(((Wr.new 27 5 w).alloc _).alloc _).rebase (by omega) (by simp), ?_, ?_, (((Below.refl _ _).alloc (by simp) _).alloc (by simp) _).alloc (by simp; omega) _, by simp⟩
  · have := ((Wr.new 27 5 (w.alloc (.cells #[.slice none 0 0] 27))).alloc (.cells #[.slice none 0 0] 27)).rebase (B' := w.heap.size + 3) (by simp) (by simp)
    simpa using this
  · have := (Wr.new 27 5 ((w.alloc (.cells #[.slice none 0 0] 27)).alloc (.cells #[.slice none 0 0] 27))).rebase (B' := w.heap.size + 3) (by simp) (by simp)
    simpa using this

set_option maxHeartbeats 1000000 in
theorem order_walk (a b width : Int) (wa : (Lit.int .u64 a).wf = true) (wb : (Lit.int .u64 b).wf = true) (ww : (Lit.int .u8 width).wf = true) (w : World) :
    Calls Try.prog 6 #[.int .u64 a, .int .u64 b, .int .u8 width] w fun e w' => e = .returned (.bool true) ∧ Below w.heap.size w w' := by
  obtain ⟨hw0, hw1⟩ := bounds_u8 ww
  obtain ⟨ha0, ha1⟩ := bounds_u64 wa
  obtain ⟨hb0, hb1⟩ := bounds_u64 wb
  have HA : Hid _ := ha1
  have HB : Hid _ := hb1
  clear ha1 hb1 wa wb ww
  go_enter Try.func6, Try.ntmps6
  go_wp2_with fail
  have hk1 : 1 ≤ 1 + width % 7 := by omega
  have hk7 : 1 + width % 7 ≤ 7 := by omega
  generalize 1 + width % 7 = k at hk1 hk7
  have HM : Hid (∀ x, 0 ≤ x → x ≤ 18446744073709551615 → bits BinOp.and IntKind.u64 x (IntKind.u64.wrap (IntKind.u64.wrap (2 ^ (8 * k).toNat) - 1)) = x % 256 ^ k.toNat) := mask_any k hk1 hk7
  generalize IntKind.u64.wrap (IntKind.u64.wrap (2 ^ (8 * k).toNat) - 1) = m at HM
  have HMA : Hid (bits BinOp.and IntKind.u64 a m = a % 256 ^ k.toNat) := HM.out a ha0 HA.out
  have HMB : Hid (bits BinOp.and IntKind.u64 b m = b % 256 ^ k.toNat) := HM.out b hb0 HB.out
  generalize hA : bits BinOp.and IntKind.u64 a m = a1 at HMA
  have HA1 : Hid (bits BinOp.and IntKind.u64 a m = a1) := hA
  clear hA
  have HD := mod_div k hk1 a
  rw [← HMA.out] at HD
  have HD2 := mod_div k hk1 b
  rw [← HMB.out] at HD2
  have HD3 := mod_div' k hk1 a
  rw [← HMA.out] at HD3
  obtain ⟨hX, hY, hZ, hb3, hs3⟩ := three_new w
  generalize hw3 : ((w.alloc (.cells #[.slice none 0 0] 27)).alloc (.cells #[.slice none 0 0] 27)).alloc (.cells #[.slice none 0 0] 27) = w3 at hX hY hZ hb3 hs3
  clear hw3
  refine (wnum_any (w.heap.size + 3) w.heap.size _ [] a1 k w3 hk1 (by omega) HD hX (by decide)).mono ?_
  rintro e w4 ⟨rfl, ⟨v1, hX1⟩, hB1⟩
  have hz4 := hB1.size
  go_wp2_with fail
  generalize hB : bits BinOp.and IntKind.u64 b m = b1 at HMB HD2
  have HB1 : Hid (bits BinOp.and IntKind.u64 b m = b1) := hB
  clear hB
  have hY1 := (hY.kept hB1 (by omega) (by omega) (fun k hk => by simp [Value.ownBlock] at hk)).rebase (B' := w4.heap.size) (by omega) (Nat.le_refl _)
  refine (wnum_any w4.heap.size (w.heap.size + 1) _ [] b1 k w4 hk1 (by omega) HD2 hY1 (by decide)).mono ?_
  rintro e w5 ⟨rfl, ⟨v2, hY2⟩, hB2⟩
  have hz5 := hB2.size
  go_wp2_with fail
  rw [HA1.out]
  have hZ2 := ((hZ.kept hB1 (by omega) (by omega) (fun k hk => by simp [Value.ownBlock] at hk)).kept hB2 (by omega) (by omega) (fun k hk => by simp [Value.ownBlock] at hk)).rebase (B' := w5.heap.size) (by omega) (Nat.le_refl _)
  have hX2 := hX1.kept hB2 (by omega) (by omega) (fun k hk => by have := hX1.row_lt k hk; omega)
  refine (wnum_any w5.heap.size (w.heap.size + 1 + 1) _ [] a1 (k + 1) w5 (by omega) (by omega) HD3 hZ2 (by decide)).mono ?_
  rintro e w6 ⟨rfl, ⟨v3, hZ3⟩, hB3⟩
  have hz6 := hB3.size
  have hX3 := hX2.kept hB3 (by omega) (by omega) (fun k hk => by have := hX2.row_lt k hk; omega)
  have hY3 := hY2.kept hB3 (by omega) (by omega) (fun k hk => by have := hY2.row_lt k hk; omega)
  go_wp2_with fail
  refine (shown_any w6).mono ?_
  rintro e w7 ⟨rfl, hB4⟩
  have hX4 := hX3.keptBelow hB4
  have hY4 := hY3.keptBelow hB4
  have hZ4 := hZ3.keptBelow hB4
  have hEnd : Below w.heap.size w w7 := (((hb3.trans (hB1.belowAt (Nat.le_refl _) (by omega))).trans (hB2.belowAt (by omega) (by omega))).trans (hB3.belowAt (by omega) (by omega))).trans (hB4.mono (by omega))
  have hsx : (((strOfNums ([] ++ le k.toNat a1)).size : Int) == k) = true := by rw [strOfNums_size]; simp [le_length]; omega
  generalize hSX : strOfNums ([] ++ le k.toNat a1) = SX at hsx
  generalize hSY : strOfNums ([] ++ le k.toNat b1) = SY
  generalize hSZ : strOfNums ([] ++ le (k + 1).toNat a1) = SZ
  have HSX : Hid (strOfNums ([] ++ le k.toNat a1) = SX) := hSX
  have HSY : Hid (strOfNums ([] ++ le k.toNat b1) = SY) := hSY
  have HSZ : Hid (strOfNums ([] ++ le (k + 1).toNat a1) = SZ) := hSZ
  clear hSX hSY hSZ
  clear hX hY hZ hX1 hX2 hX3 hY1 hY2 hY3 hZ2 hZ3 hB1 hB2 hB3 hB4 hb3 HD HD2 HD3 hz4 hz5 hz6
  go_wp2_with fail
  refine (bytes_any _ _ _ _ _ hX4).mono ?_
  rintro e w8 ⟨rfl, rfl⟩
  rw [HSX.out]
  go_wp2_with fail
  refine (bytes_any _ _ _ _ _ hX4).mono ?_
  rintro e w8 ⟨rfl, rfl⟩
  rw [HSX.out]
  go_wp2_with fail
  refine (bytes_any _ _ _ _ _ hY4).mono ?_
  rintro e w8 ⟨rfl, rfl⟩
  rw [HSY.out]
  obtain ⟨t, ht1, ht2⟩ : ∃ t, (SX.toList == SY.toList) = t ∧ (bits BinOp.and IntKind.u64 a m == bits BinOp.and IntKind.u64 b m) = t := by
    refine ⟨_, ?_, rfl⟩
    rw [HA1.out, HB1.out, toList_beq, ← HSX.out, ← HSY.out, List.nil_append, List.nil_append]
    rw [Bool.eq_iff_iff, decide_eq_true_iff, beq_iff_eq]
    refine ⟨fun h => ?_, fun h => by rw [h]⟩
    have h2 := strOfNums_inj _ _ (le_bytes _ _) (le_bytes _ _) h
    rw [HMA.out, HMB.out] at h2 ⊢
    exact le_inj _ _ _ h2
  have hsl : SX.size < 100 := by have := beq_iff_eq.1 hsx; omega
  have hlast : (SZ.toList == (SX ++ ⟨#[0]⟩).toList) = true := by
    rw [toList_beq, decide_eq_true_iff, ← HSX.out, ← HSZ.out, List.nil_append, List.nil_append, HMA.out, show (k + 1).toNat = k.toNat + 1 by omega, le_wider, strOfNums_append]
    rfl
  go_wp2_with fail
  refine (bytes_any _ _ _ _ _ hZ4).mono ?_
  rintro e w8 ⟨rfl, rfl⟩
  rw [HSZ.out]
  go_wp2_with fail
  refine (bytes_any _ _ _ _ _ hX4).mono ?_
  rintro e w8 ⟨rfl, rfl⟩
  rw [HSX.out]
  go_wp2_with fail
  go_ret
  exact ⟨rfl, hEnd⟩
end Go.Proofs.Ytglpdchdkabajaa
