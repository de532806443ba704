/-
  The walk of OctetReal.
-/
import Derived.Test.YtglpdchdkabajaaSho
import Derived.OpenShut
namespace Go.Proofs.Ytglpdchdkabajaa
open Go.RowKit

theorem two_new (w : World) : let w2 := (w.alloc (.cells #[.slice none 0 0] 27)).alloc (.cells #[.slice none 0 0] 27)
    W27 (w.heap.size + 2) w.heap.size (.slice none 0 0) [] w2 ∧ W27 (w.heap.size + 2) (w.heap.size + 1) (.slice none 0 0) [] w2 ∧ Below w.heap.size w w2 ∧ w2.heap.size = w.heap.size + 2 := by
  refine ⟨((Wr.new 27 5 w).alloc _).rebase (by omega) (by simp), ?_, ((Below.refl _ _).alloc (by simp) _).alloc (by simp) _, by simp⟩
  have := (Wr.new 27 5 (w.alloc (.cells #[.slice none 0 0] 27))).rebase (B' := w.heap.size + 2) (by simp) (by simp)
  simpa using this

theorem alike_any (x y : Nat) (w : World) : Calls Try.prog 22 #[.float .f64 x, .float .f64 y] w fun e w' => e = .returned (.bool ((x : Int) == (y : Int))) ∧ w' = w := by
  have h35 := f35
  go_enter Try.func22, Try.ntmps22
  go_wp2
  go_ret
  exact ⟨rfl, rfl⟩

theorem nan_odd : nan 9221120237041090561 = true := by decide +kernel

theorem bitsOf_same (x y : Nat) : decide (bitsOf x = bitsOf y) = ((nan x && nan y) || ((x : Int) == (y : Int))) := by
  have ho := nan_odd
  unfold bitsOf
  cases hx : nan x <;> cases hy : nan y
  · by_cases h : x = y
    · subst h; simp
    · have : ¬ (x : Int) = y := by omega
      simp [h, this]
  · have : ¬ x = 9221120237041090561 := fun e => by rw [e, ho] at hx; cases hx
    have h2 : ¬ x = y := fun e => by rw [e, hy] at hx; cases hx
    simp [this]; omega
  · have : ¬ 9221120237041090561 = y := fun e => by rw [← e, ho] at hy; cases hy
    have h2 : ¬ x = y := fun e => by rw [e, hy] at hx; cases hx
    simp [this]; omega
  · simp

theorem real_bytes_same (x y : Nat) (hx : x < 2 ^ 64) (hy : y < 2 ^ 64) : ((strOfNums (le 8 (bitsOf x))).toList == (strOfNums (le 8 (bitsOf y))).toList) = ((nan x && nan y) || ((x : Int) == (y : Int))) := by
  rw [toList_beq, ← bitsOf_same, Bool.eq_iff_iff, decide_eq_true_iff, decide_eq_true_iff]
  refine ⟨fun h => ?_, fun h => by rw [h]⟩
  have h2 := congrArg ofLE (strOfNums_inj _ _ (le_bytes _ _) (le_bytes _ _) h)
  have b1 := bitsOf_lt x hx
  have b2 := bitsOf_lt y hy
  rw [ofLE_le, ofLE_le, show (256 : Int) ^ 8 = 18446744073709551616 from rfl] at h2
  omega

set_option maxHeartbeats 1000000 in
theorem real_walk (x y : Nat) (wx : (Lit.float .f64 x).wf = true) (wy : (Lit.float .f64 y).wf = true) (w : World) :
    Calls Try.prog 8 #[.float .f64 x, .float .f64 y] w fun e w' => e = .returned (.bool true) ∧ Below w.heap.size w w' := by
  have HX : Hid (x < 2 ^ 64) := by show x < 2 ^ 64; simpa [Lit.wf] using wx
  have HY : Hid (y < 2 ^ 64) := by show y < 2 ^ 64; simpa [Lit.wf] using wy
  have HS := real_bytes_same x y HX.out HY.out
  clear wx wy
  go_enter Try.func8, Try.ntmps8
  go_wp2_with fail
  obtain ⟨hX, hY, hb3, hs3⟩ := two_new w
  generalize hw3 : (w.alloc (.cells #[.slice none 0 0] 27)).alloc (.cells #[.slice none 0 0] 27) = w3 at hX hY hb3 hs3
  clear hw3
  refine (wreal_any (w.heap.size + 2) w.heap.size _ [] x w3 HX hX (by decide)).mono ?_
  rintro e w4 ⟨rfl, ⟨v1, hX1⟩, hB1⟩
  have hz4 := hB1.size
  have hY1 := (hY.kept hB1 (by omega) (by omega) (fun k hk => by simp [Value.ownBlock] at hk)).rebase (B' := w4.heap.size) (by omega) (Nat.le_refl _)
  go_wp2_with fail
  refine (wreal_any w4.heap.size (w.heap.size + 1) _ [] y w4 HY hY1 (by decide)).mono ?_
  rintro e w5 ⟨rfl, ⟨v2, hY2⟩, hB2⟩
  have hz5 := hB2.size
  have hX2 := hX1.kept hB2 (by omega) (by omega) (fun k hk => by have := hX1.row_lt k hk; omega)
  have hEnd : Below w.heap.size w w5 := ((hb3.trans (hB1.belowAt (Nat.le_refl _) (by omega))).trans (hB2.belowAt (by omega) (by omega)))
  have hE9 : w.heap.size ≤ w5.heap.size := by omega
  rw [List.nil_append] at hX2 hY2
  have hsx : (((strOfNums (le 8 (bitsOf x))).size : Int) == 8) = true := by rw [strOfNums_size]; simp [le_length]
  generalize hSX : strOfNums (le 8 (bitsOf x)) = SX at hsx HS
  generalize hSY : strOfNums (le 8 (bitsOf y)) = SY at HS
  have HSX : Hid (strOfNums (le 8 (bitsOf x)) = SX) := hSX
  have HSY : Hid (strOfNums (le 8 (bitsOf y)) = SY) := hSY
  clear hSX hSY hX hY hX1 hY1 hB1 hB2 hb3 hs3 hz4 hz5
  obtain ⟨t, HT, HS'⟩ : ∃ t, Hid ((nan x && nan y || ((x : Int) == (y : Int))) = t) ∧ (SX.toList == SY.toList) = t := ⟨_, rfl, HS⟩
  clear HS
  cases hx : (FloatKind.f64.format.order x x != some Ordering.eq) <;> cases hy : (FloatKind.f64.format.order y y != some Ordering.eq) <;> cases hxy : ((x : Int) == (y : Int))
  all_goals
    have hh := HT.out
    rw [show nan x = _ from hx, show nan y = _ from hy, hxy] at hh
    subst hh
    clear HT
  all_goals
    go_wp2_with (go_at_call 22; refine (alike_any _ _ _).mono ?_; rintro e w' ⟨rfl, rfl⟩)
    refine (bytes_any _ _ _ _ _ hX2).mono ?_
    rintro e w8 ⟨rfl, rfl⟩
    rw [HSX.out]
    go_wp2_with fail
    refine (bytes_any _ _ _ _ _ hX2).mono ?_
    rintro e w8 ⟨rfl, rfl⟩
    rw [HSX.out]
    go_wp2_with fail
    refine (bytes_any _ _ _ _ _ hY2).mono ?_
    rintro e w8 ⟨rfl, rfl⟩
    rw [HSY.out]
    go_wp2_with (go_at_call 9; refine (shown_any _).mono ?_; rintro e w9 ⟨rfl, hB9⟩)
    go_ret
    exact ⟨rfl, hEnd.trans (hB9.mono hE9)⟩
end Go.Proofs.Ytglpdchdkabajaa
