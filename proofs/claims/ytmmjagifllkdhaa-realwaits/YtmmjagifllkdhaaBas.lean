/-
  Leaves: bits of a word, what is no number, places, Order, Clean, Bits, NaN, Inf, Copysign, Signbit, Alike.
-/
import Derived.Test.YtmmjagifllkdhaaOpr
import Derived.Test.YtmmjagifllkdhaaProg
import Derived.WalkSpells
import Derived.Deep.LoopGhost
import Derived.Deep.QuietTactic
import Derived.BigQuiet
import Derived.Laws.MathBits
namespace Go.Proofs.Ytmmjagifllkdhaa
open Go.RowKit

theorem f30 (b : Nat) (w : World) : (callFunc 30 #[.float .f64 b]).run Try.prog w = .ok (.value (.int .u64 b)) w :=
  run_callFunc_extern Try.func30 (by kernel_rfl) (by kernel_rfl) (by kernel_rfl) (e := Extern.MathFloatBits.float64bits) (by kernel_rfl) _ _
theorem f47 (n : Int) (w : World) : (callFunc 47 #[.int .u64 n]).run Try.prog w = .ok (.value (.float .f64 n.toNat)) w :=
  run_callFunc_extern Try.func47 (by kernel_rfl) (by kernel_rfl) (by kernel_rfl) (e := Extern.MathFloatBits.float64frombits) (by kernel_rfl) _ _

/-! ## Comparisons, by keys -/
theorem eqF (x y : Nat) : (FloatKind.f64.format.order x y == some .eq) = (!nan x && !nan y && decide (key x = key y)) := by
  show (fm.order x y == some .eq) = _
  rw [order_eq]
  cases nan x <;> cases nan y <;> simp [compare_of]
  by_cases h : key x = key y
  · simp [h]
  · by_cases h' : key x < key y <;> simp [h, h']
theorem neF (x y : Nat) : (FloatKind.f64.format.order x y != some .eq) = !(!nan x && !nan y && decide (key x = key y)) := by rw [← eqF]; rfl
theorem ltF (x y : Nat) : (FloatKind.f64.format.order x y == some .lt) = (!nan x && !nan y && decide (key x < key y)) := by
  show (fm.order x y == some .lt) = _
  rw [order_eq]
  cases nan x <;> cases nan y <;> simp [compare_of]
  by_cases h : key x < key y
  · simp [h]
  · by_cases h' : key x = key y <;> simp [h, h']
theorem gtF (x y : Nat) : (FloatKind.f64.format.order x y == some .gt) = (!nan x && !nan y && decide (key y < key x)) := by
  show (fm.order x y == some .gt) = _
  rw [order_eq]
  cases nan x <;> cases nan y <;> simp [compare_of]
  by_cases h : key x < key y
  · have : ¬ key y < key x := by omega
    simp [h, this]
  · by_cases h' : key x = key y
    · simp [h']
    · have : key y < key x := by omega
      simp [h, h', this]
theorem nanF (x : Nat) : (FloatKind.f64.format.order x x != some .eq) = nan x := by rw [neF]; cases nan x <;> simp

/-! ## Leaves -/
theorem noNumber_any (x : Nat) (w : World) : Calls Try.prog 35 #[.float .f64 x] w fun e w' => e = .returned (.bool (nan x)) ∧ w' = w := by
  have h := nanF x
  go_enter Try.func35, Try.ntmps35
  go_wp2
  go_ret
  exact ⟨rfl, rfl⟩

theorem alike_any (x y : Nat) (w : World) : Calls Try.prog 13 #[.float .f64 x, .float .f64 y] w fun e w' => e = .returned (.bool (nan x && nan y || decide (x = y))) ∧ w' = w := by
  have h30 := f30
  have e : decide (x = y) = ((x : Int) == (y : Int)) := by
    by_cases h : x = y
    · simp [h]
    · have : ¬ (x : Int) = y := by omega
      simp [h, this]
  rw [e]
  cases hx : nan x <;> rw [← nanF] at hx <;> cases hy : nan y <;> rw [← nanF] at hy <;> cases hxy : ((x : Int) == (y : Int))
  all_goals
    go_enter Try.func13, Try.ntmps13
    go_wp2
    go_ret
    exact ⟨rfl, rfl⟩

theorem u64_not (a : Nat) (ha : a < 2 ^ 64) : bits .xor .u64 IntKind.u64.max (a : Int) = 18446744073709551615 - (a : Int) := by
  show IntKind.u64.wrap ((BitVec.ofInt 64 (IntKind.u64.max) ^^^ BitVec.ofInt 64 (a : Int)).toNat : Int) = _
  have h1 : BitVec.ofInt 64 IntKind.u64.max = BitVec.allOnes 64 := by decide
  rw [h1, BitVec.allOnes_xor, BitVec.toNat_not, ofInt_u64 a (by omega)]
  simp [IntKind.wrap, IntKind.bits, IntKind.signed]
  omega

def placeS (x : Nat) : Int := if nan x then 0 else if ng x then 18446744073709551615 - (x : Int) else (x : Int) + 9223372036854775808
theorem place_any (x : Nat) (w : World) (hx : Hid (x < 2 ^ 64)) : Calls Try.prog 32 #[.float .f64 x] w fun e w' => e = .returned (.int .u64 (placeS x)) ∧ w' = w := by
  have h30 := f30
  have hx := hx.out
  unfold placeS
  cases hn : nan x
  · cases hg : ng x
    · have h1 : x < 9223372036854775808 := by simp [ng, S] at hg; omega
      have h2 : (bits .and .u64 (x : Int) 9223372036854775808 != 0) = false := by
        rw [bne_eq_false_iff_eq]; go_bits2
      have h3 : bits .or .u64 (x : Int) 9223372036854775808 = (x : Int) + 9223372036854775808 := by go_bits2
      go_enter Try.func32, Try.ntmps32
      go_wp2_with (go_at_call 35; refine (noNumber_any _ _).mono ?_; rintro e w' ⟨rfl, rfl⟩)
      go_ret
      exact ⟨rfl, rfl⟩
    · have h1 : 9223372036854775808 ≤ x := by simp [ng, S] at hg; omega
      have h2 : (bits .and .u64 (x : Int) 9223372036854775808 != 0) = true := by
        have : bits .and .u64 (x : Int) 9223372036854775808 = 9223372036854775808 := by go_bits2
        rw [this]; rfl
      have h4 := u64_not x hx
      go_enter Try.func32, Try.ntmps32
      go_wp2_with (go_at_call 35; refine (noNumber_any _ _).mono ?_; rintro e w' ⟨rfl, rfl⟩)
      go_ret
      exact ⟨rfl, rfl⟩
  · go_enter Try.func32, Try.ntmps32
    go_wp2_with (go_at_call 35; refine (noNumber_any _ _).mono ?_; rintro e w' ⟨rfl, rfl⟩)
    go_ret
    exact ⟨rfl, rfl⟩

theorem placeS_range (x : Nat) (hx : x < 2 ^ 64) : 0 ≤ placeS x ∧ placeS x < 18446744073709551616 := by
  unfold placeS ng S
  split
  · omega
  · split
    · rename_i h; simp at h; omega
    · rename_i h; simp at h; omega

theorem isNaN64_any (x : Int) (w : World) : Calls Try.prog 44 #[.int .u64 x] w fun e w' => e = .returned (.bool false) ∧ w' = w := by
  have h : (x != x) = false := by simp
  go_enter Try.func44, Try.ntmps44
  go_wp2
  go_ret
  exact ⟨rfl, rfl⟩
def cmpS (a b : Int) : Int := if a < b then -1 else if b < a then 1 else 0
theorem cmp_any (a b : Int) (w : World) : Calls Try.prog 31 #[.int .u64 a, .int .u64 b] w fun e w' => e = .returned (.int .i64 (cmpS a b)) ∧ w' = w := by
  unfold cmpS
  by_cases h1 : a < b
  · rw [if_pos h1]
    go_enter Try.func31, Try.ntmps31
    go_wp2_with (go_at_call 44; refine (isNaN64_any _ _).mono ?_; rintro e w' ⟨rfl, rfl⟩)
    go_ret
    exact ⟨rfl, rfl⟩
  · rw [if_neg h1]
    by_cases h2 : b < a
    · rw [if_pos h2]
      go_enter Try.func31, Try.ntmps31
      go_wp2_with (go_at_call 44; refine (isNaN64_any _ _).mono ?_; rintro e w' ⟨rfl, rfl⟩)
      go_ret
      exact ⟨rfl, rfl⟩
    · rw [if_neg h2]
      go_enter Try.func31, Try.ntmps31
      go_wp2_with (go_at_call 44; refine (isNaN64_any _ _).mono ?_; rintro e w' ⟨rfl, rfl⟩)
      go_ret
      exact ⟨rfl, rfl⟩

def ordS (x y : Nat) : Int := cmpS (placeS x) (placeS y)
theorem order_any (x y : Nat) (w : World) (hx : Hid (x < 2 ^ 64)) (hy : Hid (y < 2 ^ 64)) : Calls Try.prog 14 #[.float .f64 x, .float .f64 y] w fun e w' => e = .returned (.int .i64 (ordS x y)) ∧ w' = w := by
  go_enter Try.func14, Try.ntmps14
  go_wp2_with (first | (go_at_call 32; refine (place_any _ _ (by assumption)).mono ?_; rintro e w' ⟨rfl, rfl⟩) | (go_at_call 31; refine (cmp_any _ _ _).mono ?_; rintro e w' ⟨rfl, rfl⟩))
  go_ret
  exact ⟨rfl, rfl⟩

/-- What is held between two ends. -/
def cleanS (x l h : Nat) : Nat :=
  if nan x then l else if nan l then l else if nan h then l else if FloatKind.f64.format.order l h == some .gt then l
  else if FloatKind.f64.format.order x l == some .lt then l else if FloatKind.f64.format.order x h == some .gt then h else if FloatKind.f64.format.order x 0 == some .eq then 0 else x
theorem clean_any (x l h : Nat) (w : World) : Calls Try.prog 16 #[.float .f64 x, .float .f64 l, .float .f64 h] w fun e w' => e = .returned (.float .f64 (cleanS x l h)) ∧ w' = w := by
  unfold cleanS
  cases h1 : nan x
  case true =>
    go_enter Try.func16, Try.ntmps16
    go_wp2_with (go_at_call 35; refine (noNumber_any _ _).mono ?_; rintro e w' ⟨rfl, rfl⟩)
    go_ret
    exact ⟨rfl, rfl⟩
  cases h2 : nan l
  case true =>
    go_enter Try.func16, Try.ntmps16
    go_wp2_with (go_at_call 35; refine (noNumber_any _ _).mono ?_; rintro e w' ⟨rfl, rfl⟩)
    go_ret
    exact ⟨rfl, rfl⟩
  cases h3 : nan h
  case true =>
    go_enter Try.func16, Try.ntmps16
    go_wp2_with (go_at_call 35; refine (noNumber_any _ _).mono ?_; rintro e w' ⟨rfl, rfl⟩)
    go_ret
    exact ⟨rfl, rfl⟩
  cases h4 : FloatKind.f64.format.order l h == some .gt
  case true =>
    go_enter Try.func16, Try.ntmps16
    go_wp2_with (go_at_call 35; refine (noNumber_any _ _).mono ?_; rintro e w' ⟨rfl, rfl⟩)
    go_ret
    exact ⟨rfl, rfl⟩
  cases h5 : FloatKind.f64.format.order x l == some .lt
  case true =>
    go_enter Try.func16, Try.ntmps16
    go_wp2_with (go_at_call 35; refine (noNumber_any _ _).mono ?_; rintro e w' ⟨rfl, rfl⟩)
    go_ret
    exact ⟨rfl, rfl⟩
  cases h6 : FloatKind.f64.format.order x h == some .gt
  case true =>
    go_enter Try.func16, Try.ntmps16
    go_wp2_with (go_at_call 35; refine (noNumber_any _ _).mono ?_; rintro e w' ⟨rfl, rfl⟩)
    go_ret
    exact ⟨rfl, rfl⟩
  cases h7 : FloatKind.f64.format.order x 0 == some .eq
  all_goals
    go_enter Try.func16, Try.ntmps16
    go_wp2_with (go_at_call 35; refine (noNumber_any _ _).mono ?_; rintro e w' ⟨rfl, rfl⟩)
    go_ret
    exact ⟨rfl, rfl⟩

theorem nan_any (w : World) : Calls Try.prog 38 #[] w fun e w' => e = .returned (.float .f64 9221120237041090561) ∧ w' = w := by
  have h47 := f47
  go_enter Try.func38, Try.ntmps38
  go_wp2
  go_ret
  exact ⟨rfl, rfl⟩
theorem inf_any (w : World) : Calls Try.prog 41 #[.int .i64 (-1)] w fun e w' => e = .returned (.float .f64 18442240474082181120) ∧ w' = w := by
  have h47 := f47
  go_enter Try.func41, Try.ntmps41
  go_wp2
  go_ret
  exact ⟨rfl, rfl⟩
theorem copysign_any (w : World) : Calls Try.prog 37 #[.float .f64 0, .float .f64 13830554455654793216] w fun e w' => e = .returned (.float .f64 9223372036854775808) ∧ w' = w := by
  have h30 := f30
  have h47 := f47
  go_enter Try.func37, Try.ntmps37
  go_wp2
  go_ret
  exact ⟨rfl, rfl⟩
theorem signbit_any (x : Nat) (hx : x < 2 ^ 64) (w : World) : Calls Try.prog 34 #[.float .f64 x] w fun e w' => e = .returned (.bool (ng x)) ∧ w' = w := by
  have h30 := f30
  have e : ng x = decide (9223372036854775808 ≤ x) := by
    unfold ng S
    by_cases h : 9223372036854775808 ≤ x
    · simp [h]; omega
    · simp [h]; omega
  rw [e]
  by_cases h : 9223372036854775808 ≤ x
  · rw [decide_eq_true h]
    have hw : decide (wrap64 (x : Int) < 0) = true := by simp [wrap64]; omega
    go_enter Try.func34, Try.ntmps34
    go_wp2
    go_ret
    exact ⟨rfl, rfl⟩
  · rw [decide_eq_false h]
    have hw : decide (wrap64 (x : Int) < 0) = false := by simp [wrap64]; omega
    go_enter Try.func34, Try.ntmps34
    go_wp2
    go_ret
    exact ⟨rfl, rfl⟩
end Go.Proofs.Ytmmjagifllkdhaa
