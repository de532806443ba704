/-
  Ticks.
-/
import Derived.Test.YtahiiieifdhgeaaXbi
namespace Go.Proofs.Ytahiiieifdhgeaa.Re
open Go.RowKit

theorem leF (x y : Nat) : (FloatKind.f64.format.order x y == some .lt || FloatKind.f64.format.order x y == some .eq) = (!nan x && !nan y && decide (key x ≤ key y)) := by
  rw [ltF, eqF]
  cases nan x <;> cases nan y <;> simp
  rw [Bool.eq_iff_iff]; simp; omega
theorem geF (x y : Nat) : (FloatKind.f64.format.order x y == some .gt || FloatKind.f64.format.order x y == some .eq) = (!nan x && !nan y && decide (key y ≤ key x)) := by
  rw [gtF, eqF]
  cases nan x <;> cases nan y <;> simp
  rw [Bool.eq_iff_iff]; simp; omega

def K40 : Nat := 4787326403894837248
theorem V_K40 : V K40 = 1099511627776 * pw 1074 := V_pow 40
/-- A word above nought is its rung. -/
theorem pos_word {x : Nat} (hx : x < 2 ^ 64) (h : 0 < key x) : key x = x ∧ x < S := by
  unfold key at h
  cases hg : ng x
  · rw [hg] at h
    have : x < S := by unfold ng S at hg; simp at hg; unfold S; omega
    exact ⟨key_pos this, this⟩
  · rw [hg] at h; simp at h; omega

/-- Ticks, as a plain function. -/
def ticksS (x : Nat) : Nat := if nan x then 0 else if key x ≤ 0 then 0 else if (K40 : Int) ≤ key x then 1099511627776 else cei x

theorem cei_spec (x : Nat) : V x ≤ cei x * pw 1074 ∧ (0 < V x → 0 < cei x ∧ (cei x - 1) * pw 1074 < V x) := by
  unfold cei
  have hp := pw_pos 1074
  generalize pw 1074 = g at *
  have h1 := Nat.div_add_mod (V x + (g - 1)) g
  have h2 := Nat.mod_lt (V x + (g - 1)) hp
  generalize (V x + (g - 1)) / g = q at *
  rw [Nat.mul_comm] at h1
  refine ⟨by omega, fun h => ?_⟩
  have hq : 0 < q := by
    by_cases h0 : q = 0
    · rw [h0] at h1; simp at h1; omega
    · omega
  refine ⟨hq, ?_⟩
  rw [Nat.sub_mul, Nat.one_mul]
  have : g ≤ q * g := Nat.le_mul_of_pos_left _ hq
  omega
theorem flo_spec (x : Nat) : flo x * pw 1074 ≤ V x ∧ V x < (flo x + 1) * pw 1074 := by
  unfold flo
  have hp := pw_pos 1074
  generalize pw 1074 = g at *
  have h1 := Nat.div_add_mod (V x) g
  have h2 := Nat.mod_lt (V x) hp
  rw [Nat.mul_comm] at h1
  rw [Nat.add_mul]
  omega
theorem mul_lt_pw {a b : Nat} (h : a * pw 1074 < b * pw 1074) : a < b := Nat.lt_of_mul_lt_mul_right h
theorem mul_le_pw {a b : Nat} (h : a * pw 1074 ≤ b * pw 1074) : a ≤ b := Nat.le_of_mul_le_mul_right h (pw_pos _)
theorem cei_mono {x y : Nat} (h : x ≤ y) : cei x ≤ cei y := Nat.div_le_div_right (Nat.add_le_add_right (V_le h) _)
theorem cei_K40 {x : Nat} (h : x ≤ K40) : cei x ≤ 1099511627776 := by
  have := cei_mono h
  have e : cei K40 = 1099511627776 := by
    unfold cei; rw [V_K40]
    have hp := pw_pos 1074
    generalize pw 1074 = g at *
    rw [Nat.add_comm, Nat.add_mul_div_right _ _ hp, Nat.div_eq_of_lt (by omega)]
  omega
/-- By what is cut off. -/
theorem cei_flo (x : Nat) : cei x = if flo x * pw 1074 < V x then flo x + 1 else flo x := by
  have ⟨f1, f2⟩ := flo_spec x
  have ⟨c1, c2⟩ := cei_spec x
  by_cases h : flo x * pw 1074 < V x
  · rw [if_pos h]
    have ⟨c3, c4⟩ := c2 (by omega)
    have a := mul_lt_pw (Nat.lt_of_lt_of_le h c1)
    have b := mul_lt_pw (Nat.lt_trans c4 f2)
    omega
  · rw [if_neg h]
    have e : V x = flo x * pw 1074 := by omega
    by_cases h0 : 0 < V x
    · have ⟨c3, c4⟩ := c2 h0
      rw [e] at c1 c4
      have a := mul_le_pw c1
      have b := mul_lt_pw c4
      omega
    · have hV : V x = 0 := by omega
      unfold cei flo; rw [hV]
      have hp := pw_pos 1074
      rw [Nat.div_eq_of_lt (by omega), Nat.div_eq_of_lt (by omega)]

theorem f45 (x : Nat) (h : x < infR) (w : World) : (callFunc 48 #[.float .f64 x]).run Try.prog w = .ok (.value (.float .f64 (min (rd (cei x * pw 4000)) infR))) w := by
  rw [run_callFunc_extern Try.func48 (by kernel_rfl) (by kernel_rfl) (by kernel_rfl) (e := Extern.MathFloor.toIntegral "math.archCeil" .up) (by kernel_rfl) _ _]
  obtain ⟨c, hc, rfl⟩ := ceil_pos h
  obtain ⟨m, i, e, _⟩ := read_pos h
  have hd : FloatKind.f64.decode x = .number false m i := e
  have hr : (Extern.MathFloor.toIntegral "math.archCeil" .up #[.float .f64 x]) = pure (.float .f64 (min (rd (cei x * pw 4000)) infR)) := by
    change (match FloatKind.f64.decode x with
      | .nan _ _ => _
      | d => pure (Value.float .f64 (FloatKind.f64.encode (d.integral .up)))) = _
    rw [hd]
    dsimp only
    rw [← e, hc]
    show pure (Value.float .f64 (fm.nearest false (cei x) 0)) = _
    rw [nearest_rd _ _ _ (by omega), word_false]
    unfold Q
    rw [← pw_eq]
    rfl
  rw [hr]; rfl

theorem conv_u64 (x : Nat) (h : x < infR) (hf : flo x < 18446744073709551616) (w : World) : (convert 35 32 (.float .f64 x)).run Try.prog w = .ok (.int .u64 (flo x : Int)) w := by
  refine run_convert_float_int w 35 32 .f64 .u64 x _ (by kernel_rfl) (by kernel_rfl) ?_
  unfold floatToIntVal
  rw [show (FloatKind.f64.decode x).toInt .zero = some (flo x : Int) from toInt_pos h]
  dsimp only
  rw [if_pos]
  simp [IntKind.min, IntKind.max, IntKind.signed, IntKind.bits]
  omega

theorem ceil_any (x : Nat) (h : x ≤ K40) (w : World) : Calls Try.prog 38 #[.float .f64 x] w fun e w' => e = .returned (.float .f64 (fi (cei x))) ∧ w' = w := by
  have hK : K40 < infR := by decide
  have h1 := cei_K40 h
  have e : min (rd (cei x * pw 4000)) infR = fi (cei x) := by
    have := fi_le (cei x : Int) 40 (by omega)
    unfold fi at *
    rw [Int.toNat_natCast] at *
    exact Nat.min_eq_left (Nat.le_of_lt (Nat.lt_of_le_of_lt this (by decide)))
  have h45 := f45 x (by omega)
  rw [e] at h45
  generalize fi (cei x) = z at *
  go_enter Try.func38, Try.ntmps38
  go_wp2
  go_ret
  exact ⟨rfl, rfl⟩

theorem flo_fi (c : Nat) (h : c ≤ 1099511627776) : flo (fi c) = c ∧ fi c < infR := by
  refine ⟨?_, Nat.lt_of_le_of_lt (fi_le (c : Int) 40 (by omega)) (by decide)⟩
  unfold flo
  rw [V_fi _ (by omega) (by omega), Int.toNat_natCast, Nat.mul_div_cancel _ (pw_pos _)]

theorem ticks_any (x : Nat) (w : World) (hx : Hid (x < 2 ^ 64)) : Calls Try.prog 22 #[.float .f64 x] w fun e w' => e = .returned (.int .u64 (ticksS x : Int)) ∧ w' = w := by
  unfold ticksS
  have l0 := leF x 0
  have gK := geF x K40
  rw [show nan 0 = false from rfl, show key 0 = 0 from rfl] at l0
  rw [show nan K40 = false from rfl, show key K40 = K40 from rfl] at gK
  cases h1 : nan x
  case true =>
    go_enter Try.func22, Try.ntmps22
    go_wp2_with (go_at_call 37; refine (noNumber_any _ _).mono ?_; rintro e w' ⟨rfl, rfl⟩)
    go_ret
    exact ⟨rfl, rfl⟩
  rw [h1] at l0 gK
  simp only [Bool.not_false, Bool.true_and] at l0 gK
  by_cases h2 : key x ≤ 0
  · rw [decide_eq_true h2] at l0
    rw [if_pos h2]
    go_enter Try.func22, Try.ntmps22
    go_wp2_with (go_at_call 37; refine (noNumber_any _ _).mono ?_; rintro e w' ⟨rfl, rfl⟩)
    go_ret
    exact ⟨rfl, rfl⟩
  rw [decide_eq_false h2] at l0
  rw [if_neg h2]
  by_cases h3 : (K40 : Int) ≤ key x
  · rw [decide_eq_true h3] at gK
    rw [if_pos h3]
    unfold K40 at gK
    go_enter Try.func22, Try.ntmps22
    go_wp2_with (go_at_call 37; refine (noNumber_any _ _).mono ?_; rintro e w' ⟨rfl, rfl⟩)
    go_ret
    exact ⟨rfl, rfl⟩
  rw [decide_eq_false h3] at gK
  rw [if_neg h3]
  obtain ⟨e, hS⟩ := pos_word hx.out (show 0 < key x by omega)
  have hle : x ≤ K40 := by omega
  have hc := cei_K40 hle
  obtain ⟨f1, f2⟩ := flo_fi (cei x) hc
  have hcv := conv_u64 (fi (cei x)) f2 (by rw [f1]; omega)
  rw [f1] at hcv
  have HL : Hid (x ≤ K40) := hle
  have HC := fun w => ceil_any x hle w
  clear e hS hle f1 f2
  generalize fi (cei x) = z at *
  generalize cei x = c at *
  unfold K40 at gK
  clear h2 h3
  go_enter Try.func22, Try.ntmps22
  go_wp2_with (first | (go_at_call 37; refine (noNumber_any _ _).mono ?_; rintro e w' ⟨rfl, rfl⟩) | (go_at_call 38; refine (HC _).mono ?_; rintro e w' ⟨rfl, rfl⟩))
  go_ret
  exact ⟨rfl, rfl⟩

end Go.Proofs.Ytahiiieifdhgeaa.Re
