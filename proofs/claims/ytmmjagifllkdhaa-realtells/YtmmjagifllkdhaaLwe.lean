/-
  The reference's Ticks, and the walk of RealTells.
-/
import Derived.Test.YtmmjagifllkdhaaRef
namespace Go.Proofs.Ytmmjagifllkdhaa
open Go.RowKit

theorem flo_K40 {x : Nat} (h : x ≤ K40) : flo x ≤ 1099511627776 := by
  have h1 := cei_K40 h
  rw [cei_flo] at h1
  split at h1
  · exact Nat.le_of_succ_le h1
  · exact h1
theorem lt_flo {x : Nat} (h : x ≤ K40) : (FloatKind.f64.format.order (floatOfInt .f64 (flo x)) x == some .lt) = decide (flo x * pw 1074 < V x) := by
  have hf := flo_K40 h
  have hK : K40 < infR := by decide
  rw [floatOfInt_eq _ (Int.natCast_nonneg _) (Int.lt_of_le_of_lt (Int.ofNat_le.2 hf) (by decide)), lt_pos (Nat.le_of_lt (flo_fi (flo x) hf).2) (by omega), Bool.eq_iff_iff, decide_eq_true_iff, decide_eq_true_iff]
  have e : V (fi (flo x)) = flo x * pw 1074 := by
    have := V_fi (flo x) (Int.natCast_nonneg _) (Int.lt_of_le_of_lt (Int.ofNat_le.2 hf) (by decide))
    rwa [Int.toNat_natCast] at this
  rw [← e]
  exact ⟨V_lt, lt_of_V⟩

theorem refTicks_any (x : Nat) (w : World) (hx : Hid (x < 2 ^ 64)) : Calls Try.prog 21 #[.float .f64 x] w fun e w' => e = .returned (.int .u64 (ticksS x : Int)) ∧ w' = w := by
  unfold ticksS
  have l0 := leF x 0
  have gK := geF x K40
  have hn := nanF x
  rw [show nan 0 = false from rfl, show key 0 = 0 from rfl] at l0
  rw [show nan K40 = false from rfl, show key K40 = K40 from rfl] at gK
  cases h1 : nan x <;> rw [h1] at hn
  case true =>
    go_enter Try.func21, Try.ntmps21
    go_wp2
    go_ret
    exact ⟨rfl, rfl⟩
  rw [h1] at l0 gK
  simp only [Bool.not_false, Bool.true_and] at l0 gK
  by_cases h2 : key x ≤ 0
  · rw [decide_eq_true h2] at l0
    rw [if_pos h2]
    go_enter Try.func21, Try.ntmps21
    go_wp2
    go_ret
    exact ⟨rfl, rfl⟩
  rw [decide_eq_false h2] at l0
  rw [if_neg h2]
  by_cases h3 : (K40 : Int) ≤ key x
  · rw [decide_eq_true h3] at gK
    rw [if_pos h3]
    unfold K40 at gK
    go_enter Try.func21, Try.ntmps21
    go_wp2
    go_ret
    exact ⟨rfl, rfl⟩
  rw [decide_eq_false h3] at gK
  rw [if_neg h3]
  obtain ⟨e, hS⟩ := pos_word hx.out (show 0 < key x by omega)
  have hle : x ≤ K40 := by omega
  have hI : K40 < infR := by decide
  have hf := flo_K40 hle
  have hcv := conv_u64 x (by omega) (by omega)
  have hlt := lt_flo hle
  have hc := cei_flo x
  clear e hS hle h2 h3
  unfold K40 at gK
  by_cases hq : flo x * pw 1074 < V x
  · rw [decide_eq_true hq] at hlt
    rw [if_pos hq] at hc
    rw [hc]
    clear hq hc
    generalize flo x = n at *
    go_enter Try.func21, Try.ntmps21
    go_wp2
    go_ret
    exact ⟨rfl, rfl⟩
  · rw [decide_eq_false hq] at hlt
    rw [if_neg hq] at hc
    rw [hc]
    clear hq hc
    generalize flo x = n at *
    go_enter Try.func21, Try.ntmps21
    go_wp2
    go_ret
    exact ⟨rfl, rfl⟩

set_option maxHeartbeats 1000000 in
theorem tells_walk (x y z : Nat) (wx : (Lit.float .f64 x).wf = true) (wy : (Lit.float .f64 y).wf = true) (wz : (Lit.float .f64 z).wf = true) (w : World) :
    Calls Try.prog 3 #[.float .f64 x, .float .f64 y, .float .f64 z] w fun e w' => e = .returned (.bool true) ∧ Below w.heap.size w w' := by
  have HX : Hid (x < 2 ^ 64) := by show x < 2 ^ 64; simpa [Lit.wf] using wx
  have HY : Hid (y < 2 ^ 64) := by show y < 2 ^ 64; simpa [Lit.wf] using wy
  have HZ : Hid (z < 2 ^ 64) := by show z < 2 ^ 64; simpa [Lit.wf] using wz
  clear wx wy wz
  have c1 := fun w => order_any x y w HX HY
  have c2 := fun w => refOrder_any x y w HX HY
  have c3 := fun w => clean_any x y z w
  have c4 := fun w => refClean_any x y z w
  have c5 := fun w => blend_any x y z HZ w
  have c6 := fun w => refBlend_any x y z HZ w
  have c7 := fun w => ticks_any x w HX
  have c8 := fun w => refTicks_any x w HX
  generalize ordS x y = o at *
  generalize cleanS x y z = c at *
  generalize blendS x y z = b at *
  generalize ticksS x = t at *
  have e1 : (o == o) = true := by simp
  have e2 : (nan c && nan c || decide (c = c)) = true := by simp
  have e3 : (nan b && nan b || decide (b = b)) = true := by simp
  have e4 : ((t : Int) == (t : Int)) = true := by simp
  go_enter Try.func3, Try.ntmps3
  go_wp2_with (first
    | (go_at_call 14; refine (c1 _).mono ?_; rintro e w' ⟨rfl, rfl⟩)
    | (go_at_call 15; refine (c2 _).mono ?_; rintro e w' ⟨rfl, rfl⟩)
    | (go_at_call 16; refine (c3 _).mono ?_; rintro e w' ⟨rfl, rfl⟩)
    | (go_at_call 17; refine (c4 _).mono ?_; rintro e w' ⟨rfl, rfl⟩)
    | (go_at_call 13; refine (alike_any _ _ _).mono ?_; rintro e w' ⟨rfl, rfl⟩)
    | (go_at_call 18; refine (c5 _).mono ?_; rintro e w1 ⟨rfl, b1⟩)
    | (go_at_call 19; refine (c6 _).mono ?_; rintro e w2 ⟨rfl, b2⟩)
    | (go_at_call 20; refine (c7 _).mono ?_; rintro e w' ⟨rfl, rfl⟩)
    | (go_at_call 21; refine (c8 _).mono ?_; rintro e w' ⟨rfl, rfl⟩)
    | (go_at_call 22; refine (shown_any _).mono ?_; rintro e w' ⟨rfl, rfl⟩))
  go_ret
  exact ⟨rfl, b1.trans (b2.mono b1.size)⟩
end Go.Proofs.Ytmmjagifllkdhaa
