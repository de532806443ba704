/-
  The reference's Ticks.
-/
import Derived.Test.YtahiiieifdhgeaaXrw
namespace Go.Proofs.Ytahiiieifdhgeaa.Re
open Go.RowKit

theorem flo_K40 {x : Nat} (h : x ≤ K40) : flo x ≤ 1099511627776 := by
  have h1 := cei_K40 h
  rw [cei_flo] at h1
  split at h1
  · exact Nat.le_of_succ_le h1
  · exact h1
theorem lt_flo {x : Nat} (h : x ≤ K40) : (FloatKind.f64.format.order (floatOfInt .f64 (flo x)) x == some .lt) = decide (flo x * pw 1074 < V x) := by
  have hf := flo_K40 h
  have hK : K40 < infR := by decide
  rw [floatOfInt_eq _ (Int.natCast_nonneg _) (Int.lt_of_le_of_lt (Int.ofNat_le.2 hf) (by decide)), lt_pos (Nat.le_of_lt (flo_fi (flo x) hf).2) (by omega), Bool.eq_iff_iff, decide_eq_true_iff, decide_eq_true_iff]
  have e : V (fi (flo x)) = flo x * pw 1074 := by
    have := V_fi (flo x) (Int.natCast_nonneg _) (Int.lt_of_le_of_lt (Int.ofNat_le.2 hf) (by decide))
    rwa [Int.toNat_natCast] at this
  rw [← e]
  exact ⟨V_lt, lt_of_V⟩

theorem refTicks_any (x : Nat) (w : World) (hx : Hid (x < 2 ^ 64)) : Calls Try.prog 31 #[.float .f64 x] w fun e w' => e = .returned (.int .u64 (ticksS x : Int)) ∧ w' = w := by
  unfold ticksS
  have l0 := leF x 0
  have gK := geF x K40
  have hn := nanF x
  rw [show nan 0 = false from rfl, show key 0 = 0 from rfl] at l0
  rw [show nan K40 = false from rfl, show key K40 = K40 from rfl] at gK
  cases h1 : nan x <;> rw [h1] at hn
  case true =>
    go_enter Try.func31, Try.ntmps31
    go_wp2
    go_ret
    exact ⟨rfl, rfl⟩
  rw [h1] at l0 gK
  simp only [Bool.not_false, Bool.true_and] at l0 gK
  by_cases h2 : key x ≤ 0
  · rw [decide_eq_true h2] at l0
    rw [if_pos h2]
    go_enter Try.func31, Try.ntmps31
    go_wp2
    go_ret
    exact ⟨rfl, rfl⟩
  rw [decide_eq_false h2] at l0
  rw [if_neg h2]
  by_cases h3 : (K40 : Int) ≤ key x
  · rw [decide_eq_true h3] at gK
    rw [if_pos h3]
    unfold K40 at gK
    go_enter Try.func31, Try.ntmps31
    go_wp2
    go_ret
    exact ⟨rfl, rfl⟩
  rw [decide_eq_false h3] at gK
  rw [if_neg h3]
  obtain ⟨e, hS⟩ := pos_word hx.out (show 0 < key x by omega)
  have hle : x ≤ K40 := by omega
  have hI : K40 < infR := by decide
  have hf := flo_K40 hle
  have hcv := conv_u64 x (by omega) (by omega)
  have hlt := lt_flo hle
  have hc := cei_flo x
  clear e hS hle h2 h3
  unfold K40 at gK
  by_cases hq : flo x * pw 1074 < V x
  · rw [decide_eq_true hq] at hlt
    rw [if_pos hq] at hc
    rw [hc]
    clear hq hc
    generalize flo x = n at *
    go_enter Try.func31, Try.ntmps31
    go_wp2
    go_ret
    exact ⟨rfl, rfl⟩
  · rw [decide_eq_false hq] at hlt
    rw [if_neg hq] at hc
    rw [hc]
    clear hq hc
    generalize flo x = n at *
    go_enter Try.func31, Try.ntmps31
    go_wp2
    go_ret
    exact ⟨rfl, rfl⟩

end Go.Proofs.Ytahiiieifdhgeaa.Re
