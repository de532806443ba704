/-
  The walk of RealTicks.
-/
import Derived.Test.YtmmjagifllkdhaaTck
namespace Go.Proofs.Ytmmjagifllkdhaa
open Go.RowKit

theorem ticks_mono {x y : Nat} (hx : x < 2 ^ 64) (hy : y < 2 ^ 64) (nx : nan x = false) (ny : nan y = false) (h : key x ≤ key y) : ticksS x ≤ ticksS y := by
  unfold ticksS
  rw [nx, ny]
  simp only [Bool.false_eq_true, if_false]
  by_cases h1 : key x ≤ 0
  · rw [if_pos h1]; omega
  · rw [if_neg h1, if_neg (show ¬ key y ≤ 0 by omega)]
    obtain ⟨a1, a2⟩ := pos_word hx (by omega)
    obtain ⟨b1, b2⟩ := pos_word hy (by omega)
    by_cases h2 : (K40 : Int) ≤ key x
    · rw [if_pos h2, if_pos (by omega)]; omega
    · rw [if_neg h2]
      by_cases h3 : (K40 : Int) ≤ key y
      · rw [if_pos h3]; exact cei_K40 (by omega)
      · rw [if_neg h3]; exact cei_mono (by omega)
theorem ticks_none {x : Nat} (h : nan x = true ∨ key x ≤ 0) : ticksS x = 0 := by
  unfold ticksS
  cases nx : nan x
  · rcases h with h | h
    · rw [h] at nx; cases nx
    · simp [h]
  · rfl
/-- Where there are ticks. -/
theorem ticks_some {x : Nat} (hx : x < 2 ^ 64) (nx : nan x = false) (h : 0 < key x) : 1 ≤ ticksS x ∧ ticksS x ≤ 1099511627776 ∧ (ticksS x = 1099511627776 ∨ key x ≤ key (fi (ticksS x))) ∧ key (fi ((ticksS x : Int) - 1)) < key x ∧ nan (fi (ticksS x)) = false ∧ nan (fi ((ticksS x : Int) - 1)) = false := by
  obtain ⟨a1, a2⟩ := pos_word hx h
  have hI : K40 < infR := by decide
  have hIS := infR_lt_S
  unfold ticksS
  rw [nx]
  simp only [Bool.false_eq_true, if_false]
  rw [if_neg (by omega)]
  have small : ∀ c : Nat, c ≤ 1099511627776 → fi c < infR ∧ nan (fi c) = false ∧ key (fi c) = fi c := fun c hc => by
    have f2 := (flo_fi c hc).2
    exact ⟨f2, nan_pos (by omega), key_pos (by omega)⟩
  have less : ∀ c : Nat, 1 ≤ c → ((c : Int) - 1) = ((c - 1 : Nat) : Int) := fun c hc => by omega
  by_cases h2 : (K40 : Int) ≤ key x
  · rw [if_pos h2, less _ (by omega)]
    obtain ⟨s1, s2, s3⟩ := small 1099511627776 (by omega)
    obtain ⟨t1, t2, t3⟩ := small (1099511627776 - 1) (by omega)
    refine ⟨by omega, by omega, .inl rfl, ?_, s2, t2⟩
    rw [t3, a1]
    have hv := V_fi ((1099511627776 - 1 : Nat) : Int) (by omega) (by omega)
    have : fi ((1099511627776 - 1 : Nat) : Int) < K40 := by
      refine lt_of_V ?_
      rw [hv, V_K40, Int.toNat_natCast]
      exact (Nat.mul_lt_mul_right (pw_pos _)).2 (by decide)
    rw [a1] at h2
    exact Int.ofNat_lt.2 (Nat.lt_of_lt_of_le this (Int.ofNat_le.1 h2))
  · rw [if_neg h2]
    have hle : x ≤ K40 := by omega
    have hc := cei_K40 hle
    obtain ⟨c1, c2⟩ := cei_spec x
    have hx0 : 0 < V x := by have := V_lt (show 0 < x by omega); rw [V_zero] at this; exact this
    obtain ⟨c3, c4⟩ := c2 hx0
    rw [less _ c3]
    obtain ⟨s1, s2, s3⟩ := small (cei x) hc
    obtain ⟨t1, t2, t3⟩ := small (cei x - 1) (Nat.le_trans (Nat.sub_le _ _) hc)
    refine ⟨c3, hc, .inr ?_, ?_, s2, t2⟩
    · rw [s3, a1]
      have : x ≤ fi (cei x) := by
        refine le_of_V ?_
        rw [V_fi _ (Int.natCast_nonneg _) (Int.lt_of_le_of_lt (Int.ofNat_le.2 hc) (by decide)), Int.toNat_natCast]; exact c1
      exact Int.ofNat_le.2 this
    · rw [t3, a1]
      have : fi ((cei x - 1 : Nat) : Int) < x := by
        refine lt_of_V ?_
        rw [V_fi _ (Int.natCast_nonneg _) (Int.lt_of_le_of_lt (Int.ofNat_le.2 (Nat.le_trans (Nat.sub_le _ _) hc)) (by decide)), Int.toNat_natCast]; exact c4
      exact Int.ofNat_lt.2 this

set_option maxHeartbeats 1000000 in
theorem ticks_road0 (x y : Nat) (HX : Hid (x < 2 ^ 64)) (HY : Hid (y < 2 ^ 64)) (nx le0 le : Bool) (hn : (FloatKind.f64.format.order x x != some .eq) = nx)
    (h0 : (FloatKind.f64.format.order x 0 == some .lt || FloatKind.f64.format.order x 0 == some .eq) = le0)
    (hle : (FloatKind.f64.format.order x y == some .lt || FloatKind.f64.format.order x y == some .eq) = le)
    (ho : nx = true ∨ nx = false ∧ le0 = true) (ht : (ticksS x : Int) = 0) (w : World) :
    Calls Try.prog 10 #[.float .f64 x, .float .f64 y] w fun e w' => e = .returned (.bool true) ∧ Below w.heap.size w w' := by
  rcases ho with rfl | ⟨rfl, rfl⟩
  · clear h0
    cases le
    all_goals
      go_enter Try.func10, Try.ntmps10
      go_wp2_with (first
        | (go_at_call 20; refine (ticks_any _ _ (by assumption)).mono ?_; rintro e w' ⟨rfl, rfl⟩)
        | (go_at_call 22; refine (shown_any _).mono ?_; rintro e w' ⟨rfl, rfl⟩))
      go_ret
      exact ⟨rfl, Below.refl _ _⟩
  · cases le
    all_goals
      go_enter Try.func10, Try.ntmps10
      go_wp2_with (first
        | (go_at_call 20; refine (ticks_any _ _ (by assumption)).mono ?_; rintro e w' ⟨rfl, rfl⟩)
        | (go_at_call 22; refine (shown_any _).mono ?_; rintro e w' ⟨rfl, rfl⟩))
      go_ret
      exact ⟨rfl, Below.refl _ _⟩

set_option maxHeartbeats 1000000 in
theorem ticks_road1 (x y : Nat) (HX : Hid (x < 2 ^ 64)) (HY : Hid (y < 2 ^ 64)) (le : Bool) (hn : (FloatKind.f64.format.order x x != some .eq) = false)
    (h0 : (FloatKind.f64.format.order x 0 == some .lt || FloatKind.f64.format.order x 0 == some .eq) = false)
    (hle : (FloatKind.f64.format.order x y == some .lt || FloatKind.f64.format.order x y == some .eq) = le)
    (hm : le = true → (ticksS x : Int) ≤ (ticksS y : Int)) (h1 : (1 : Int) ≤ (ticksS x : Int)) (h2 : (ticksS x : Int) ≤ 1099511627776)
    (h3 : ((ticksS x : Int) == 1099511627776) = true ∨ ((ticksS x : Int) == 1099511627776) = false ∧ (FloatKind.f64.format.order (floatOfInt .f64 (ticksS x)) x == some .gt || FloatKind.f64.format.order (floatOfInt .f64 (ticksS x)) x == some .eq) = true)
    (h4 : (FloatKind.f64.format.order (floatOfInt .f64 ((ticksS x : Int) - 1)) x == some .lt) = true) (w : World) :
    Calls Try.prog 10 #[.float .f64 x, .float .f64 y] w fun e w' => e = .returned (.bool true) ∧ Below w.heap.size w w' := by
  cases le
  · clear hm
    rcases h3 with h3 | ⟨h3, h5⟩
    all_goals
      go_enter Try.func10, Try.ntmps10
      go_wp2_with (first
        | (go_at_call 20; refine (ticks_any _ _ (by assumption)).mono ?_; rintro e w' ⟨rfl, rfl⟩)
        | (go_at_call 22; refine (shown_any _).mono ?_; rintro e w' ⟨rfl, rfl⟩))
      go_ret
      exact ⟨rfl, Below.refl _ _⟩
  · have hm := hm rfl
    rcases h3 with h3 | ⟨h3, h5⟩
    all_goals
      go_enter Try.func10, Try.ntmps10
      go_wp2_with (first
        | (go_at_call 20; refine (ticks_any _ _ (by assumption)).mono ?_; rintro e w' ⟨rfl, rfl⟩)
        | (go_at_call 22; refine (shown_any _).mono ?_; rintro e w' ⟨rfl, rfl⟩))
      go_ret
      exact ⟨rfl, Below.refl _ _⟩

theorem ticks_walk (x y : Nat) (wx : (Lit.float .f64 x).wf = true) (wy : (Lit.float .f64 y).wf = true) (w : World) :
    Calls Try.prog 10 #[.float .f64 x, .float .f64 y] w fun e w' => e = .returned (.bool true) ∧ Below w.heap.size w w' := by
  have hx : x < 2 ^ 64 := by simpa [Lit.wf] using wx
  have hy : y < 2 ^ 64 := by simpa [Lit.wf] using wy
  have hm : (FloatKind.f64.format.order x y == some .lt || FloatKind.f64.format.order x y == some .eq) = true → ticksS x ≤ ticksS y := fun h => by
    rw [leF] at h
    simp at h
    exact ticks_mono hx hy h.1.1 h.1.2 h.2
  have hn := nanF x
  have h0 := leF x 0
  rw [show nan 0 = false from rfl, show key 0 = 0 from rfl] at h0
  cases nx : nan x
  · by_cases h1 : key x ≤ 0
    · rw [nx, decide_eq_true h1] at h0
      rw [nx] at hn
      refine ticks_road0 x y hx hy _ _ _ hn h0 rfl (.inr ⟨rfl, rfl⟩) ?_ w
      rw [ticks_none (.inr h1)]; rfl
    · rw [nx, decide_eq_false h1] at h0
      rw [nx] at hn
      obtain ⟨t1, t2, t3, t4, t5, t6⟩ := ticks_some hx nx (by omega)
      refine ticks_road1 x y hx hy _ hn h0 rfl (fun h => Int.ofNat_le.2 (hm h)) (Int.ofNat_le.2 t1) (Int.ofNat_le.2 t2) ?_ ?_ w
      · rw [geF, floatOfInt_eq _ (by omega) (by omega), t5, nx]
        by_cases e : ticksS x = 1099511627776
        · left; rw [e]; rfl
        · right
          refine ⟨?_, ?_⟩
          · rw [beq_eq_false_iff_ne]; intro e2; apply e; omega
          · rcases t3 with h | h
            · exact absurd h e
            · simp [h]
      · rw [ltF, floatOfInt_eq _ (by omega) (by omega), t6, nx]
        simp [t4]
  · rw [nx] at hn
    refine ticks_road0 x y hx hy _ _ _ hn rfl rfl (.inl rfl) ?_ w
    rw [ticks_none (.inl nx)]; rfl
end Go.Proofs.Ytmmjagifllkdhaa
