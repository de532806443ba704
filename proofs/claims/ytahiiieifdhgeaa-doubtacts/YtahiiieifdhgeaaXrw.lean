/-
  The reference's Bits and Wait.
-/
import Derived.Test.YtahiiieifdhgeaaXwi
namespace Go.Proofs.Ytahiiieifdhgeaa.Re
open Go.RowKit

theorem bits_half {n : Int} (h0 : 0 < n) (h : n ≤ 9223372036854775807) : bitsS n = 1 + bitsS (n / 2) := by
  unfold bitsS
  rw [if_neg (by omega), if_neg (by omega), Lib.bitLen_half n.toNat (by omega) (by omega), show (n / 2).toNat = n.toNat / 2 by omega]
  omega
theorem bits_range (n : Int) (h : n ≤ 9223372036854775807) : 0 ≤ bitsS n ∧ bitsS n ≤ 64 := by
  unfold bitsS
  split
  · omega
  · have := Lib.bitLen_le n.toNat 64 (by omega) (by omega)
    omega
theorem bits_none {n : Int} (h : n ≤ 0) : bitsS n = 0 := by
  unfold bitsS
  split
  · rfl
  · rw [show n.toNat = 0 by omega]; rfl

theorem refBits_any (n : Int) (w : World) (h : -9223372036854775808 ≤ n ∧ n ≤ 9223372036854775807) : Calls Try.prog 45 #[.int .i64 n] w fun e w' => e = .returned (.int .i64 (bitsS n)) ∧ w' = w := by
  have hr := bits_range n h.2
  generalize hB : bitsS n = r at *
  have HB : Hid (bitsS n = r) := hB
  clear hB
  have hn1 := h.1
  have hn2 := h.2
  go_enter Try.func45, Try.ntmps45
  go_wp2_with fail
  go_loopg [0, 3] 64 (fun gk t0 t3 wr => wr = w ∧ ∃ (v k : Int), t0 = .int .i64 v ∧ t3 = .int .i64 k ∧ -9223372036854775808 ≤ v ∧ v ≤ 9223372036854775807 ∧ 0 ≤ k ∧ k ≤ 64 ∧ r = k + bitsS v ∧ bitsS v ≤ gk)
  case atStart => exact ⟨rfl, n, 0, rfl, rfl, hn1, hn2, by omega, by omega, by rw [HB.out]; omega, by rw [HB.out]; omega⟩
  case round =>
    obtain ⟨rfl, v, k, rfl, rfl, hv1, hv2, hk1, hk2, he, hg⟩ := hrel
    by_cases hv : 0 < v
    · have hh := bits_half hv hv2
      have hr2 := bits_range (v / 2) (by omega)
      have HH : Hid (bitsS v = 1 + bitsS (v / 2)) := hh
      have HE : Hid (r = k + bitsS v) := he
      have HG : Hid (bitsS v ≤ gk) := hg
      have HR : Hid (0 ≤ bitsS (v / 2) ∧ bitsS (v / 2) ≤ 64) := hr2
      have hk3 : k ≤ 63 := by omega
      clear he hh hg hr2
      go_wp2_with fail
      go_roundg (gk - 1)
      case rel =>
        have a1 := HH.out
        have a2 := HE.out
        have a3 := HG.out
        have a4 := HR.out
        refine ⟨rfl, v / 2, k + 1, rfl, rfl, by omega, by omega, by omega, by omega, by omega, by omega⟩
      case measure =>
        have a1 := HH.out
        have a3 := HG.out
        have a4 := HR.out
        omega
    · have hz := bits_none (show v ≤ 0 by omega)
      have hkr : k = r := by omega
      subst hkr
      clear he hg hz
      go_wp2_with fail
      go_ret
      exact ⟨rfl, rfl⟩

set_option maxHeartbeats 1000000 in
theorem refWait_any (base : Nat) (n t m : Int) (HB : Hid (base < 2 ^ 64)) (hn : -9223372036854775808 ≤ n ∧ n ≤ 9223372036854775807) (hm : m ≤ 9223372036854775807) (w : World) :
    Calls Try.prog 32 #[.float .f64 base, .int .i64 n, .int .i64 t, .int .i64 m] w fun e w' => e = .returned (.float .f64 (waitS (cleanS base 0 K1000) (bitsS n) t m)) ∧ w' = w := by
  have hK : K1000 < infR := by decide
  have hb : cleanS base 0 K1000 ≤ K1000 := clean_pos HB.out (Nat.le_of_lt hK)
  have c0 := fun w => refClean_any base 0 K1000 w
  have c1 := fun w => refBits_any n w hn
  have hk := bits_range n hn.2
  generalize cleanS base 0 K1000 = b at *
  generalize bitsS n = k at *
  obtain ⟨h1, h2⟩ := great_lt hb hk.2
  have h3 := great_le hb hk.2
  have f1 := floatOfInt_eq k hk.1 (by omega)
  have hp : prodS b (fi k) < infR := Nat.lt_of_le_of_lt h3 K64000_lt
  have o1 := mul_ok (prod_ok (p := b) (m := fi k) (by omega) (Nat.lt_of_le_of_lt (fi_le k 6 (by omega)) (by decide)) hp)
  have hg : greatS b k = max b (prodS b (fi k)) := rfl
  have ol := lt_pos (x := prodS b (fi k)) (y := b) (by omega) (by omega)
  rw [show K1000 = 4652007308841189376 from rfl] at c0
  unfold waitS
  generalize prodS b (fi k) = p at *
  generalize fi k = fk at *
  generalize greatS b k = g at *
  clear hb hk h3 hK
  by_cases t0 : t ≤ 0
  · rw [if_pos t0]
    by_cases hlt : p < b
    · rw [decide_eq_true hlt] at ol
      have e : g = b := by omega
      subst e
      clear hg h1 h2 hp hlt
      go_enter Try.func32, Try.ntmps32
      go_wp2_with (first
      | (go_at_call 44; refine (c0 _).mono ?_; rintro e w' ⟨rfl, rfl⟩)
      | (go_at_call 45; refine (c1 _).mono ?_; rintro e w' ⟨rfl, rfl⟩))
      go_ret
      exact ⟨rfl, rfl⟩
    · rw [decide_eq_false hlt] at ol
      have e : g = p := by omega
      subst e
      clear hg h1 h2 hp hlt
      go_enter Try.func32, Try.ntmps32
      go_wp2_with (first
      | (go_at_call 44; refine (c0 _).mono ?_; rintro e w' ⟨rfl, rfl⟩)
      | (go_at_call 45; refine (c1 _).mono ?_; rintro e w' ⟨rfl, rfl⟩))
      go_ret
      exact ⟨rfl, rfl⟩
  rw [if_neg t0]
  by_cases t1 : m ≤ t
  · rw [if_pos t1]
    by_cases t2 : m < 1
    · by_cases hlt : p < b
      · rw [decide_eq_true hlt] at ol
        clear hg h1 h2 hp hlt
        go_enter Try.func32, Try.ntmps32
        go_wp2_with (first
      | (go_at_call 44; refine (c0 _).mono ?_; rintro e w' ⟨rfl, rfl⟩)
      | (go_at_call 45; refine (c1 _).mono ?_; rintro e w' ⟨rfl, rfl⟩))
        go_ret
        exact ⟨rfl, rfl⟩
      · rw [decide_eq_false hlt] at ol
        clear hg h1 h2 hp hlt
        go_enter Try.func32, Try.ntmps32
        go_wp2_with (first
      | (go_at_call 44; refine (c0 _).mono ?_; rintro e w' ⟨rfl, rfl⟩)
      | (go_at_call 45; refine (c1 _).mono ?_; rintro e w' ⟨rfl, rfl⟩))
        go_ret
        exact ⟨rfl, rfl⟩
    · by_cases hlt : p < b
      · rw [decide_eq_true hlt] at ol
        clear hg h1 h2 hp hlt
        go_enter Try.func32, Try.ntmps32
        go_wp2_with (first
      | (go_at_call 44; refine (c0 _).mono ?_; rintro e w' ⟨rfl, rfl⟩)
      | (go_at_call 45; refine (c1 _).mono ?_; rintro e w' ⟨rfl, rfl⟩))
        go_ret
        exact ⟨rfl, rfl⟩
      · rw [decide_eq_false hlt] at ol
        clear hg h1 h2 hp hlt
        go_enter Try.func32, Try.ntmps32
        go_wp2_with (first
      | (go_at_call 44; refine (c0 _).mono ?_; rintro e w' ⟨rfl, rfl⟩)
      | (go_at_call 45; refine (c1 _).mono ?_; rintro e w' ⟨rfl, rfl⟩))
        go_ret
        exact ⟨rfl, rfl⟩
  rw [if_neg t1]
  have t2 : ¬ m < 1 := by omega
  obtain ⟨ep, hpl⟩ := part_ok (t := t) (m := m) (by omega) (by omega) hm
  have f3 := floatOfInt_eq t (by omega) (by omega)
  have f4 := floatOfInt_eq m (by omega) (by omega)
  have o3 := div_ok ep
  have hl := less_le g b
  have o4 := sub_ok (less_ok h2 h1).1
  have hq := prod_le (p := partS t m) (m := lessS g b) hpl
  have o5 := mul_ok (prod_ok (p := partS t m) (m := lessS g b) (Nat.lt_of_le_of_lt hpl one_lt) (by omega) (by omega))
  obtain ⟨e6, h6⟩ := less_ok (b := prodS (partS t m) (lessS g b)) h2 (by omega)
  have o6 := sub_ok e6
  have o7 := lt_pos (x := lessS g (prodS (partS t m) (lessS g b))) (y := b) (by omega) (by omega)
  unfold midS
  generalize lessS g (prodS (partS t m) (lessS g b)) = z at *
  generalize prodS (partS t m) (lessS g b) = q at *
  generalize partS t m = pt at *
  generalize lessS g b = d at *
  generalize fi t = ft at *
  generalize fi m = fm' at *
  clear hpl hl hq h6 ep e6
  by_cases hz : z < b
  · rw [decide_eq_true hz] at o7
    rw [Nat.max_eq_left (Nat.le_of_lt hz)]
    by_cases hlt : p < b
    · rw [decide_eq_true hlt] at ol
      have e : g = b := by omega
      subst e
      clear hg h1 h2 hp hlt hz hm
      go_enter Try.func32, Try.ntmps32
      go_wp2_with (first
      | (go_at_call 44; refine (c0 _).mono ?_; rintro e w' ⟨rfl, rfl⟩)
      | (go_at_call 45; refine (c1 _).mono ?_; rintro e w' ⟨rfl, rfl⟩))
      go_ret
      exact ⟨rfl, rfl⟩
    · rw [decide_eq_false hlt] at ol
      have e : g = p := by omega
      subst e
      clear hg h1 h2 hp hlt hz hm
      go_enter Try.func32, Try.ntmps32
      go_wp2_with (first
      | (go_at_call 44; refine (c0 _).mono ?_; rintro e w' ⟨rfl, rfl⟩)
      | (go_at_call 45; refine (c1 _).mono ?_; rintro e w' ⟨rfl, rfl⟩))
      go_ret
      exact ⟨rfl, rfl⟩
  · rw [decide_eq_false hz] at o7
    rw [Nat.max_eq_right (by omega)]
    by_cases hlt : p < b
    · rw [decide_eq_true hlt] at ol
      have e : g = b := by omega
      subst e
      clear hg h1 h2 hp hlt hz hm
      go_enter Try.func32, Try.ntmps32
      go_wp2_with (first
      | (go_at_call 44; refine (c0 _).mono ?_; rintro e w' ⟨rfl, rfl⟩)
      | (go_at_call 45; refine (c1 _).mono ?_; rintro e w' ⟨rfl, rfl⟩))
      go_ret
      exact ⟨rfl, rfl⟩
    · rw [decide_eq_false hlt] at ol
      have e : g = p := by omega
      subst e
      clear hg h1 h2 hp hlt hz hm
      go_enter Try.func32, Try.ntmps32
      go_wp2_with (first
      | (go_at_call 44; refine (c0 _).mono ?_; rintro e w' ⟨rfl, rfl⟩)
      | (go_at_call 45; refine (c1 _).mono ?_; rintro e w' ⟨rfl, rfl⟩))
      go_ret
      exact ⟨rfl, rfl⟩
end Go.Proofs.Ytahiiieifdhgeaa.Re
