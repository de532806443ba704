/-
  The walks of RealWaits, RealHeld and RealTold.
-/
import Derived.Test.YtmmjagifllkdhaaRfw
import Derived.Test.YtmmjagifllkdhaaLwb
namespace Go.Proofs.Ytmmjagifllkdhaa
open Go.RowKit

set_option maxHeartbeats 200000 in
theorem waits_walk (base : Nat) (n t m : Int) (wb : (Lit.float .f64 base).wf = true) (wn : (Lit.int .i64 n).wf = true) (_wt : (Lit.int .i64 t).wf = true) (wm : (Lit.int .i64 m).wf = true) (w : World) :
    Calls Try.prog 4 #[.float .f64 base, .int .i64 n, .int .i64 t, .int .i64 m] w fun e w' => e = .returned (.bool true) ∧ Below w.heap.size w w' := by
  have HB : Hid (base < 2 ^ 64) := by show base < 2 ^ 64; simpa [Lit.wf] using wb
  have hn : -9223372036854775808 ≤ n ∧ n ≤ 9223372036854775807 := by simpa [Lit.wf, IntKind.min, IntKind.max, IntKind.signed, IntKind.bits] using wn
  have hm : -9223372036854775808 ≤ m ∧ m ≤ 9223372036854775807 := by simpa [Lit.wf, IntKind.min, IntKind.max, IntKind.signed, IntKind.bits] using wm
  have c1 := fun w => wait_any base n t m HB hn hm.2 w
  have c2 := fun w => refWait_any base n t m HB hn hm.2 w
  have c3 := fun w => bits_any n w hn
  have c4 := fun w => refBits_any n w hn
  generalize waitS (cleanS base 0 K1000) (bitsS n) t m = r at *
  generalize bitsS n = k at *
  have e1 : (nan r && nan r || decide (r = r)) = true := by simp
  have e2 : (k == k) = true := by simp
  clear wb wn wm hn hm
  go_enter Try.func4, Try.ntmps4
  go_wp2_with (first
    | (go_at_call 23; refine (c1 _).mono ?_; rintro e w1 ⟨rfl, b1⟩)
    | (go_at_call 24; refine (c2 _).mono ?_; rintro e w' ⟨rfl, rfl⟩)
    | (go_at_call 13; refine (alike_any _ _ _).mono ?_; rintro e w' ⟨rfl, rfl⟩)
    | (go_at_call 25; refine (c3 _).mono ?_; rintro e w' ⟨rfl, rfl⟩)
    | (go_at_call 26; refine (c4 _).mono ?_; rintro e w' ⟨rfl, rfl⟩)
    | (go_at_call 22; refine (shown_any _).mono ?_; rintro e w' ⟨rfl, rfl⟩))
  go_ret
  exact ⟨rfl, b1⟩

/-! ## Comparisons above nought -/
theorem le_pos {x y : Nat} (hx : x ≤ infR) (hy : y ≤ infR) (h : x ≤ y) : (FloatKind.f64.format.order x y == some .lt || FloatKind.f64.format.order x y == some .eq) = true := by
  have hS := infR_lt_S
  rw [leF, nan_pos hx, nan_pos hy, key_pos (by omega), key_pos (by omega)]
  simp; omega
theorem ge_pos {x y : Nat} (hx : x ≤ infR) (hy : y ≤ infR) (h : y ≤ x) : (FloatKind.f64.format.order x y == some .gt || FloatKind.f64.format.order x y == some .eq) = true := by
  have hS := infR_lt_S
  rw [geF, nan_pos hx, nan_pos hy, key_pos (by omega), key_pos (by omega)]
  simp; omega
theorem same_pos {x : Nat} (hx : x ≤ infR) : (FloatKind.f64.format.order x x == some .eq) = true := by rw [eqF, nan_pos hx]; simp

theorem wait_none (b : Nat) (k m : Int) : waitS b k 0 m = greatS b k := by unfold waitS; rw [if_pos (Int.le_refl 0)]
theorem bitLen_mono {x y : Nat} (h : x ≤ y) (hy : y < 2 ^ 64) : Lib.bitLen x ≤ Lib.bitLen y := by
  obtain ⟨a1, a2⟩ := bitLen_spec x x (Nat.le_refl _) (by omega)
  obtain ⟨b1, b2⟩ := bitLen_spec y y (Nat.le_refl _) hy
  generalize Lib.bitLen x = p at *
  generalize Lib.bitLen y = q at *
  by_cases hh : p ≤ q
  · exact hh
  · exfalso
    rcases a2 with a2 | a2
    · omega
    · have := Nat.pow_le_pow_right (show 0 < 2 by omega) (show q ≤ p - 1 by omega)
      omega
theorem bits_mono {x y : Int} (h0 : 0 ≤ x) (h : x ≤ y) (hy : y ≤ 9223372036854775807) : bitsS x ≤ bitsS y := by
  unfold bitsS
  rw [if_neg (by omega), if_neg (by omega)]
  exact Int.ofNat_le.2 (bitLen_mono (by omega) (by omega))

set_option maxHeartbeats 1000000 in
theorem held_walk (base : Nat) (n t d m : Int) (wb : (Lit.float .f64 base).wf = true) (wn : (Lit.int .u16 n).wf = true) (wt : (Lit.int .u16 t).wf = true) (wd : (Lit.int .u16 d).wf = true) (wm : (Lit.int .u16 m).wf = true) (w : World) :
    Calls Try.prog 7 #[.float .f64 base, .int .u16 n, .int .u16 t, .int .u16 d, .int .u16 m] w fun e w' => e = .returned (.bool true) ∧ Below w.heap.size w w' := by
  have HB : Hid (base < 2 ^ 64) := by show base < 2 ^ 64; simpa [Lit.wf] using wb
  have hn : 0 ≤ n ∧ n ≤ 65535 := by simpa [Lit.wf, IntKind.min, IntKind.max, IntKind.signed, IntKind.bits] using wn
  have ht : 0 ≤ t ∧ t ≤ 65535 := by simpa [Lit.wf, IntKind.min, IntKind.max, IntKind.signed, IntKind.bits] using wt
  have hd : 0 ≤ d ∧ d ≤ 65535 := by simpa [Lit.wf, IntKind.min, IntKind.max, IntKind.signed, IntKind.bits] using wd
  have hm : 0 ≤ m ∧ m ≤ 65535 := by simpa [Lit.wf, IntKind.min, IntKind.max, IntKind.signed, IntKind.bits] using wm
  clear wb wn wt wd wm
  have hK : K1000 < infR := by decide
  have hb : cleanS base 0 K1000 ≤ K1000 := clean_pos HB.out (Nat.le_of_lt hK)
  have c0 := fun w => refClean_any base 0 K1000 w
  have c1 := fun w => wait_any base n t m HB (by omega) (by omega) w
  have c2 := fun w => wait_any base n (t + d) m HB (by omega) (by omega) w
  have c3 := fun w => wait_any base n 0 m HB (by omega) (by omega) w
  have c4 := fun w => wait_any base (n + d) 0 m HB (by omega) (by omega) w
  have c5 := fun w => refBits_any n w (by omega)
  have hk := bits_range n (by omega)
  have hk' := bits_range (n + d) (by omega)
  have hkk := bits_mono hn.1 (show n ≤ n + d by omega) (by omega)
  generalize cleanS base 0 K1000 = b at *
  rw [show K1000 = 4652007308841189376 from rfl] at c0
  generalize bitsS n = k at *
  generalize bitsS (n + d) = k' at *
  obtain ⟨g1, g2⟩ := great_lt hb hk.2
  obtain ⟨g3, g4⟩ := great_lt hb hk'.2
  have g5 := great_mono (b := b) hkk
  have h1 := wait_held (t := t) (m := m) hb hk.2
  have h2 := wait_held (t := t + d) (m := m) hb hk.2
  have h3 := wait_mono (k := k) (t := t) (t' := t + d) (m := m) hb hk.2 (by omega) (by omega) (by omega)
  have e3 := wait_none b k m
  have e4 := wait_none b k' m
  rw [e3] at c3
  rw [e4] at c4
  have h4 := great_le hb hk.2
  have hp : prodS b (fi k) < infR := Nat.lt_of_le_of_lt h4 K64000_lt
  have f1 := floatOfInt_eq k hk.1 (by omega)
  have o1 := mul_ok (prod_ok (p := b) (m := fi k) (by omega) (Nat.lt_of_le_of_lt (fi_le k 6 (by omega)) (by decide)) hp)
  have o2 := run_max_pos (x := b) (y := prodS b (fi k)) (by omega) (Nat.le_of_lt hp)
  rw [show max b (prodS b (fi k)) = greatS b k from rfl] at o2
  generalize waitS b k t m = W at *
  generalize waitS b k (t + d) m = X at *
  generalize greatS b k = g at *
  generalize greatS b k' = g' at *
  generalize prodS b (fi k) = p at *
  generalize fi k = fk at *
  have r1 := ge_pos (x := W) (y := b) (by omega) (by omega) h1.1
  have r2 := le_pos (x := W) (y := g) (by omega) (by omega) h1.2
  have r3 := le_pos (x := X) (y := W) (by omega) (by omega) h3
  have r4 := ge_pos (x := X) (y := b) (by omega) (by omega) h2.1
  have r5 := ge_pos (x := g') (y := g) (by omega) (by omega) g5
  have r6 := same_pos (x := g) (by omega)
  clear h1 h2 h3 h4 hp g1 g2 g3 g4 g5 hb hk hk' hkk e3 e4 hK
  have n1 := hn.1
  have n2 := hn.2
  have t1 := ht.1
  have t2 := ht.2
  have d1 := hd.1
  have d2 := hd.2
  have m1 := hm.1
  have m2 := hm.2
  clear hn ht hd hm
  go_enter Try.func7, Try.ntmps7
  go_wp2_with (go_at_call 17; refine (c0 _).mono ?_; rintro e w' ⟨rfl, rfl⟩)
  refine (c1 _).mono ?_
  rintro e w1 ⟨rfl, b1⟩
  go_wp2_with fail
  refine (c2 _).mono ?_
  rintro e w2 ⟨rfl, b2⟩
  go_wp2_with fail
  refine (c3 _).mono ?_
  rintro e w3 ⟨rfl, b3⟩
  go_wp2_with fail
  refine (c4 _).mono ?_
  rintro e w4 ⟨rfl, b4⟩
  go_wp2_with (first
    | (go_at_call 26; refine (c5 _).mono ?_; rintro e w' ⟨rfl, rfl⟩)
    | (go_at_call 22; refine (shown_any _).mono ?_; rintro e w' ⟨rfl, rfl⟩))
  go_ret
  have z1 := b1.size
  have z2 := b2.size
  have z3 := b3.size
  exact ⟨rfl, b1.trans ((b2.mono (by omega)).trans ((b3.mono (by omega)).trans (b4.mono (by omega))))⟩

theorem wait_zero (k m : Int) : waitS 0 k 0 m = 0 := by
  rw [wait_none]
  unfold greatS prodS
  rw [V_zero, Nat.zero_mul, Nat.zero_mul, show rd 0 = 0 from rfl]
  rfl
theorem wait_full {b : Nat} {k t m : Int} (h0 : 0 < t) (h : m ≤ t) : waitS b k t m = b := by
  unfold waitS
  rw [if_neg (by omega), if_pos h]
theorem wait_less {b : Nat} {k t m : Int} (h0 : t ≤ 0) : waitS b k t m = greatS b k := by
  unfold waitS
  rw [if_pos h0]
theorem clean_none {base : Nat} (h : (FloatKind.f64.format.order base 0 == some .gt) = false) : cleanS base 0 K1000 = 0 := by
  have k0 : key 0 = 0 := rfl
  have n0 : nan 0 = false := rfl
  have hk : key 0 ≤ key K1000 := by decide
  rw [gtF, n0, k0] at h
  rw [cleanS_eq n0 (by decide) hk, k0]
  cases nx : nan base
  · rw [nx] at h
    simp at h
    simp only [Bool.false_eq_true, if_false]
    split
    · rfl
    · rw [if_neg (by omega), if_pos (by omega)]
  · rfl

set_option maxHeartbeats 1000000 in
theorem told_walk (base : Nat) (n s : Int) (wb : (Lit.float .f64 base).wf = true) (wn : (Lit.int .u16 n).wf = true) (ws : (Lit.int .u8 s).wf = true) (w : World) :
    Calls Try.prog 12 #[.float .f64 base, .int .u16 n, .int .u8 s] w fun e w' => e = .returned (.bool true) ∧ Below w.heap.size w w' := by
  have HB : Hid (base < 2 ^ 64) := by show base < 2 ^ 64; simpa [Lit.wf] using wb
  have hn : 0 ≤ n ∧ n ≤ 65535 := by simpa [Lit.wf, IntKind.min, IntKind.max, IntKind.signed, IntKind.bits] using wn
  have hs : 0 ≤ s ∧ s ≤ 255 := by simpa [Lit.wf, IntKind.min, IntKind.max, IntKind.signed, IntKind.bits] using ws
  clear wb wn ws
  have hK : K1000 < infR := by decide
  have hb : cleanS base 0 K1000 ≤ K1000 := clean_pos HB.out (Nat.le_of_lt hK)
  have hz := clean_none (base := base)
  have c0 := fun w => refClean_any base 0 K1000 w
  have c1 := fun w => wait_any base n 0 (1 + s) HB (by omega) (by omega) w
  have c2 := fun w => wait_any base n (1 + s) (1 + s) HB (by omega) (by omega) w
  have c3 := fun w => wait_any base n (1 + s + 9) (1 + s) HB (by omega) (by omega) w
  have c4 := fun w => wait_any base n 3 0 HB (by omega) (by omega) w
  have c5 := fun w => wait_any base n (-1) (1 + s) HB (by omega) (by omega) w
  have hk := bits_range n (by omega)
  generalize cleanS base 0 K1000 = b at *
  rw [show K1000 = 4652007308841189376 from rfl] at c0
  generalize bitsS n = k at *
  have hg := great_lt hb hk.2
  have h1 : (FloatKind.f64.format.order base 0 == some .gt) = false → (FloatKind.f64.format.order (greatS b k) 0 != some .eq) = false := fun h => by
    have e := hz h
    subst e
    rw [← wait_none 0 k 0, wait_zero]; decide
  rw [wait_none] at c1
  rw [wait_full (by omega) (Int.le_refl _)] at c2
  rw [wait_full (by omega) (by omega)] at c3
  rw [wait_full (by omega) (by omega)] at c4
  rw [wait_less (by omega)] at c5
  generalize greatS b k = g at *
  have r1 := same_pos (x := b) (by omega)
  have r2 := same_pos (x := g) (by omega)
  have n1 := hn.1
  have n2 := hn.2
  have s1 := hs.1
  have s2 := hs.2
  clear hb hz hk hg hn hs hK
  cases h0 : (FloatKind.f64.format.order base 0 == some .gt)
  · have h2 := h1 h0
    clear h1
    go_enter Try.func12, Try.ntmps12
    go_wp2_with (go_at_call 17; refine (c0 _).mono ?_; rintro e w' ⟨rfl, rfl⟩)
    refine (c1 _).mono ?_
    rintro e w1 ⟨rfl, b1⟩
    go_wp2_with fail
    refine (c2 _).mono ?_
    rintro e w2 ⟨rfl, b2⟩
    go_wp2_with fail
    refine (c3 _).mono ?_
    rintro e w3 ⟨rfl, b3⟩
    go_wp2_with fail
    refine (c4 _).mono ?_
    rintro e w4 ⟨rfl, b4⟩
    go_wp2_with fail
    refine (c5 _).mono ?_
    rintro e w5 ⟨rfl, b5⟩
    go_wp2_with fail
    refine (c1 _).mono ?_
    rintro e w6 ⟨rfl, b6⟩
    go_wp2_with (go_at_call 22; refine (shown_any _).mono ?_; rintro e w' ⟨rfl, rfl⟩)
    go_ret
    have z1 := b1.size
    have z2 := b2.size
    have z3 := b3.size
    have z4 := b4.size
    have z5 := b5.size
    exact ⟨rfl, b1.trans ((b2.mono (by omega)).trans ((b3.mono (by omega)).trans ((b4.mono (by omega)).trans ((b5.mono (by omega)).trans (b6.mono (by omega))))))⟩
  · clear h1
    go_enter Try.func12, Try.ntmps12
    go_wp2_with (go_at_call 17; refine (c0 _).mono ?_; rintro e w' ⟨rfl, rfl⟩)
    refine (c2 _).mono ?_
    rintro e w2 ⟨rfl, b2⟩
    go_wp2_with fail
    refine (c3 _).mono ?_
    rintro e w3 ⟨rfl, b3⟩
    go_wp2_with fail
    refine (c4 _).mono ?_
    rintro e w4 ⟨rfl, b4⟩
    go_wp2_with fail
    refine (c5 _).mono ?_
    rintro e w5 ⟨rfl, b5⟩
    go_wp2_with fail
    refine (c1 _).mono ?_
    rintro e w6 ⟨rfl, b6⟩
    go_wp2_with (go_at_call 22; refine (shown_any _).mono ?_; rintro e w' ⟨rfl, rfl⟩)
    go_ret
    have z2 := b2.size
    have z3 := b3.size
    have z4 := b4.size
    have z5 := b5.size
    exact ⟨rfl, b2.trans ((b3.mono (by omega)).trans ((b4.mono (by omega)).trans ((b5.mono (by omega)).trans (b6.mono (by omega)))))⟩
end Go.Proofs.Ytmmjagifllkdhaa
