/-
  Bits of a number: math/bits.Len64, Len, real.Bits, and the reference's Bits. Ticks. More of Clean. The mathematics of waits. Blend, and the reference's Clean and Blend. Two comparisons above nought. Waits walked: the closure, what makes it, Wait. The reference's Bits and Wait. The reference's Ticks. More of waits: comparisons above nought, what a wait is at the ends.
-/
import Derived.Test.YtpoofjnfaijjjaaGreatDoorMDXba
import Derived.Lib.BitFns
namespace Go.Proofs.YtpoofjnfaijjjaaGreatDoor.Do.Re
open Go.RowKit
theorem len_step (x k : Nat) (y : Int) (hx : x < 2 ^ 64) (hy : y = (x / 2 ^ k : Nat)) (h1 : y < 256) (hk : k = 0 ∨ 2 ^ k ≤ x) : (k : Int) + Lib.len8 (y % 256) = (Lib.bitLen x : Int) := by
  have e : (y % 256).toNat = x / 2 ^ k := by
    generalize x / 2 ^ k = z at hy
    omega
  have h0 : 0 ≤ y % 256 := by omega
  rw [Lib.len8_of _ h0 (by omega), e]
  rcases hk with h | h
  · subst h; simp
  · rw [Lib.bitLen_shift k x h hx]; omega
theorem get_tab (T : ByteArray) (i : Nat) (h : i < T.size) : (T[i]'h).toNat = ((T[i]?).getD 0).toNat := by
  rw [ByteArray.getElem?_lt' _ _ h]; rfl
theorem leaf_gen (T : ByteArray) (x : Int) (k : Nat) (K y z : Int) (h : y.toNat < T.size) (hz : z = (((T[y.toNat]?).getD 0).toNat : Nat)) (hK : K = k) (he : (k : Int) + z = (Lib.bitLen x.toNat : Int)) (hx : x.toNat < 2 ^ 64) :
    wrap64 (K + wrap64 ((T[y.toNat]'h).toNat : Int)) = (Lib.bitLen x.toNat : Int) := by
  have b := Lib.bitLen_le x.toNat 64 (by omega) hx
  rw [get_tab, ← hz, hK, ← he]
  unfold wrap64
  omega
theorem len_leaf (x : Int) (k : Nat) (K y : Int) (h : y.toNat < Lib.len8tab.size) (hK : K = k) (h0 : 0 ≤ x) (hx : x < 18446744073709551616) (hy : y = (x.toNat / 2 ^ k : Nat)) (h1 : y < 256) (h2 : k = 0 ∨ 2 ^ k ≤ x.toNat) :
    wrap64 (K + wrap64 ((Lib.len8tab[y.toNat]'h).toNat : Int)) = (Lib.bitLen x.toNat : Int) := by
  have hy0 : 0 ≤ y := by rw [hy]; exact Int.natCast_nonneg _
  have e := len_step x.toNat k y (by omega) hy h1 h2
  rw [show y % 256 = y by omega] at e
  exact leaf_gen Lib.len8tab x k K y (Lib.len8 y) h rfl hK e (by omega)
set_option maxRecDepth 100000 in
theorem tab_fold : (⟨List.toArray (([0, 1, 2, 2, 3, 3, 3, 3, 4, 4, 4, 4, 4, 4, 4, 4, 5, 5, 5, 5, 5, 5, 5, 5, 5, 5, 5, 5, 5, 5, 5, 5, 6, 6, 6, 6, 6, 6, 6, 6, 6, 6, 6, 6, 6, 6, 6, 6, 6, 6, 6, 6, 6, 6, 6, 6, 6, 6, 6, 6, 6, 6, 6, 6].append [7, 7, 7, 7, 7, 7, 7, 7, 7, 7, 7, 7, 7, 7, 7, 7, 7, 7, 7, 7, 7, 7, 7, 7, 7, 7, 7, 7, 7, 7, 7, 7, 7, 7, 7, 7, 7, 7, 7, 7, 7, 7, 7, 7, 7, 7, 7, 7, 7, 7, 7, 7, 7, 7, 7, 7, 7, 7, 7, 7, 7, 7, 7, 7]).append ([8, 8, 8, 8, 8, 8, 8, 8, 8, 8, 8, 8, 8, 8, 8, 8, 8, 8, 8, 8, 8, 8, 8, 8, 8, 8, 8, 8, 8, 8, 8, 8, 8, 8, 8, 8, 8, 8, 8, 8, 8, 8, 8, 8, 8, 8, 8, 8, 8, 8, 8, 8, 8, 8, 8, 8, 8, 8, 8, 8, 8, 8, 8, 8].append [8, 8, 8, 8, 8, 8, 8, 8, 8, 8, 8, 8, 8, 8, 8, 8, 8, 8, 8, 8, 8, 8, 8, 8, 8, 8, 8, 8, 8, 8, 8, 8, 8, 8, 8, 8, 8, 8, 8, 8, 8, 8, 8, 8, 8, 8, 8, 8, 8, 8, 8, 8, 8, 8, 8, 8, 8, 8, 8, 8, 8, 8, 8, 8]))⟩ : ByteArray) = Lib.len8tab := by decide +kernel
set_option maxHeartbeats 4000000 in
set_option maxRecDepth 100000 in
theorem len64_any (x : Int) (w : World) (h0 : 0 ≤ x) (hx : x ≤ 18446744073709551615) : Calls Tryz.prog 186 #[.int .u64 x] w fun e w' => e = .returned (.int .i64 (Lib.bitLen x.toNat)) ∧ w' = w := by
  have hs : (Lib.len8tab.size : Int) = 256 := by rw [Lib.len8tab_size]; rfl
  refine calls_of_wp Tryz.func186 rfl ?_
  rw [tab_fold]
  simp only [Tryz.ntmps186, List.size_toArray, List.length_cons, List.length_nil, Nat.reduceAdd, Nat.reduceSub, Array.replicate_succ,
     Array.replicate_zero, List.push_toArray, List.append_toArray, List.nil_append, List.cons_append]
  go_wp2
  all_goals (go_ret; refine ⟨congrArg Ending.returned (congrArg (Value.int IntKind.i64) ?_), rfl⟩)
  all_goals first
    | exact len_leaf x 56 56 _ _ rfl h0 (by omega) (by omega) (by omega) (by omega)
    | exact len_leaf x 48 48 _ _ rfl h0 (by omega) (by omega) (by omega) (by omega)
    | exact len_leaf x 40 40 _ _ rfl h0 (by omega) (by omega) (by omega) (by omega)
    | exact len_leaf x 32 32 _ _ rfl h0 (by omega) (by omega) (by omega) (by omega)
    | exact len_leaf x 24 24 _ _ rfl h0 (by omega) (by omega) (by omega) (by omega)
    | exact len_leaf x 16 16 _ _ rfl h0 (by omega) (by omega) (by omega) (by omega)
    | exact len_leaf x 8 8 _ _ rfl h0 (by omega) (by omega) (by omega) (by omega)
    | (refine Eq.trans (congrArg wrap64 (Int.zero_add _).symm) ?_
       exact len_leaf x 0 0 x _ rfl h0 (by omega) (by omega) (by omega) (by omega))
theorem len_any (x : Int) (w : World) (h0 : 0 ≤ x) (hx : x ≤ 18446744073709551615) : Calls Tryz.prog 150 #[.int .u64 x] w fun e w' => e = .returned (.int .i64 (Lib.bitLen x.toNat)) ∧ w' = w := by
  go_enter Tryz.func150, Tryz.ntmps150
  go_wp2_with (go_at_call 186; refine (len64_any _ _ h0 hx).mono ?_; rintro e w' ⟨rfl, rfl⟩)
  go_ret
  exact ⟨rfl, rfl⟩
def bitsS (n : Int) : Int := if n < 0 then 0 else (Lib.bitLen n.toNat : Int)
theorem bits_any (n : Int) (w : World) (h : -9223372036854775808 ≤ n ∧ n ≤ 9223372036854775807) : Calls Tryz.prog 198 #[.int .i64 n] w fun e w' => e = .returned (.int .i64 (bitsS n)) ∧ w' = w := by
  unfold bitsS
  by_cases hn : n < 0
  · rw [if_pos hn]
    go_enter Tryz.func198, Tryz.ntmps198
    go_wp2
    go_ret
    exact ⟨rfl, rfl⟩
  · rw [if_neg hn]
    have hn' : 0 ≤ n := by omega
    have hm : n ≤ 18446744073709551615 := by omega
    go_enter Tryz.func198, Tryz.ntmps198
    go_wp2_with (go_at_call 150; refine (len_any _ _ hn' hm).mono ?_; rintro e w' ⟨rfl, rfl⟩)
    go_ret
    exact ⟨rfl, rfl⟩
theorem leF (x y : Nat) : (FloatKind.f64.format.order x y == some .lt || FloatKind.f64.format.order x y == some .eq) = (!nan x && !nan y && decide (key x ≤ key y)) := by
  rw [ltF, eqF]
  cases nan x <;> cases nan y <;> simp
  rw [Bool.eq_iff_iff]; simp; omega
theorem geF (x y : Nat) : (FloatKind.f64.format.order x y == some .gt || FloatKind.f64.format.order x y == some .eq) = (!nan x && !nan y && decide (key y ≤ key x)) := by
  rw [gtF, eqF]
  cases nan x <;> cases nan y <;> simp
  rw [Bool.eq_iff_iff]; simp; omega
def K40 : Nat := 4787326403894837248
theorem V_K40 : V K40 = 1099511627776 * pw 1074 := V_pow 40
theorem pos_word {x : Nat} (hx : x < 2 ^ 64) (h : 0 < key x) : key x = x ∧ x < S := by
  unfold key at h
  cases hg : ng x
  · rw [hg] at h
    have : x < S := by unfold ng S at hg; simp at hg; unfold S; omega
    exact ⟨key_pos this, this⟩
  · rw [hg] at h; simp at h; omega
def ticksS (x : Nat) : Nat := if nan x then 0 else if key x ≤ 0 then 0 else if (K40 : Int) ≤ key x then 1099511627776 else cei x
theorem cei_spec (x : Nat) : V x ≤ cei x * pw 1074 ∧ (0 < V x → 0 < cei x ∧ (cei x - 1) * pw 1074 < V x) := by
  unfold cei
  have hp := pw_pos 1074
  generalize pw 1074 = g at *
  have h1 := Nat.div_add_mod (V x + (g - 1)) g
  have h2 := Nat.mod_lt (V x + (g - 1)) hp
  generalize (V x + (g - 1)) / g = q at *
  rw [Nat.mul_comm] at h1
  refine ⟨by omega, fun h => ?_⟩
  have hq : 0 < q := by
    by_cases h0 : q = 0
    · rw [h0] at h1; simp at h1; omega
    · omega
  refine ⟨hq, ?_⟩
  rw [Nat.sub_mul, Nat.one_mul]
  have : g ≤ q * g := Nat.le_mul_of_pos_left _ hq
  omega
theorem flo_spec (x : Nat) : flo x * pw 1074 ≤ V x ∧ V x < (flo x + 1) * pw 1074 := by
  unfold flo
  have hp := pw_pos 1074
  generalize pw 1074 = g at *
  have h1 := Nat.div_add_mod (V x) g
  have h2 := Nat.mod_lt (V x) hp
  rw [Nat.mul_comm] at h1
  rw [Nat.add_mul]
  omega
theorem mul_lt_pw {a b : Nat} (h : a * pw 1074 < b * pw 1074) : a < b := Nat.lt_of_mul_lt_mul_right h
theorem mul_le_pw {a b : Nat} (h : a * pw 1074 ≤ b * pw 1074) : a ≤ b := Nat.le_of_mul_le_mul_right h (pw_pos _)
theorem cei_mono {x y : Nat} (h : x ≤ y) : cei x ≤ cei y := Nat.div_le_div_right (Nat.add_le_add_right (V_le h) _)
theorem cei_K40 {x : Nat} (h : x ≤ K40) : cei x ≤ 1099511627776 := by
  have := cei_mono h
  have e : cei K40 = 1099511627776 := by
    unfold cei; rw [V_K40]
    have hp := pw_pos 1074
    generalize pw 1074 = g at *
    rw [Nat.add_comm, Nat.add_mul_div_right _ _ hp, Nat.div_eq_of_lt (by omega)]
  omega
theorem cei_flo (x : Nat) : cei x = if flo x * pw 1074 < V x then flo x + 1 else flo x := by
  have ⟨f1, f2⟩ := flo_spec x
  have ⟨c1, c2⟩ := cei_spec x
  by_cases h : flo x * pw 1074 < V x
  · rw [if_pos h]
    have ⟨c3, c4⟩ := c2 (by omega)
    have a := mul_lt_pw (Nat.lt_of_lt_of_le h c1)
    have b := mul_lt_pw (Nat.lt_trans c4 f2)
    omega
  · rw [if_neg h]
    have e : V x = flo x * pw 1074 := by omega
    by_cases h0 : 0 < V x
    · have ⟨c3, c4⟩ := c2 h0
      rw [e] at c1 c4
      have a := mul_le_pw c1
      have b := mul_lt_pw c4
      omega
    · have hV : V x = 0 := by omega
      unfold cei flo; rw [hV]
      have hp := pw_pos 1074
      rw [Nat.div_eq_of_lt (by omega), Nat.div_eq_of_lt (by omega)]
theorem f45 (x : Nat) (h : x < infR) (w : World) : (callFunc 217 #[.float .f64 x]).run Tryz.prog w = .ok (.value (.float .f64 (min (rd (cei x * pw 4000)) infR))) w := by
  rw [run_callFunc_extern Tryz.func217 (by kernel_rfl) (by kernel_rfl) (by kernel_rfl) (e := Extern.MathFloor.toIntegral "math.archCeil" .up) (by kernel_rfl) _ _]
  obtain ⟨c, hc, rfl⟩ := ceil_pos h
  obtain ⟨m, i, e, _⟩ := read_pos h
  have hd : FloatKind.f64.decode x = .number false m i := e
  have hr : (Extern.MathFloor.toIntegral "math.archCeil" .up #[.float .f64 x]) = pure (.float .f64 (min (rd (cei x * pw 4000)) infR)) := by
    change (match FloatKind.f64.decode x with
      | .nan _ _ => _
      | d => pure (Value.float .f64 (FloatKind.f64.encode (d.integral .up)))) = _
    rw [hd]
    dsimp only
    rw [← e, hc]
    show pure (Value.float .f64 (fm.nearest false (cei x) 0)) = _
    rw [nearest_rd _ _ _ (by omega), word_false]
    unfold Q
    rw [← pw_eq]
    rfl
  rw [hr]; rfl
theorem conv_u64 (x : Nat) (h : x < infR) (hf : flo x < 18446744073709551616) (w : World) : (convert 174 34 (.float .f64 x)).run Tryz.prog w = .ok (.int .u64 (flo x : Int)) w := by
  refine run_convert_float_int w 174 34 .f64 .u64 x _ (by kernel_rfl) (by kernel_rfl) ?_
  unfold floatToIntVal
  rw [show (FloatKind.f64.decode x).toInt .zero = some (flo x : Int) from toInt_pos h]
  dsimp only
  rw [if_pos]
  simp [IntKind.min, IntKind.max, IntKind.signed, IntKind.bits]
  omega
theorem ceil_any (x : Nat) (h : x ≤ K40) (w : World) : Calls Tryz.prog 196 #[.float .f64 x] w fun e w' => e = .returned (.float .f64 (fi (cei x))) ∧ w' = w := by
  have hK : K40 < infR := by decide
  have h1 := cei_K40 h
  have e : min (rd (cei x * pw 4000)) infR = fi (cei x) := by
    have := fi_le (cei x : Int) 40 (by omega)
    unfold fi at *
    rw [Int.toNat_natCast] at *
    exact Nat.min_eq_left (Nat.le_of_lt (Nat.lt_of_le_of_lt this (by decide)))
  have h45 := f45 x (by omega)
  rw [e] at h45
  generalize fi (cei x) = z at *
  go_enter Tryz.func196, Tryz.ntmps196
  go_wp2
  go_ret
  exact ⟨rfl, rfl⟩
theorem flo_fi (c : Nat) (h : c ≤ 1099511627776) : flo (fi c) = c ∧ fi c < infR := by
  refine ⟨?_, Nat.lt_of_le_of_lt (fi_le (c : Int) 40 (by omega)) (by decide)⟩
  unfold flo
  rw [V_fi _ (by omega) (by omega), Int.toNat_natCast, Nat.mul_div_cancel _ (pw_pos _)]
theorem ticks_any (x : Nat) (w : World) (hx : Hid (x < 2 ^ 64)) : Calls Tryz.prog 165 #[.float .f64 x] w fun e w' => e = .returned (.int .u64 (ticksS x : Int)) ∧ w' = w := by
  unfold ticksS
  have l0 := leF x 0
  have gK := geF x K40
  rw [show nan 0 = false from rfl, show key 0 = 0 from rfl] at l0
  rw [show nan K40 = false from rfl, show key K40 = K40 from rfl] at gK
  cases h1 : nan x
  case true =>
    go_enter Tryz.func165, Tryz.ntmps165
    go_wp2_with (go_at_call 195; refine (noNumber_any _ _).mono ?_; rintro e w' ⟨rfl, rfl⟩)
    go_ret
    exact ⟨rfl, rfl⟩
  rw [h1] at l0 gK
  simp only [Bool.not_false, Bool.true_and] at l0 gK
  by_cases h2 : key x ≤ 0
  · rw [decide_eq_true h2] at l0
    rw [if_pos h2]
    go_enter Tryz.func165, Tryz.ntmps165
    go_wp2_with (go_at_call 195; refine (noNumber_any _ _).mono ?_; rintro e w' ⟨rfl, rfl⟩)
    go_ret
    exact ⟨rfl, rfl⟩
  rw [decide_eq_false h2] at l0
  rw [if_neg h2]
  by_cases h3 : (K40 : Int) ≤ key x
  · rw [decide_eq_true h3] at gK
    rw [if_pos h3]
    unfold K40 at gK
    go_enter Tryz.func165, Tryz.ntmps165
    go_wp2_with (go_at_call 195; refine (noNumber_any _ _).mono ?_; rintro e w' ⟨rfl, rfl⟩)
    go_ret
    exact ⟨rfl, rfl⟩
  rw [decide_eq_false h3] at gK
  rw [if_neg h3]
  obtain ⟨e, hS⟩ := pos_word hx.out (show 0 < key x by omega)
  have hle : x ≤ K40 := by omega
  have hc := cei_K40 hle
  obtain ⟨f1, f2⟩ := flo_fi (cei x) hc
  have hcv := conv_u64 (fi (cei x)) f2 (by rw [f1]; omega)
  rw [f1] at hcv
  have HL : Hid (x ≤ K40) := hle
  have HC := fun w => ceil_any x hle w
  clear e hS hle f1 f2
  generalize fi (cei x) = z at *
  generalize cei x = c at *
  unfold K40 at gK
  clear h2 h3
  go_enter Tryz.func165, Tryz.ntmps165
  go_wp2_with (first | (go_at_call 195; refine (noNumber_any _ _).mono ?_; rintro e w' ⟨rfl, rfl⟩) | (go_at_call 196; refine (HC _).mono ?_; rintro e w' ⟨rfl, rfl⟩))
  go_ret
  exact ⟨rfl, rfl⟩
theorem cleanS_eq {x l h : Nat} (nl : nan l = false) (nh : nan h = false) (hk : key l ≤ key h) : cleanS x l h = if nan x then l else if key x < key l then l else if key h < key x then h else if key x = 0 then 0 else x := by
  unfold cleanS
  rw [gtF, ltF, gtF, eqF, nl, nh]
  cases nan x
  · have h0 : nan 0 = false := rfl
    have h1 : key 0 = 0 := rfl
    have h2 : ¬ key h < key l := by omega
    rw [h0, h1]
    simp [h2]
  · simp
def K1000 : Nat := 4652007308841189376
def K64000 : Nat := 4679028906605412352
def lessS (g b : Nat) : Nat := rd ((V g - V b) * U)
def prodS (p m : Nat) : Nat := rd (V p * V m * pw 1852)
def partS (t m : Int) : Nat := rd (dq (fi t) (fi m))
def greatS (b : Nat) (k : Int) : Nat := max b (prodS b (fi k))
def midS (b g : Nat) (t m : Int) : Nat := max b (lessS g (prodS (partS t m) (lessS g b)))
def waitS (b : Nat) (k t m : Int) : Nat := if t ≤ 0 then greatS b k else if m ≤ t then b else midS b (greatS b k) t m
theorem less_ok {g b : Nat} (hg : g < infR) (h : b ≤ g) : fm.sub g b = some (lessS g b) ∧ lessS g b ≤ g := sub_pos hg h
theorem less_le (g b : Nat) : lessS g b ≤ g := rd_le (Nat.mul_le_mul_right _ (Nat.sub_le _ _))
theorem prod_ok {p m : Nat} (hp : p < infR) (hm : m < infR) (h : prodS p m < infR) : fm.mul p m = some (prodS p m) := by
  have e := mul_pos hp hm
  have e2 : min (rd (V p * V m * pw 1852)) infR = prodS p m := Nat.min_eq_left (Nat.le_of_lt h)
  rw [e2] at e
  exact e
theorem prod_mono {p p' m m' : Nat} (h : p ≤ p') (h' : m ≤ m') : prodS p m ≤ prodS p' m' :=
  rd_mono (Nat.mul_le_mul_right _ (Nat.mul_le_mul (V_le h) (V_le h')))
theorem V_one : V one = pw 1074 := by
  have h := V_pow 0
  rw [Nat.pow_zero, Nat.one_mul] at h
  exact h
theorem U_1852 : pw 1074 * pw 1852 = U := pw_split 1074 1852 2926 rfl
theorem prod_one (m : Nat) : prodS one m = m := by
  unfold prodS
  rw [V_one, Nat.mul_comm (pw 1074), Nat.mul_assoc, U_1852]
  exact rd_exact m
theorem prod_le {p m : Nat} (h : p ≤ one) : prodS p m ≤ m := by
  have := prod_mono h (Nat.le_refl m)
  rwa [prod_one] at this
theorem one_lt : one < infR := by decide
theorem fi_one {t : Int} (h : 0 < t) : one ≤ fi t := le_fi t 0 (by simp; omega)
theorem fi_lt {t : Int} (h : t ≤ 9223372036854775807) : fi t < infR := Nat.lt_of_le_of_lt (fi_le t 63 (by omega)) (by decide)
theorem part_le {t m : Int} (h1 : t ≤ m) (hm : m ≤ 9223372036854775807) : partS t m ≤ one := dq_le_one (fi_mono h1) (fi_lt hm)
theorem part_ok {t m : Int} (h0 : 0 < t) (h1 : t < m) (hm : m ≤ 9223372036854775807) : fm.div (fi t) (fi m) = some (partS t m) ∧ partS t m ≤ one := by
  have hle := part_le (Int.le_of_lt h1) hm
  have hB : B ≤ one := by decide
  have e := div_pos (fi_lt (show t ≤ 9223372036854775807 by omega)) (Nat.le_trans hB (fi_one h0)) (fi_lt hm) (Nat.le_trans hB (fi_one (show 0 < m by omega)))
  have e2 : min (rd (dq (fi t) (fi m))) infR = partS t m := Nat.min_eq_left (Nat.le_trans hle (Nat.le_of_lt one_lt))
  rw [e2] at e
  exact ⟨e, hle⟩
theorem V_six (d k : Nat) (h : k ≤ 2 * B) (h' : B ≤ k) : V (d * B + k) * 64 = V ((d + 6) * B + k) := by
  rw [V_at d k h (.inr h'), V_at (d + 6) k h (.inr h'), Nat.pow_add, Nat.mul_assoc]
theorem V_64 : V ((1023 + 6) * B) = 64 * pw 1074 := V_pow 6
theorem great_le {b : Nat} {k : Int} (hb : b ≤ K1000) (hk : k ≤ 64) : prodS b (fi k) ≤ K64000 := by
  have h1 := prod_mono hb (fi_le k 6 (by omega))
  have h2 : prodS K1000 ((1023 + 6) * B) = K64000 := by
    unfold prodS
    have e := V_six 1031 8796093022208000 (by decide) (by decide)
    rw [V_64, ← Nat.mul_assoc, Nat.mul_assoc _ (pw 1074), U_1852]
    have e1 : K1000 = 1031 * B + 8796093022208000 := rfl
    have e3 : (1031 + 6) * B + 8796093022208000 = K64000 := rfl
    rw [e1, e, e3]
    exact rd_exact K64000
  rwa [h2] at h1
theorem K64000_lt : K64000 < infR := by decide
theorem K1000_lt : K1000 < K64000 := by decide
theorem great_lt {b : Nat} {k : Int} (hb : b ≤ K1000) (hk : k ≤ 64) : b ≤ greatS b k ∧ greatS b k < infR := by
  have h := great_le hb hk
  have h1 := K64000_lt
  have h2 := K1000_lt
  unfold greatS
  generalize prodS b (fi k) = p at *
  omega
theorem mid_held {b g : Nat} {t m : Int} (h : b ≤ g) : b ≤ midS b g t m ∧ midS b g t m ≤ g := by
  have h1 := less_le g (prodS (partS t m) (lessS g b))
  unfold midS
  generalize lessS g (prodS (partS t m) (lessS g b)) = z at *
  omega
theorem wait_held {b : Nat} {k t m : Int} (hb : b ≤ K1000) (hk : k ≤ 64) : b ≤ waitS b k t m ∧ waitS b k t m ≤ greatS b k := by
  obtain ⟨h1, h2⟩ := great_lt hb hk
  have h3 := mid_held (t := t) (m := m) h1
  unfold waitS
  generalize greatS b k = g at *
  generalize midS b g t m = z at *
  split
  · omega
  · split
    · omega
    · exact h3
theorem run_max_pos {x y : Nat} (hx : x ≤ infR) (hy : y ≤ infR) (ts : Array TypeId) (t : TypeId) (w : World) : (Builtin.max_ ts t #[.float .f64 x, .float .f64 y]).run Tryz.prog w = .ok (.float .f64 (max x y)) w := by
  have hS := infR_lt_S
  have ho : FloatKind.f64.format.order x y = some (compare (x : Int) (y : Int)) := order_pos hx hy
  have hn : (FloatKind.f64.decode x).neg = false := by
    show (fm.read x).neg = false
    by_cases h : x = infR
    · rw [read_inf x (by rw [rung_pos (by omega)]; exact h)]; exact ng_pos (by omega)
    · obtain ⟨m, i, e, _⟩ := read_pos (show x < infR by omega)
      rw [e]; rfl
  simp only [Builtin.max_, List.foldlM, Builtin.max2, ho, compare_of]
  by_cases h1 : x < y
  · have : (x : Int) < y := by omega
    rw [Nat.max_eq_right (by omega)]
    simp [this]
  · have h3 : ¬ (x : Int) < y := by omega
    rw [Nat.max_eq_left (by omega)]
    by_cases h2 : (x : Int) = y
    · simp [h2, hn]
    · simp [h3, h2]
theorem refClean_any (x l h : Nat) (w : World) : Calls Tryz.prog 173 #[.float .f64 x, .float .f64 l, .float .f64 h] w fun e w' => e = .returned (.float .f64 (cleanS x l h)) ∧ w' = w := by
  unfold cleanS
  have n1 := nanF x
  have n2 := nanF l
  have n3 := nanF h
  cases h1 : nan x <;> rw [h1] at n1
  case true =>
    go_enter Tryz.func173, Tryz.ntmps173
    go_wp2
    go_ret
    exact ⟨rfl, rfl⟩
  cases h2 : nan l <;> rw [h2] at n2
  case true =>
    go_enter Tryz.func173, Tryz.ntmps173
    go_wp2
    go_ret
    exact ⟨rfl, rfl⟩
  cases h3 : nan h <;> rw [h3] at n3
  case true =>
    go_enter Tryz.func173, Tryz.ntmps173
    go_wp2
    go_ret
    exact ⟨rfl, rfl⟩
  cases h4 : FloatKind.f64.format.order l h == some .gt
  case true =>
    go_enter Tryz.func173, Tryz.ntmps173
    go_wp2
    go_ret
    exact ⟨rfl, rfl⟩
  cases h5 : FloatKind.f64.format.order x l == some .lt
  case true =>
    go_enter Tryz.func173, Tryz.ntmps173
    go_wp2
    go_ret
    exact ⟨rfl, rfl⟩
  cases h6 : FloatKind.f64.format.order x h == some .gt
  case true =>
    go_enter Tryz.func173, Tryz.ntmps173
    go_wp2
    go_ret
    exact ⟨rfl, rfl⟩
  cases h7 : FloatKind.f64.format.order x 0 == some .eq
  all_goals
    go_enter Tryz.func173, Tryz.ntmps173
    go_wp2
    go_ret
    exact ⟨rfl, rfl⟩
theorem clean_pos {x h : Nat} (hx : x < 2 ^ 64) (hh : h ≤ infR) : cleanS x 0 h ≤ h := by
  have hS := infR_lt_S
  have k0 : key 0 = 0 := rfl
  have kh := key_pos (show h < S by omega)
  rw [cleanS_eq rfl (nan_pos hh) (by omega), k0]
  split
  · omega
  · split
    · omega
    · split
      · omega
      · split
        · omega
        · obtain ⟨a, _⟩ := pos_word hx (by omega)
          omega
theorem mul_ok {a b s : Nat} (h : fm.mul a b = some s) (w : World) : (binOp .mul 174 (.float .f64 a) (.float .f64 b)).run Tryz.prog w = .ok (.float .f64 s) w := run_float_arith w .mul 174 .f64 a b s h
theorem sub_ok {a b s : Nat} (h : fm.sub a b = some s) (w : World) : (binOp .sub 174 (.float .f64 a) (.float .f64 b)).run Tryz.prog w = .ok (.float .f64 s) w := run_float_arith w .sub 174 .f64 a b s h
theorem div_ok {a b s : Nat} (h : fm.div a b = some s) (w : World) : (binOp .quo 174 (.float .f64 a) (.float .f64 b)).run Tryz.prog w = .ok (.float .f64 s) w := run_float_arith w .quo 174 .f64 a b s h
theorem eq_pos {x y : Nat} (hx : x ≤ infR) (hy : y ≤ infR) : (FloatKind.f64.format.order x y == some .eq) = decide (x = y) := by
  have hS := infR_lt_S
  rw [eqF, nan_pos hx, nan_pos hy, key_pos (by omega), key_pos (by omega), Bool.eq_iff_iff]
  simp; omega
theorem lt_pos {x y : Nat} (hx : x ≤ infR) (hy : y ≤ infR) : (FloatKind.f64.format.order x y == some .lt) = decide (x < y) := by
  have hS := infR_lt_S
  rw [ltF, nan_pos hx, nan_pos hy, key_pos (by omega), key_pos (by omega), Bool.eq_iff_iff]
  simp
set_option maxHeartbeats 1000000 in
theorem closure_any (t m : Int) (b g pg pb pm : Nat) (hb : b ≤ g) (hg : g < infR) (h0 : 0 < t) (h1 : t < m) (hm : m ≤ 9223372036854775807) (w : World)
    (cg : w.cell? ⟨pg, 0, none⟩ = some (.float .f64 g)) (cb : w.cell? ⟨pb, 0, none⟩ = some (.float .f64 b)) (cm : w.cell? ⟨pm, 0, none⟩ = some (.float .f64 (lessS g b))) :
    Calls Tryz.prog 219 #[.int .i64 t, .int .i64 m, .pointer (some ⟨pg, 0, none⟩), .pointer (some ⟨pb, 0, none⟩), .pointer (some ⟨pm, 0, none⟩)] w fun e w' => e = .returned (.float .f64 (midS b g t m)) ∧ w' = w := by
  obtain ⟨ep, hp⟩ := part_ok h0 h1 hm
  have f1 := floatOfInt_eq t (by omega) (by omega)
  have f2 := floatOfInt_eq m (by omega) (by omega)
  have o1 := div_ok ep
  have hl := less_le g b
  have hq := prod_le (p := partS t m) (m := lessS g b) hp
  have o2 := mul_ok (prod_ok (p := partS t m) (m := lessS g b) (Nat.lt_of_le_of_lt hp one_lt) (by omega) (by omega))
  obtain ⟨e3, h3⟩ := less_ok (b := prodS (partS t m) (lessS g b)) hg (by omega)
  have o3 := sub_ok e3
  have o4 := run_max_pos (x := b) (y := lessS g (prodS (partS t m) (lessS g b))) (by omega) (by omega)
  unfold midS
  generalize max b (lessS g (prodS (partS t m) (lessS g b))) = r at *
  generalize lessS g (prodS (partS t m) (lessS g b)) = z at *
  generalize prodS (partS t m) (lessS g b) = q at *
  generalize partS t m = p at *
  generalize lessS g b = d at *
  generalize fi t = ft at *
  generalize fi m = fm' at *
  clear hp hl hq h3 ep e3 hb hg hm
  have t0 : ¬ t ≤ 0 := by omega
  have t1 : ¬ m ≤ t := by omega
  go_enter Tryz.func219, Tryz.ntmps219
  go_wp2
  go_ret
  exact ⟨rfl, rfl⟩
theorem closure_all (t m : Int) (b g pg pb pm : Nat) (hb : b ≤ g) (hg : g < infR) (hm : m ≤ 9223372036854775807) (w : World)
    (cg : w.cell? ⟨pg, 0, none⟩ = some (.float .f64 g)) (cb : w.cell? ⟨pb, 0, none⟩ = some (.float .f64 b)) (cm : w.cell? ⟨pm, 0, none⟩ = some (.float .f64 (lessS g b))) :
    Calls Tryz.prog 219 #[.int .i64 t, .int .i64 m, .pointer (some ⟨pg, 0, none⟩), .pointer (some ⟨pb, 0, none⟩), .pointer (some ⟨pm, 0, none⟩)] w fun e w' => e = .returned (.float .f64 (if t ≤ 0 then g else if m ≤ t then b else midS b g t m)) ∧ w' = w := by
  by_cases h0 : t ≤ 0
  · rw [if_pos h0]
    clear cm cb
    go_enter Tryz.func219, Tryz.ntmps219
    go_wp2
    go_ret
    exact ⟨rfl, rfl⟩
  rw [if_neg h0]
  by_cases h1 : m ≤ t
  · rw [if_pos h1]
    clear cm cg
    go_enter Tryz.func219, Tryz.ntmps219
    go_wp2
    go_ret
    exact ⟨rfl, rfl⟩
  rw [if_neg h1]
  exact closure_any t m b g pg pb pm hb hg (by omega) (by omega) hm w cg cb cm
theorem cell_new (w : World) (v : Value) (t : TypeId) : (w.alloc (.cells #[v] t)).cell? ⟨w.heap.size, 0, none⟩ = some v := by
  have h : (w.alloc (.cells #[v] t)).heap[w.heap.size]? = some (.cells #[v] t) := by
    show (w.heap.push _)[w.heap.size]? = _; simp
  unfold World.cell?
  rw [h]; rfl
theorem waits_any (b g : Nat) (hb : b ≤ g) (hg : g < infR) (w : World) :
    Calls Tryz.prog 199 #[.float .f64 b, .float .f64 g] w fun e w' => e = .returned (.func (.func 219) #[] #[.pointer (some ⟨w.heap.size + 1, 0, none⟩), .pointer (some ⟨w.heap.size, 0, none⟩), .pointer (some ⟨w.heap.size + 2, 0, none⟩)]) ∧ Below w.heap.size w w' ∧
      w'.cell? ⟨w.heap.size + 1, 0, none⟩ = some (.float .f64 g) ∧ w'.cell? ⟨w.heap.size, 0, none⟩ = some (.float .f64 b) ∧ w'.cell? ⟨w.heap.size + 2, 0, none⟩ = some (.float .f64 (lessS g b)) := by
  obtain ⟨e1, _⟩ := less_ok hg hb
  have o1 := sub_ok e1
  clear e1 hb hg
  generalize lessS g b = d at *
  have hst := fun a x w m => run_store Tryz.prog w a (.float .f64 x) m rfl
  go_enter Tryz.func199, Tryz.ntmps199
  go_wp2
  go_ret
  refine ⟨rfl, (((Below.refl _ _).alloc (by simp) _).alloc (by simp) _).alloc (by simp; omega) _, ?_, ?_, ?_⟩
  · refine Go.Lib.cell?_alloc_some _ ?_
    have h := cell_new (w.alloc (Obj.cells #[Value.float FloatKind.f64 b] 174)) (Value.float FloatKind.f64 g) 174
    rw [show (w.alloc (Obj.cells #[Value.float FloatKind.f64 b] 174)).heap.size = w.heap.size + 1 by simp] at h
    exact h
  · refine Go.Lib.cell?_alloc_some _ (Go.Lib.cell?_alloc_some _ ?_)
    simp
  · have h := cell_new ((w.alloc (Obj.cells #[Value.float FloatKind.f64 b] 174)).alloc (Obj.cells #[Value.float FloatKind.f64 g] 174)) (Value.float FloatKind.f64 d) 174
    rw [show ((w.alloc (Obj.cells #[Value.float FloatKind.f64 b] 174)).alloc (Obj.cells #[Value.float FloatKind.f64 g] 174)).heap.size = w.heap.size + 2 by simp] at h
    exact h
set_option maxHeartbeats 1000000 in
theorem wait_any (base : Nat) (n t m : Int) (HB : Hid (base < 2 ^ 64)) (hn : -9223372036854775808 ≤ n ∧ n ≤ 9223372036854775807) (hm : m ≤ 9223372036854775807) (w : World) :
    Calls Tryz.prog 166 #[.float .f64 base, .int .i64 n, .int .i64 t, .int .i64 m] w fun e w' => e = .returned (.float .f64 (waitS (cleanS base 0 K1000) (bitsS n) t m)) ∧ Below w.heap.size w w' := by
  have hK : K1000 < infR := by decide
  have hb : cleanS base 0 K1000 ≤ K1000 := clean_pos HB.out (Nat.le_of_lt hK)
  have c0 := fun w => clean_any base 0 K1000 w
  have c1 := fun w => bits_any n w hn
  have hk : 0 ≤ bitsS n ∧ bitsS n ≤ 64 := by
    unfold bitsS
    split
    · omega
    · have := Lib.bitLen_le n.toNat 64 (by omega) (by omega)
      omega
  generalize cleanS base 0 K1000 = b at *
  generalize bitsS n = k at *
  obtain ⟨h1, h2⟩ := great_lt hb hk.2
  have h3 := great_le hb hk.2
  have f1 := floatOfInt_eq k hk.1 (by omega)
  have o1 := mul_ok (prod_ok (p := b) (m := fi k) (by omega) (Nat.lt_of_le_of_lt (fi_le k 6 (by omega)) (by decide)) (Nat.lt_of_le_of_lt h3 K64000_lt))
  have o2 := run_max_pos (x := b) (y := prodS b (fi k)) (by omega) (Nat.le_of_lt (Nat.lt_of_le_of_lt h3 K64000_lt))
  rw [show max b (prodS b (fi k)) = greatS b k from rfl] at o2
  unfold waitS
  generalize greatS b k = g at *
  generalize prodS b (fi k) = p at *
  generalize fi k = fk at *
  rw [show K1000 = 4652007308841189376 from rfl] at c0
  clear hb hk h3
  have c2 := fun w => waits_any b g h1 h2 w
  have c3 := fun pg pb pm w cg cb cm => closure_all t m b g pg pb pm h1 h2 hm w cg cb cm
  clear h1 h2 hK
  generalize (if t ≤ 0 then g else if m ≤ t then b else midS b g t m) = r at *
  go_enter Tryz.func166, Tryz.ntmps166
  go_wp2_with (first
    | (go_at_call 197; refine (c0 _).mono ?_; rintro e w' ⟨rfl, rfl⟩)
    | (go_at_call 198; refine (c1 _).mono ?_; rintro e w' ⟨rfl, rfl⟩))
  refine (c2 _).mono ?_
  rintro e w1 ⟨rfl, b1, cg, cb, cm⟩
  go_wp2_with fail
  refine (c3 _ _ _ _ cg cb cm).mono ?_
  rintro e w2 ⟨rfl, rfl⟩
  go_wp2
  go_ret
  exact ⟨rfl, b1⟩
theorem bits_half {n : Int} (h0 : 0 < n) (h : n ≤ 9223372036854775807) : bitsS n = 1 + bitsS (n / 2) := by
  unfold bitsS
  rw [if_neg (by omega), if_neg (by omega), Lib.bitLen_half n.toNat (by omega) (by omega), show (n / 2).toNat = n.toNat / 2 by omega]
  omega
theorem bits_range (n : Int) (h : n ≤ 9223372036854775807) : 0 ≤ bitsS n ∧ bitsS n ≤ 64 := by
  unfold bitsS
  split
  · omega
  · have := Lib.bitLen_le n.toNat 64 (by omega) (by omega)
    omega
theorem bits_none {n : Int} (h : n ≤ 0) : bitsS n = 0 := by
  unfold bitsS
  split
  · rfl
  · rw [show n.toNat = 0 by omega]; rfl
theorem refBits_any (n : Int) (w : World) (h : -9223372036854775808 ≤ n ∧ n ≤ 9223372036854775807) : Calls Tryz.prog 174 #[.int .i64 n] w fun e w' => e = .returned (.int .i64 (bitsS n)) ∧ w' = w := by
  have hr := bits_range n h.2
  generalize hB : bitsS n = r at *
  have HB : Hid (bitsS n = r) := hB
  clear hB
  have hn1 := h.1
  have hn2 := h.2
  go_enter Tryz.func174, Tryz.ntmps174
  go_wp2_with fail
  go_loopg [0, 3] 64 (fun gk t0 t3 wr => wr = w ∧ ∃ (v k : Int), t0 = .int .i64 v ∧ t3 = .int .i64 k ∧ -9223372036854775808 ≤ v ∧ v ≤ 9223372036854775807 ∧ 0 ≤ k ∧ k ≤ 64 ∧ r = k + bitsS v ∧ bitsS v ≤ gk)
  case atStart => exact ⟨rfl, n, 0, rfl, rfl, hn1, hn2, by omega, by omega, by rw [HB.out]; omega, by rw [HB.out]; omega⟩
  case round =>
    obtain ⟨rfl, v, k, rfl, rfl, hv1, hv2, hk1, hk2, he, hg⟩ := hrel
    by_cases hv : 0 < v
    · have hh := bits_half hv hv2
      have hr2 := bits_range (v / 2) (by omega)
      have HH : Hid (bitsS v = 1 + bitsS (v / 2)) := hh
      have HE : Hid (r = k + bitsS v) := he
      have HG : Hid (bitsS v ≤ gk) := hg
      have HR : Hid (0 ≤ bitsS (v / 2) ∧ bitsS (v / 2) ≤ 64) := hr2
      have hk3 : k ≤ 63 := by omega
      clear he hh hg hr2
      go_wp2_with fail
      go_roundg (gk - 1)
      case rel =>
        have a1 := HH.out
        have a2 := HE.out
        have a3 := HG.out
        have a4 := HR.out
        refine ⟨rfl, v / 2, k + 1, rfl, rfl, by omega, by omega, by omega, by omega, by omega, by omega⟩
      case measure =>
        have a1 := HH.out
        have a3 := HG.out
        have a4 := HR.out
        omega
    · have hz := bits_none (show v ≤ 0 by omega)
      have hkr : k = r := by omega
      subst hkr
      clear he hg hz
      go_wp2_with fail
      go_ret
      exact ⟨rfl, rfl⟩
set_option maxHeartbeats 1000000 in
theorem refWait_any (base : Nat) (n t m : Int) (HB : Hid (base < 2 ^ 64)) (hn : -9223372036854775808 ≤ n ∧ n ≤ 9223372036854775807) (hm : m ≤ 9223372036854775807) (w : World) :
    Calls Tryz.prog 141 #[.float .f64 base, .int .i64 n, .int .i64 t, .int .i64 m] w fun e w' => e = .returned (.float .f64 (waitS (cleanS base 0 K1000) (bitsS n) t m)) ∧ w' = w := by
  have hK : K1000 < infR := by decide
  have hb : cleanS base 0 K1000 ≤ K1000 := clean_pos HB.out (Nat.le_of_lt hK)
  have c0 := fun w => refClean_any base 0 K1000 w
  have c1 := fun w => refBits_any n w hn
  have hk := bits_range n hn.2
  generalize cleanS base 0 K1000 = b at *
  generalize bitsS n = k at *
  obtain ⟨h1, h2⟩ := great_lt hb hk.2
  have h3 := great_le hb hk.2
  have f1 := floatOfInt_eq k hk.1 (by omega)
  have hp : prodS b (fi k) < infR := Nat.lt_of_le_of_lt h3 K64000_lt
  have o1 := mul_ok (prod_ok (p := b) (m := fi k) (by omega) (Nat.lt_of_le_of_lt (fi_le k 6 (by omega)) (by decide)) hp)
  have hg : greatS b k = max b (prodS b (fi k)) := rfl
  have ol := lt_pos (x := prodS b (fi k)) (y := b) (by omega) (by omega)
  rw [show K1000 = 4652007308841189376 from rfl] at c0
  unfold waitS
  generalize prodS b (fi k) = p at *
  generalize fi k = fk at *
  generalize greatS b k = g at *
  clear hb hk h3 hK
  by_cases t0 : t ≤ 0
  · rw [if_pos t0]
    by_cases hlt : p < b
    · rw [decide_eq_true hlt] at ol
      have e : g = b := by omega
      subst e
      clear hg h1 h2 hp hlt
      go_enter Tryz.func141, Tryz.ntmps141
      go_wp2_with (first
      | (go_at_call 173; refine (c0 _).mono ?_; rintro e w' ⟨rfl, rfl⟩)
      | (go_at_call 174; refine (c1 _).mono ?_; rintro e w' ⟨rfl, rfl⟩))
      go_ret
      exact ⟨rfl, rfl⟩
    · rw [decide_eq_false hlt] at ol
      have e : g = p := by omega
      subst e
      clear hg h1 h2 hp hlt
      go_enter Tryz.func141, Tryz.ntmps141
      go_wp2_with (first
      | (go_at_call 173; refine (c0 _).mono ?_; rintro e w' ⟨rfl, rfl⟩)
      | (go_at_call 174; refine (c1 _).mono ?_; rintro e w' ⟨rfl, rfl⟩))
      go_ret
      exact ⟨rfl, rfl⟩
  rw [if_neg t0]
  by_cases t1 : m ≤ t
  · rw [if_pos t1]
    by_cases t2 : m < 1
    · by_cases hlt : p < b
      · rw [decide_eq_true hlt] at ol
        clear hg h1 h2 hp hlt
        go_enter Tryz.func141, Tryz.ntmps141
        go_wp2_with (first
      | (go_at_call 173; refine (c0 _).mono ?_; rintro e w' ⟨rfl, rfl⟩)
      | (go_at_call 174; refine (c1 _).mono ?_; rintro e w' ⟨rfl, rfl⟩))
        go_ret
        exact ⟨rfl, rfl⟩
      · rw [decide_eq_false hlt] at ol
        clear hg h1 h2 hp hlt
        go_enter Tryz.func141, Tryz.ntmps141
        go_wp2_with (first
      | (go_at_call 173; refine (c0 _).mono ?_; rintro e w' ⟨rfl, rfl⟩)
      | (go_at_call 174; refine (c1 _).mono ?_; rintro e w' ⟨rfl, rfl⟩))
        go_ret
        exact ⟨rfl, rfl⟩
    · by_cases hlt : p < b
      · rw [decide_eq_true hlt] at ol
        clear hg h1 h2 hp hlt
        go_enter Tryz.func141, Tryz.ntmps141
        go_wp2_with (first
      | (go_at_call 173; refine (c0 _).mono ?_; rintro e w' ⟨rfl, rfl⟩)
      | (go_at_call 174; refine (c1 _).mono ?_; rintro e w' ⟨rfl, rfl⟩))
        go_ret
        exact ⟨rfl, rfl⟩
      · rw [decide_eq_false hlt] at ol
        clear hg h1 h2 hp hlt
        go_enter Tryz.func141, Tryz.ntmps141
        go_wp2_with (first
      | (go_at_call 173; refine (c0 _).mono ?_; rintro e w' ⟨rfl, rfl⟩)
      | (go_at_call 174; refine (c1 _).mono ?_; rintro e w' ⟨rfl, rfl⟩))
        go_ret
        exact ⟨rfl, rfl⟩
  rw [if_neg t1]
  have t2 : ¬ m < 1 := by omega
  obtain ⟨ep, hpl⟩ := part_ok (t := t) (m := m) (by omega) (by omega) hm
  have f3 := floatOfInt_eq t (by omega) (by omega)
  have f4 := floatOfInt_eq m (by omega) (by omega)
  have o3 := div_ok ep
  have hl := less_le g b
  have o4 := sub_ok (less_ok h2 h1).1
  have hq := prod_le (p := partS t m) (m := lessS g b) hpl
  have o5 := mul_ok (prod_ok (p := partS t m) (m := lessS g b) (Nat.lt_of_le_of_lt hpl one_lt) (by omega) (by omega))
  obtain ⟨e6, h6⟩ := less_ok (b := prodS (partS t m) (lessS g b)) h2 (by omega)
  have o6 := sub_ok e6
  have o7 := lt_pos (x := lessS g (prodS (partS t m) (lessS g b))) (y := b) (by omega) (by omega)
  unfold midS
  generalize lessS g (prodS (partS t m) (lessS g b)) = z at *
  generalize prodS (partS t m) (lessS g b) = q at *
  generalize partS t m = pt at *
  generalize lessS g b = d at *
  generalize fi t = ft at *
  generalize fi m = fm' at *
  clear hpl hl hq h6 ep e6
  by_cases hz : z < b
  · rw [decide_eq_true hz] at o7
    rw [Nat.max_eq_left (Nat.le_of_lt hz)]
    by_cases hlt : p < b
    · rw [decide_eq_true hlt] at ol
      have e : g = b := by omega
      subst e
      clear hg h1 h2 hp hlt hz hm
      go_enter Tryz.func141, Tryz.ntmps141
      go_wp2_with (first
      | (go_at_call 173; refine (c0 _).mono ?_; rintro e w' ⟨rfl, rfl⟩)
      | (go_at_call 174; refine (c1 _).mono ?_; rintro e w' ⟨rfl, rfl⟩))
      go_ret
      exact ⟨rfl, rfl⟩
    · rw [decide_eq_false hlt] at ol
      have e : g = p := by omega
      subst e
      clear hg h1 h2 hp hlt hz hm
      go_enter Tryz.func141, Tryz.ntmps141
      go_wp2_with (first
      | (go_at_call 173; refine (c0 _).mono ?_; rintro e w' ⟨rfl, rfl⟩)
      | (go_at_call 174; refine (c1 _).mono ?_; rintro e w' ⟨rfl, rfl⟩))
      go_ret
      exact ⟨rfl, rfl⟩
  · rw [decide_eq_false hz] at o7
    rw [Nat.max_eq_right (by omega)]
    by_cases hlt : p < b
    · rw [decide_eq_true hlt] at ol
      have e : g = b := by omega
      subst e
      clear hg h1 h2 hp hlt hz hm
      go_enter Tryz.func141, Tryz.ntmps141
      go_wp2_with (first
      | (go_at_call 173; refine (c0 _).mono ?_; rintro e w' ⟨rfl, rfl⟩)
      | (go_at_call 174; refine (c1 _).mono ?_; rintro e w' ⟨rfl, rfl⟩))
      go_ret
      exact ⟨rfl, rfl⟩
    · rw [decide_eq_false hlt] at ol
      have e : g = p := by omega
      subst e
      clear hg h1 h2 hp hlt hz hm
      go_enter Tryz.func141, Tryz.ntmps141
      go_wp2_with (first
      | (go_at_call 173; refine (c0 _).mono ?_; rintro e w' ⟨rfl, rfl⟩)
      | (go_at_call 174; refine (c1 _).mono ?_; rintro e w' ⟨rfl, rfl⟩))
      go_ret
      exact ⟨rfl, rfl⟩
theorem flo_K40 {x : Nat} (h : x ≤ K40) : flo x ≤ 1099511627776 := by
  have h1 := cei_K40 h
  rw [cei_flo] at h1
  split at h1
  · exact Nat.le_of_succ_le h1
  · exact h1
theorem lt_flo {x : Nat} (h : x ≤ K40) : (FloatKind.f64.format.order (floatOfInt .f64 (flo x)) x == some .lt) = decide (flo x * pw 1074 < V x) := by
  have hf := flo_K40 h
  have hK : K40 < infR := by decide
  rw [floatOfInt_eq _ (Int.natCast_nonneg _) (Int.lt_of_le_of_lt (Int.ofNat_le.2 hf) (by decide)), lt_pos (Nat.le_of_lt (flo_fi (flo x) hf).2) (by omega), Bool.eq_iff_iff, decide_eq_true_iff, decide_eq_true_iff]
  have e : V (fi (flo x)) = flo x * pw 1074 := by
    have := V_fi (flo x) (Int.natCast_nonneg _) (Int.lt_of_le_of_lt (Int.ofNat_le.2 hf) (by decide))
    rwa [Int.toNat_natCast] at this
  rw [← e]
  exact ⟨V_lt, lt_of_V⟩
theorem refTicks_any (x : Nat) (w : World) (hx : Hid (x < 2 ^ 64)) : Calls Tryz.prog 140 #[.float .f64 x] w fun e w' => e = .returned (.int .u64 (ticksS x : Int)) ∧ w' = w := by
  unfold ticksS
  have l0 := leF x 0
  have gK := geF x K40
  have hn := nanF x
  rw [show nan 0 = false from rfl, show key 0 = 0 from rfl] at l0
  rw [show nan K40 = false from rfl, show key K40 = K40 from rfl] at gK
  cases h1 : nan x <;> rw [h1] at hn
  case true =>
    go_enter Tryz.func140, Tryz.ntmps140
    go_wp2
    go_ret
    exact ⟨rfl, rfl⟩
  rw [h1] at l0 gK
  simp only [Bool.not_false, Bool.true_and] at l0 gK
  by_cases h2 : key x ≤ 0
  · rw [decide_eq_true h2] at l0
    rw [if_pos h2]
    go_enter Tryz.func140, Tryz.ntmps140
    go_wp2
    go_ret
    exact ⟨rfl, rfl⟩
  rw [decide_eq_false h2] at l0
  rw [if_neg h2]
  by_cases h3 : (K40 : Int) ≤ key x
  · rw [decide_eq_true h3] at gK
    rw [if_pos h3]
    unfold K40 at gK
    go_enter Tryz.func140, Tryz.ntmps140
    go_wp2
    go_ret
    exact ⟨rfl, rfl⟩
  rw [decide_eq_false h3] at gK
  rw [if_neg h3]
  obtain ⟨e, hS⟩ := pos_word hx.out (show 0 < key x by omega)
  have hle : x ≤ K40 := by omega
  have hI : K40 < infR := by decide
  have hf := flo_K40 hle
  have hcv := conv_u64 x (by omega) (by omega)
  have hlt := lt_flo hle
  have hc := cei_flo x
  clear e hS hle h2 h3
  unfold K40 at gK
  by_cases hq : flo x * pw 1074 < V x
  · rw [decide_eq_true hq] at hlt
    rw [if_pos hq] at hc
    rw [hc]
    clear hq hc
    generalize flo x = n at *
    go_enter Tryz.func140, Tryz.ntmps140
    go_wp2
    go_ret
    exact ⟨rfl, rfl⟩
  · rw [decide_eq_false hq] at hlt
    rw [if_neg hq] at hc
    rw [hc]
    clear hq hc
    generalize flo x = n at *
    go_enter Tryz.func140, Tryz.ntmps140
    go_wp2
    go_ret
    exact ⟨rfl, rfl⟩
end Go.Proofs.YtpoofjnfaijjjaaGreatDoor.Do.Re
