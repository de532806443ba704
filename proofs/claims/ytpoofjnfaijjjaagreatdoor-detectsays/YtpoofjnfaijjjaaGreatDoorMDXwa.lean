/-
  Bits of a number: math/bits.Len64, Len, real.Bits, and the reference's Bits. Ticks. More of Clean. The mathematics of waits.
-/
import Derived.Test.YtpoofjnfaijjjaaGreatDoorMDXba
import Derived.Lib.BitFns
namespace Go.Proofs.YtpoofjnfaijjjaaGreatDoor.Do.Re
open Go.RowKit

theorem len_step (x k : Nat) (y : Int) (hx : x < 2 ^ 64) (hy : y = (x / 2 ^ k : Nat)) (h1 : y < 256) (hk : k = 0 ∨ 2 ^ k ≤ x) : (k : Int) + Lib.len8 (y % 256) = (Lib.bitLen x : Int) := by
  have e : (y % 256).toNat = x / 2 ^ k := by
    generalize x / 2 ^ k = z at hy
    omega
  have h0 : 0 ≤ y % 256 := by omega
  rw [Lib.len8_of _ h0 (by omega), e]
  rcases hk with h | h
  · subst h; simp
  · rw [Lib.bitLen_shift k x h hx]; omega

theorem get_tab (T : ByteArray) (i : Nat) (h : i < T.size) : (T[i]'h).toNat = ((T[i]?).getD 0).toNat := by
  rw [ByteArray.getElem?_lt' _ _ h]; rfl
theorem leaf_gen (T : ByteArray) (x : Int) (k : Nat) (K y z : Int) (h : y.toNat < T.size) (hz : z = (((T[y.toNat]?).getD 0).toNat : Nat)) (hK : K = k) (he : (k : Int) + z = (Lib.bitLen x.toNat : Int)) (hx : x.toNat < 2 ^ 64) :
    wrap64 (K + wrap64 ((T[y.toNat]'h).toNat : Int)) = (Lib.bitLen x.toNat : Int) := by
  have b := Lib.bitLen_le x.toNat 64 (by omega) hx
  rw [get_tab, ← hz, hK, ← he]
  unfold wrap64
  omega
theorem len_leaf (x : Int) (k : Nat) (K y : Int) (h : y.toNat < Lib.len8tab.size) (hK : K = k) (h0 : 0 ≤ x) (hx : x < 18446744073709551616) (hy : y = (x.toNat / 2 ^ k : Nat)) (h1 : y < 256) (h2 : k = 0 ∨ 2 ^ k ≤ x.toNat) :
    wrap64 (K + wrap64 ((Lib.len8tab[y.toNat]'h).toNat : Int)) = (Lib.bitLen x.toNat : Int) := by
  have hy0 : 0 ≤ y := by rw [hy]; exact Int.natCast_nonneg _
  have e := len_step x.toNat k y (by omega) hy h1 h2
  rw [show y % 256 = y by omega] at e
  exact leaf_gen Lib.len8tab x k K y (Lib.len8 y) h rfl hK e (by omega)

set_option maxRecDepth 100000 in
/-- The table as the program bears it. -/
theorem tab_fold : (⟨List.toArray (([0, 1, 2, 2, 3, 3, 3, 3, 4, 4, 4, 4, 4, 4, 4, 4, 5, 5, 5, 5, 5, 5, 5, 5, 5, 5, 5, 5, 5, 5, 5, 5, 6, 6, 6, 6, 6, 6, 6, 6, 6, 6, 6, 6, 6, 6, 6, 6, 6, 6, 6, 6, 6, 6, 6, 6, 6, 6, 6, 6, 6, 6, 6, 6].append [7, 7, 7, 7, 7, 7, 7, 7, 7, 7, 7, 7, 7, 7, 7, 7, 7, 7, 7, 7, 7, 7, 7, 7, 7, 7, 7, 7, 7, 7, 7, 7, 7, 7, 7, 7, 7, 7, 7, 7, 7, 7, 7, 7, 7, 7, 7, 7, 7, 7, 7, 7, 7, 7, 7, 7, 7, 7, 7, 7, 7, 7, 7, 7]).append ([8, 8, 8, 8, 8, 8, 8, 8, 8, 8, 8, 8, 8, 8, 8, 8, 8, 8, 8, 8, 8, 8, 8, 8, 8, 8, 8, 8, 8, 8, 8, 8, 8, 8, 8, 8, 8, 8, 8, 8, 8, 8, 8, 8, 8, 8, 8, 8, 8, 8, 8, 8, 8, 8, 8, 8, 8, 8, 8, 8, 8, 8, 8, 8].append [8, 8, 8, 8, 8, 8, 8, 8, 8, 8, 8, 8, 8, 8, 8, 8, 8, 8, 8, 8, 8, 8, 8, 8, 8, 8, 8, 8, 8, 8, 8, 8, 8, 8, 8, 8, 8, 8, 8, 8, 8, 8, 8, 8, 8, 8, 8, 8, 8, 8, 8, 8, 8, 8, 8, 8, 8, 8, 8, 8, 8, 8, 8, 8]))⟩ : ByteArray) = Lib.len8tab := by decide +kernel

set_option maxHeartbeats 4000000 in
set_option maxRecDepth 100000 in
theorem len64_any (x : Int) (w : World) (h0 : 0 ≤ x) (hx : x ≤ 18446744073709551615) : Calls Tryz.prog 186 #[.int .u64 x] w fun e w' => e = .returned (.int .i64 (Lib.bitLen x.toNat)) ∧ w' = w := by
  have hs : (Lib.len8tab.size : Int) = 256 := by rw [Lib.len8tab_size]; rfl
  refine calls_of_wp Tryz.func186 rfl ?_
  rw [tab_fold]
  simp only [Tryz.ntmps186, List.size_toArray, List.length_cons, List.length_nil, Nat.reduceAdd, Nat.reduceSub, Array.replicate_succ,
     Array.replicate_zero, List.push_toArray, List.append_toArray, List.nil_append, List.cons_append]
  go_wp2
  all_goals (go_ret; refine ⟨congrArg Ending.returned (congrArg (Value.int IntKind.i64) ?_), rfl⟩)
  all_goals first
    | exact len_leaf x 56 56 _ _ rfl h0 (by omega) (by omega) (by omega) (by omega)
    | exact len_leaf x 48 48 _ _ rfl h0 (by omega) (by omega) (by omega) (by omega)
    | exact len_leaf x 40 40 _ _ rfl h0 (by omega) (by omega) (by omega) (by omega)
    | exact len_leaf x 32 32 _ _ rfl h0 (by omega) (by omega) (by omega) (by omega)
    | exact len_leaf x 24 24 _ _ rfl h0 (by omega) (by omega) (by omega) (by omega)
    | exact len_leaf x 16 16 _ _ rfl h0 (by omega) (by omega) (by omega) (by omega)
    | exact len_leaf x 8 8 _ _ rfl h0 (by omega) (by omega) (by omega) (by omega)
    | (refine Eq.trans (congrArg wrap64 (Int.zero_add _).symm) ?_
       exact len_leaf x 0 0 x _ rfl h0 (by omega) (by omega) (by omega) (by omega))

theorem len_any (x : Int) (w : World) (h0 : 0 ≤ x) (hx : x ≤ 18446744073709551615) : Calls Tryz.prog 150 #[.int .u64 x] w fun e w' => e = .returned (.int .i64 (Lib.bitLen x.toNat)) ∧ w' = w := by
  go_enter Tryz.func150, Tryz.ntmps150
  go_wp2_with (go_at_call 186; refine (len64_any _ _ h0 hx).mono ?_; rintro e w' ⟨rfl, rfl⟩)
  go_ret
  exact ⟨rfl, rfl⟩

def bitsS (n : Int) : Int := if n < 0 then 0 else (Lib.bitLen n.toNat : Int)
theorem bits_any (n : Int) (w : World) (h : -9223372036854775808 ≤ n ∧ n ≤ 9223372036854775807) : Calls Tryz.prog 198 #[.int .i64 n] w fun e w' => e = .returned (.int .i64 (bitsS n)) ∧ w' = w := by
  unfold bitsS
  by_cases hn : n < 0
  · rw [if_pos hn]
    go_enter Tryz.func198, Tryz.ntmps198
    go_wp2
    go_ret
    exact ⟨rfl, rfl⟩
  · rw [if_neg hn]
    have hn' : 0 ≤ n := by omega
    have hm : n ≤ 18446744073709551615 := by omega
    go_enter Tryz.func198, Tryz.ntmps198
    go_wp2_with (go_at_call 150; refine (len_any _ _ hn' hm).mono ?_; rintro e w' ⟨rfl, rfl⟩)
    go_ret
    exact ⟨rfl, rfl⟩
end Go.Proofs.YtpoofjnfaijjjaaGreatDoor.Do.Re
namespace Go.Proofs.YtpoofjnfaijjjaaGreatDoor.Do.Re
open Go.RowKit

theorem leF (x y : Nat) : (FloatKind.f64.format.order x y == some .lt || FloatKind.f64.format.order x y == some .eq) = (!nan x && !nan y && decide (key x ≤ key y)) := by
  rw [ltF, eqF]
  cases nan x <;> cases nan y <;> simp
  rw [Bool.eq_iff_iff]; simp; omega
theorem geF (x y : Nat) : (FloatKind.f64.format.order x y == some .gt || FloatKind.f64.format.order x y == some .eq) = (!nan x && !nan y && decide (key y ≤ key x)) := by
  rw [gtF, eqF]
  cases nan x <;> cases nan y <;> simp
  rw [Bool.eq_iff_iff]; simp; omega

def K40 : Nat := 4787326403894837248
theorem V_K40 : V K40 = 1099511627776 * pw 1074 := V_pow 40
/-- A word above nought is its rung. -/
theorem pos_word {x : Nat} (hx : x < 2 ^ 64) (h : 0 < key x) : key x = x ∧ x < S := by
  unfold key at h
  cases hg : ng x
  · rw [hg] at h
    have : x < S := by unfold ng S at hg; simp at hg; unfold S; omega
    exact ⟨key_pos this, this⟩
  · rw [hg] at h; simp at h; omega

/-- Ticks, as a plain function. -/
def ticksS (x : Nat) : Nat := if nan x then 0 else if key x ≤ 0 then 0 else if (K40 : Int) ≤ key x then 1099511627776 else cei x

theorem cei_spec (x : Nat) : V x ≤ cei x * pw 1074 ∧ (0 < V x → 0 < cei x ∧ (cei x - 1) * pw 1074 < V x) := by
  unfold cei
  have hp := pw_pos 1074
  generalize pw 1074 = g at *
  have h1 := Nat.div_add_mod (V x + (g - 1)) g
  have h2 := Nat.mod_lt (V x + (g - 1)) hp
  generalize (V x + (g - 1)) / g = q at *
  rw [Nat.mul_comm] at h1
  refine ⟨by omega, fun h => ?_⟩
  have hq : 0 < q := by
    by_cases h0 : q = 0
    · rw [h0] at h1; simp at h1; omega
    · omega
  refine ⟨hq, ?_⟩
  rw [Nat.sub_mul, Nat.one_mul]
  have : g ≤ q * g := Nat.le_mul_of_pos_left _ hq
  omega
theorem flo_spec (x : Nat) : flo x * pw 1074 ≤ V x ∧ V x < (flo x + 1) * pw 1074 := by
  unfold flo
  have hp := pw_pos 1074
  generalize pw 1074 = g at *
  have h1 := Nat.div_add_mod (V x) g
  have h2 := Nat.mod_lt (V x) hp
  rw [Nat.mul_comm] at h1
  rw [Nat.add_mul]
  omega
theorem mul_lt_pw {a b : Nat} (h : a * pw 1074 < b * pw 1074) : a < b := Nat.lt_of_mul_lt_mul_right h
theorem mul_le_pw {a b : Nat} (h : a * pw 1074 ≤ b * pw 1074) : a ≤ b := Nat.le_of_mul_le_mul_right h (pw_pos _)
theorem cei_mono {x y : Nat} (h : x ≤ y) : cei x ≤ cei y := Nat.div_le_div_right (Nat.add_le_add_right (V_le h) _)
theorem cei_K40 {x : Nat} (h : x ≤ K40) : cei x ≤ 1099511627776 := by
  have := cei_mono h
  have e : cei K40 = 1099511627776 := by
    unfold cei; rw [V_K40]
    have hp := pw_pos 1074
    generalize pw 1074 = g at *
    rw [Nat.add_comm, Nat.add_mul_div_right _ _ hp, Nat.div_eq_of_lt (by omega)]
  omega
/-- By what is cut off. -/
theorem cei_flo (x : Nat) : cei x = if flo x * pw 1074 < V x then flo x + 1 else flo x := by
  have ⟨f1, f2⟩ := flo_spec x
  have ⟨c1, c2⟩ := cei_spec x
  by_cases h : flo x * pw 1074 < V x
  · rw [if_pos h]
    have ⟨c3, c4⟩ := c2 (by omega)
    have a := mul_lt_pw (Nat.lt_of_lt_of_le h c1)
    have b := mul_lt_pw (Nat.lt_trans c4 f2)
    omega
  · rw [if_neg h]
    have e : V x = flo x * pw 1074 := by omega
    by_cases h0 : 0 < V x
    · have ⟨c3, c4⟩ := c2 h0
      rw [e] at c1 c4
      have a := mul_le_pw c1
      have b := mul_lt_pw c4
      omega
    · have hV : V x = 0 := by omega
      unfold cei flo; rw [hV]
      have hp := pw_pos 1074
      rw [Nat.div_eq_of_lt (by omega), Nat.div_eq_of_lt (by omega)]

theorem f45 (x : Nat) (h : x < infR) (w : World) : (callFunc 217 #[.float .f64 x]).run Tryz.prog w = .ok (.value (.float .f64 (min (rd (cei x * pw 4000)) infR))) w := by
  rw [run_callFunc_extern Tryz.func217 (by kernel_rfl) (by kernel_rfl) (by kernel_rfl) (e := Extern.MathFloor.toIntegral "math.archCeil" .up) (by kernel_rfl) _ _]
  obtain ⟨c, hc, rfl⟩ := ceil_pos h
  obtain ⟨m, i, e, _⟩ := read_pos h
  have hd : FloatKind.f64.decode x = .number false m i := e
  have hr : (Extern.MathFloor.toIntegral "math.archCeil" .up #[.float .f64 x]) = pure (.float .f64 (min (rd (cei x * pw 4000)) infR)) := by
    change (match FloatKind.f64.decode x with
      | .nan _ _ => _
      | d => pure (Value.float .f64 (FloatKind.f64.encode (d.integral .up)))) = _
    rw [hd]
    dsimp only
    rw [← e, hc]
    show pure (Value.float .f64 (fm.nearest false (cei x) 0)) = _
    rw [nearest_rd _ _ _ (by omega), word_false]
    unfold Q
    rw [← pw_eq]
    rfl
  rw [hr]; rfl

theorem conv_u64 (x : Nat) (h : x < infR) (hf : flo x < 18446744073709551616) (w : World) : (convert 174 34 (.float .f64 x)).run Tryz.prog w = .ok (.int .u64 (flo x : Int)) w := by
  refine run_convert_float_int w 174 34 .f64 .u64 x _ (by kernel_rfl) (by kernel_rfl) ?_
  unfold floatToIntVal
  rw [show (FloatKind.f64.decode x).toInt .zero = some (flo x : Int) from toInt_pos h]
  dsimp only
  rw [if_pos]
  simp [IntKind.min, IntKind.max, IntKind.signed, IntKind.bits]
  omega

theorem ceil_any (x : Nat) (h : x ≤ K40) (w : World) : Calls Tryz.prog 196 #[.float .f64 x] w fun e w' => e = .returned (.float .f64 (fi (cei x))) ∧ w' = w := by
  have hK : K40 < infR := by decide
  have h1 := cei_K40 h
  have e : min (rd (cei x * pw 4000)) infR = fi (cei x) := by
    have := fi_le (cei x : Int) 40 (by omega)
    unfold fi at *
    rw [Int.toNat_natCast] at *
    exact Nat.min_eq_left (Nat.le_of_lt (Nat.lt_of_le_of_lt this (by decide)))
  have h45 := f45 x (by omega)
  rw [e] at h45
  generalize fi (cei x) = z at *
  go_enter Tryz.func196, Tryz.ntmps196
  go_wp2
  go_ret
  exact ⟨rfl, rfl⟩

theorem flo_fi (c : Nat) (h : c ≤ 1099511627776) : flo (fi c) = c ∧ fi c < infR := by
  refine ⟨?_, Nat.lt_of_le_of_lt (fi_le (c : Int) 40 (by omega)) (by decide)⟩
  unfold flo
  rw [V_fi _ (by omega) (by omega), Int.toNat_natCast, Nat.mul_div_cancel _ (pw_pos _)]

theorem ticks_any (x : Nat) (w : World) (hx : Hid (x < 2 ^ 64)) : Calls Tryz.prog 165 #[.float .f64 x] w fun e w' => e = .returned (.int .u64 (ticksS x : Int)) ∧ w' = w := by
  unfold ticksS
  have l0 := leF x 0
  have gK := geF x K40
  rw [show nan 0 = false from rfl, show key 0 = 0 from rfl] at l0
  rw [show nan K40 = false from rfl, show key K40 = K40 from rfl] at gK
  cases h1 : nan x
  case true =>
    go_enter Tryz.func165, Tryz.ntmps165
    go_wp2_with (go_at_call 195; refine (noNumber_any _ _).mono ?_; rintro e w' ⟨rfl, rfl⟩)
    go_ret
    exact ⟨rfl, rfl⟩
  rw [h1] at l0 gK
  simp only [Bool.not_false, Bool.true_and] at l0 gK
  by_cases h2 : key x ≤ 0
  · rw [decide_eq_true h2] at l0
    rw [if_pos h2]
    go_enter Tryz.func165, Tryz.ntmps165
    go_wp2_with (go_at_call 195; refine (noNumber_any _ _).mono ?_; rintro e w' ⟨rfl, rfl⟩)
    go_ret
    exact ⟨rfl, rfl⟩
  rw [decide_eq_false h2] at l0
  rw [if_neg h2]
  by_cases h3 : (K40 : Int) ≤ key x
  · rw [decide_eq_true h3] at gK
    rw [if_pos h3]
    unfold K40 at gK
    go_enter Tryz.func165, Tryz.ntmps165
    go_wp2_with (go_at_call 195; refine (noNumber_any _ _).mono ?_; rintro e w' ⟨rfl, rfl⟩)
    go_ret
    exact ⟨rfl, rfl⟩
  rw [decide_eq_false h3] at gK
  rw [if_neg h3]
  obtain ⟨e, hS⟩ := pos_word hx.out (show 0 < key x by omega)
  have hle : x ≤ K40 := by omega
  have hc := cei_K40 hle
  obtain ⟨f1, f2⟩ := flo_fi (cei x) hc
  have hcv := conv_u64 (fi (cei x)) f2 (by rw [f1]; omega)
  rw [f1] at hcv
  have HL : Hid (x ≤ K40) := hle
  have HC := fun w => ceil_any x hle w
  clear e hS hle f1 f2
  generalize fi (cei x) = z at *
  generalize cei x = c at *
  unfold K40 at gK
  clear h2 h3
  go_enter Tryz.func165, Tryz.ntmps165
  go_wp2_with (first | (go_at_call 195; refine (noNumber_any _ _).mono ?_; rintro e w' ⟨rfl, rfl⟩) | (go_at_call 196; refine (HC _).mono ?_; rintro e w' ⟨rfl, rfl⟩))
  go_ret
  exact ⟨rfl, rfl⟩

end Go.Proofs.YtpoofjnfaijjjaaGreatDoor.Do.Re
namespace Go.Proofs.YtpoofjnfaijjjaaGreatDoor.Do.Re
open Go.RowKit

theorem cleanS_eq {x l h : Nat} (nl : nan l = false) (nh : nan h = false) (hk : key l ≤ key h) : cleanS x l h = if nan x then l else if key x < key l then l else if key h < key x then h else if key x = 0 then 0 else x := by
  unfold cleanS
  rw [gtF, ltF, gtF, eqF, nl, nh]
  cases nan x
  · have h0 : nan 0 = false := rfl
    have h1 : key 0 = 0 := rfl
    have h2 : ¬ key h < key l := by omega
    rw [h0, h1]
    simp [h2]
  · simp
theorem clean_low {x l h : Nat} (hb : (FloatKind.f64.format.order l h == some .lt || FloatKind.f64.format.order l h == some .eq) = false) : cleanS x l h = l := by
  unfold cleanS
  rw [ltF, eqF] at hb
  rw [gtF]
  cases nan x <;> cases nl : nan l <;> cases nh : nan h <;> simp [nl, nh] at hb ⊢
  intro h1
  omega
/-- Between both ends. -/
theorem clean_held {l h : Nat} (x : Nat) (nl : nan l = false) (nh : nan h = false) (hk : key l ≤ key h) : nan (cleanS x l h) = false ∧ key l ≤ key (cleanS x l h) ∧ key (cleanS x l h) ≤ key h := by
  rw [cleanS_eq nl nh hk]
  cases nx : nan x
  · simp only [Bool.false_eq_true, if_false]
    by_cases h1 : key x < key l
    · rw [if_pos h1]; exact ⟨nl, by omega, hk⟩
    · rw [if_neg h1]
      by_cases h2 : key h < key x
      · rw [if_pos h2]; exact ⟨nh, by omega, by omega⟩
      · rw [if_neg h2]
        by_cases h3 : key x = 0
        · rw [if_pos h3]
          have h0 : key 0 = 0 := rfl
          exact ⟨rfl, by omega, by omega⟩
        · rw [if_neg h3]; exact ⟨nx, by omega, by omega⟩
  · exact ⟨nl, Int.le_refl _, hk⟩
theorem clean_again {l h y : Nat} (nl : nan l = false) (nh : nan h = false) (ny : nan y = false) (h1 : key l ≤ key y) (h2 : key y ≤ key h) : nan (cleanS y l h) = false ∧ key (cleanS y l h) = key y := by
  rw [cleanS_eq nl nh (by omega), ny]
  simp only [Bool.false_eq_true, if_false]
  rw [if_neg (by omega), if_neg (by omega)]
  by_cases h3 : key y = 0
  · rw [if_pos h3, h3]; exact ⟨rfl, rfl⟩
  · rw [if_neg h3]; exact ⟨ny, rfl⟩

end Go.Proofs.YtpoofjnfaijjjaaGreatDoor.Do.Re
namespace Go.Proofs.YtpoofjnfaijjjaaGreatDoor.Do.Re
open Go.RowKit

def K1000 : Nat := 4652007308841189376
def K64000 : Nat := 4679028906605412352
def lessS (g b : Nat) : Nat := rd ((V g - V b) * U)
def prodS (p m : Nat) : Nat := rd (V p * V m * pw 1852)
def partS (t m : Int) : Nat := rd (dq (fi t) (fi m))
def greatS (b : Nat) (k : Int) : Nat := max b (prodS b (fi k))
def midS (b g : Nat) (t m : Int) : Nat := max b (lessS g (prodS (partS t m) (lessS g b)))
def waitS (b : Nat) (k t m : Int) : Nat := if t ≤ 0 then greatS b k else if m ≤ t then b else midS b (greatS b k) t m

theorem less_ok {g b : Nat} (hg : g < infR) (h : b ≤ g) : fm.sub g b = some (lessS g b) ∧ lessS g b ≤ g := sub_pos hg h
theorem less_le (g b : Nat) : lessS g b ≤ g := rd_le (Nat.mul_le_mul_right _ (Nat.sub_le _ _))
theorem less_mono {g b b' : Nat} (h : b ≤ b') : lessS g b' ≤ lessS g b := rd_mono (Nat.mul_le_mul_right _ (Nat.sub_le_sub_left (V_le h) _))
theorem prod_ok {p m : Nat} (hp : p < infR) (hm : m < infR) (h : prodS p m < infR) : fm.mul p m = some (prodS p m) := by
  have e := mul_pos hp hm
  have e2 : min (rd (V p * V m * pw 1852)) infR = prodS p m := Nat.min_eq_left (Nat.le_of_lt h)
  rw [e2] at e
  exact e
theorem prod_mono {p p' m m' : Nat} (h : p ≤ p') (h' : m ≤ m') : prodS p m ≤ prodS p' m' :=
  rd_mono (Nat.mul_le_mul_right _ (Nat.mul_le_mul (V_le h) (V_le h')))
theorem V_one : V one = pw 1074 := by
  have h := V_pow 0
  rw [Nat.pow_zero, Nat.one_mul] at h
  exact h
theorem U_1852 : pw 1074 * pw 1852 = U := pw_split 1074 1852 2926 rfl
theorem prod_one (m : Nat) : prodS one m = m := by
  unfold prodS
  rw [V_one, Nat.mul_comm (pw 1074), Nat.mul_assoc, U_1852]
  exact rd_exact m
theorem prod_le {p m : Nat} (h : p ≤ one) : prodS p m ≤ m := by
  have := prod_mono h (Nat.le_refl m)
  rwa [prod_one] at this
theorem one_lt : one < infR := by decide
theorem fi_one {t : Int} (h : 0 < t) : one ≤ fi t := le_fi t 0 (by simp; omega)
theorem fi_lt {t : Int} (h : t ≤ 9223372036854775807) : fi t < infR := Nat.lt_of_le_of_lt (fi_le t 63 (by omega)) (by decide)
theorem part_le {t m : Int} (h1 : t ≤ m) (hm : m ≤ 9223372036854775807) : partS t m ≤ one := dq_le_one (fi_mono h1) (fi_lt hm)
theorem part_ok {t m : Int} (h0 : 0 < t) (h1 : t < m) (hm : m ≤ 9223372036854775807) : fm.div (fi t) (fi m) = some (partS t m) ∧ partS t m ≤ one := by
  have hle := part_le (Int.le_of_lt h1) hm
  have hB : B ≤ one := by decide
  have e := div_pos (fi_lt (show t ≤ 9223372036854775807 by omega)) (Nat.le_trans hB (fi_one h0)) (fi_lt hm) (Nat.le_trans hB (fi_one (show 0 < m by omega)))
  have e2 : min (rd (dq (fi t) (fi m))) infR = partS t m := Nat.min_eq_left (Nat.le_trans hle (Nat.le_of_lt one_lt))
  rw [e2] at e
  exact ⟨e, hle⟩
theorem part_mono {t t' m : Int} (h : t ≤ t') (ht : t' ≤ 9223372036854775807) (hm : m ≤ 9223372036854775807) : partS t m ≤ partS t' m :=
  rd_mono (dq_mono (fi_mono h) (fi_lt ht) (fi_lt hm))

theorem V_six (d k : Nat) (h : k ≤ 2 * B) (h' : B ≤ k) : V (d * B + k) * 64 = V ((d + 6) * B + k) := by
  rw [V_at d k h (.inr h'), V_at (d + 6) k h (.inr h'), Nat.pow_add, Nat.mul_assoc]
theorem V_64 : V ((1023 + 6) * B) = 64 * pw 1074 := V_pow 6
theorem great_le {b : Nat} {k : Int} (hb : b ≤ K1000) (hk : k ≤ 64) : prodS b (fi k) ≤ K64000 := by
  have h1 := prod_mono hb (fi_le k 6 (by omega))
  have h2 : prodS K1000 ((1023 + 6) * B) = K64000 := by
    unfold prodS
    have e := V_six 1031 8796093022208000 (by decide) (by decide)
    rw [V_64, ← Nat.mul_assoc, Nat.mul_assoc _ (pw 1074), U_1852]
    have e1 : K1000 = 1031 * B + 8796093022208000 := rfl
    have e3 : (1031 + 6) * B + 8796093022208000 = K64000 := rfl
    rw [e1, e, e3]
    exact rd_exact K64000
  rwa [h2] at h1
theorem K64000_lt : K64000 < infR := by decide
theorem K1000_lt : K1000 < K64000 := by decide
theorem great_lt {b : Nat} {k : Int} (hb : b ≤ K1000) (hk : k ≤ 64) : b ≤ greatS b k ∧ greatS b k < infR := by
  have h := great_le hb hk
  have h1 := K64000_lt
  have h2 := K1000_lt
  unfold greatS
  generalize prodS b (fi k) = p at *
  omega
theorem great_mono {b : Nat} {k k' : Int} (h : k ≤ k') : greatS b k ≤ greatS b k' := by
  have h1 := prod_mono (Nat.le_refl b) (fi_mono h)
  unfold greatS
  generalize prodS b (fi k) = p at *
  generalize prodS b (fi k') = p' at *
  omega
theorem mid_held {b g : Nat} {t m : Int} (h : b ≤ g) : b ≤ midS b g t m ∧ midS b g t m ≤ g := by
  have h1 := less_le g (prodS (partS t m) (lessS g b))
  unfold midS
  generalize lessS g (prodS (partS t m) (lessS g b)) = z at *
  omega
theorem mid_mono {b g : Nat} {t t' m : Int} (h : t ≤ t') (ht : t' ≤ 9223372036854775807) (hm : m ≤ 9223372036854775807) : midS b g t' m ≤ midS b g t m := by
  have h1 := less_mono (g := g) (prod_mono (part_mono h ht hm) (Nat.le_refl (lessS g b)))
  unfold midS
  generalize lessS g (prodS (partS t m) (lessS g b)) = z at *
  generalize lessS g (prodS (partS t' m) (lessS g b)) = z' at *
  omega
/-- A wait lies between its base and its greatest; more that was told never makes it longer. -/
theorem wait_held {b : Nat} {k t m : Int} (hb : b ≤ K1000) (hk : k ≤ 64) : b ≤ waitS b k t m ∧ waitS b k t m ≤ greatS b k := by
  obtain ⟨h1, h2⟩ := great_lt hb hk
  have h3 := mid_held (t := t) (m := m) h1
  unfold waitS
  generalize greatS b k = g at *
  generalize midS b g t m = z at *
  split
  · omega
  · split
    · omega
    · exact h3
theorem wait_mono {b : Nat} {k t t' m : Int} (hb : b ≤ K1000) (hk : k ≤ 64) (h : t ≤ t') (ht : t' ≤ 9223372036854775807) (hm : m ≤ 9223372036854775807) : waitS b k t' m ≤ waitS b k t m := by
  have h4 := wait_held (t := t') (m := m) hb hk
  have h5 := wait_held (t := t) (m := m) hb hk
  have h6 := mid_mono (b := b) (g := greatS b k) h ht hm
  unfold waitS at *
  generalize greatS b k = g at *
  generalize midS b g t m = z at *
  generalize midS b g t' m = z' at *
  by_cases h1 : t ≤ 0
  · rw [if_pos h1] at *; exact h4.2
  · rw [if_neg h1] at *
    rw [if_neg (show ¬ t' ≤ 0 by omega)] at *
    by_cases h2 : m ≤ t'
    · rw [if_pos h2] at *; exact h5.1
    · rw [if_neg h2, if_neg (show ¬ m ≤ t by omega)]; exact h6

/-! ## The ops of a wait, as the walk asks -/
theorem run_max_pos {x y : Nat} (hx : x ≤ infR) (hy : y ≤ infR) (ts : Array TypeId) (t : TypeId) (w : World) : (Builtin.max_ ts t #[.float .f64 x, .float .f64 y]).run Tryz.prog w = .ok (.float .f64 (max x y)) w := by
  have hS := infR_lt_S
  have ho : FloatKind.f64.format.order x y = some (compare (x : Int) (y : Int)) := order_pos hx hy
  have hn : (FloatKind.f64.decode x).neg = false := by
    show (fm.read x).neg = false
    by_cases h : x = infR
    · rw [read_inf x (by rw [rung_pos (by omega)]; exact h)]; exact ng_pos (by omega)
    · obtain ⟨m, i, e, _⟩ := read_pos (show x < infR by omega)
      rw [e]; rfl
  simp only [Builtin.max_, List.foldlM, Builtin.max2, ho, compare_of]
  by_cases h1 : x < y
  · have : (x : Int) < y := by omega
    rw [Nat.max_eq_right (by omega)]
    simp [this]
  · have h3 : ¬ (x : Int) < y := by omega
    rw [Nat.max_eq_left (by omega)]
    by_cases h2 : (x : Int) = y
    · simp [h2, hn]
    · simp [h3, h2]
end Go.Proofs.YtpoofjnfaijjjaaGreatDoor.Do.Re
