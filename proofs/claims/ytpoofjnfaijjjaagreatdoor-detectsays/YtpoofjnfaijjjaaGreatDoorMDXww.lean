/-
  Blend, and the reference's Clean and Blend. Two comparisons above nought. Waits walked: the closure, what makes it, Wait. The reference's Bits and Wait. The reference's Ticks. More of waits: comparisons above nought, what a wait is at the ends.
-/
import Derived.Test.YtpoofjnfaijjjaaGreatDoorMDXwa
namespace Go.Proofs.YtpoofjnfaijjjaaGreatDoor.Do.Re
open Go.RowKit

theorem refClean_any (x l h : Nat) (w : World) : Calls Tryz.prog 173 #[.float .f64 x, .float .f64 l, .float .f64 h] w fun e w' => e = .returned (.float .f64 (cleanS x l h)) ∧ w' = w := by
  unfold cleanS
  have n1 := nanF x
  have n2 := nanF l
  have n3 := nanF h
  cases h1 : nan x <;> rw [h1] at n1
  case true =>
    go_enter Tryz.func173, Tryz.ntmps173
    go_wp2
    go_ret
    exact ⟨rfl, rfl⟩
  cases h2 : nan l <;> rw [h2] at n2
  case true =>
    go_enter Tryz.func173, Tryz.ntmps173
    go_wp2
    go_ret
    exact ⟨rfl, rfl⟩
  cases h3 : nan h <;> rw [h3] at n3
  case true =>
    go_enter Tryz.func173, Tryz.ntmps173
    go_wp2
    go_ret
    exact ⟨rfl, rfl⟩
  cases h4 : FloatKind.f64.format.order l h == some .gt
  case true =>
    go_enter Tryz.func173, Tryz.ntmps173
    go_wp2
    go_ret
    exact ⟨rfl, rfl⟩
  cases h5 : FloatKind.f64.format.order x l == some .lt
  case true =>
    go_enter Tryz.func173, Tryz.ntmps173
    go_wp2
    go_ret
    exact ⟨rfl, rfl⟩
  cases h6 : FloatKind.f64.format.order x h == some .gt
  case true =>
    go_enter Tryz.func173, Tryz.ntmps173
    go_wp2
    go_ret
    exact ⟨rfl, rfl⟩
  cases h7 : FloatKind.f64.format.order x 0 == some .eq
  all_goals
    go_enter Tryz.func173, Tryz.ntmps173
    go_wp2
    go_ret
    exact ⟨rfl, rfl⟩

/-- Held above nought. -/
theorem clean_pos {x h : Nat} (hx : x < 2 ^ 64) (hh : h ≤ infR) : cleanS x 0 h ≤ h := by
  have hS := infR_lt_S
  have k0 : key 0 = 0 := rfl
  have kh := key_pos (show h < S by omega)
  rw [cleanS_eq rfl (nan_pos hh) (by omega), k0]
  split
  · omega
  · split
    · omega
    · split
      · omega
      · split
        · omega
        · obtain ⟨a, _⟩ := pos_word hx (by omega)
          omega

/-! ## Sums and products of any words that are numbers -/
theorem word_rung (s : Bool) (r : Nat) (h : r ≤ infR) : nan (fm.word s r) = false := by
  have hS : S = 9223372036854775808 := rfl
  have hI : infR = 9218868437227405312 := rfl
  unfold nan rung
  cases s
  · rw [word_false, Nat.mod_eq_of_lt (by omega)]; simp; omega
  · show decide (infR < (S + r) % S) = false
    rw [Nat.add_mod_left, Nat.mod_eq_of_lt (by omega)]; simp; omega
theorem write_num (s : Bool) (m : Nat) (i : Int) : nan (fm.write (.number s m i)) = false := by
  show nan (fm.nearest s m i) = false
  rw [nearest_R]; exact word_rung _ _ (Nat.min_le_right _ _)
theorem write_inf (s : Bool) : nan (fm.write (.infinity s)) = false := by
  show nan (fm.word s fm.infRung) = false
  rw [fm_inf]; exact word_rung _ _ (Nat.le_refl _)

theorem read_kind {x : Nat} (h : nan x = false) : (∃ s m i, fm.read x = .number s m i) ∨ ∃ s, fm.read x = .infinity s := by
  unfold nan at h; simp at h
  by_cases e : rung x = infR
  · exact .inr ⟨_, read_inf x e⟩
  · obtain ⟨m, i, e, _⟩ := read_num x (by omega)
    exact .inl ⟨_, m, i, e⟩

/-- A product with what is above nought. -/
theorem mul_some {p x : Nat} (hp : 0 < p) (hp' : p < infR) (hx : nan x = false) : ∃ a, fm.mul p x = some a ∧ nan a = false := by
  obtain ⟨m, i, e, _, _, _, v, _⟩ := read_pos hp'
  have hm : m ≠ 0 := fun h => by
    rw [h, Nat.zero_mul] at v
    have := V_lt hp
    rw [V_zero] at this
    omega
  unfold Ieee.Format.mul
  rw [e]
  rcases read_kind hx with ⟨s, n, j, e'⟩ | ⟨s, e'⟩
  · rw [e']; exact ⟨_, rfl, write_num _ _ _⟩
  · rw [e']
    simp only [Ieee.Datum.product]
    rw [if_neg hm]; exact ⟨_, rfl, write_inf _⟩
theorem add_kind {a b : Nat} (ha : nan a = false) (hb : nan b = false) : (∃ s, fm.add a b = some s ∧ nan s = false) ∨ fm.add a b = none := by
  unfold Ieee.Format.add
  rcases read_kind ha with ⟨s, n, j, e⟩ | ⟨s, e⟩ <;> rcases read_kind hb with ⟨t, n', j', e'⟩ | ⟨t, e'⟩ <;> rw [e, e']
  · exact .inl ⟨_, rfl, write_num _ _ _⟩
  · exact .inl ⟨_, rfl, write_inf _⟩
  · exact .inl ⟨_, rfl, write_inf _⟩
  · simp only [Ieee.Datum.sum]
    by_cases h : s = t
    · rw [if_pos h]; exact .inl ⟨_, rfl, write_inf _⟩
    · rw [if_neg h]; exact .inr rfl

/-- What a sum of infinities of both signs is: no number, of bits that are drawn. -/
def nb (w : World) (a b : Nat) : Nat := (Question.nanBits .f64 a b).cut (w.tape w.drawn (.nanBits .f64 a b))
theorem nb_nan (w : World) (a b : Nat) : nan (nb w a b) = true := by
  unfold nb Question.cut nan rung S infR
  generalize w.tape w.drawn _ = t
  simp only [decide_eq_true_iff]
  have h1 : t / 2 % (2 ^ 52 - 1) < 2 ^ 52 - 1 := Nat.mod_lt _ (by decide)
  generalize t / 2 % (2 ^ 52 - 1) = u at *
  have h2 : t % 2 < 2 := Nat.mod_lt _ (by decide)
  omega
theorem add_none {a b : Nat} (h : fm.add a b = none) (w : World) : (binOp .add 174 (.float .f64 a) (.float .f64 b)).run Tryz.prog w = .ok (.float .f64 (nb w a b)) w.drew := by
  have h' : FloatKind.f64.format.add a b = none := h
  simp [binOp, Op.floatArith, h', nb, Question.forced]
theorem add_ok {a b s : Nat} (h : fm.add a b = some s) (w : World) : (binOp .add 174 (.float .f64 a) (.float .f64 b)).run Tryz.prog w = .ok (.float .f64 s) w := run_float_arith w .add 174 .f64 a b s h
theorem mul_ok {a b s : Nat} (h : fm.mul a b = some s) (w : World) : (binOp .mul 174 (.float .f64 a) (.float .f64 b)).run Tryz.prog w = .ok (.float .f64 s) w := run_float_arith w .mul 174 .f64 a b s h
theorem sub_ok {a b s : Nat} (h : fm.sub a b = some s) (w : World) : (binOp .sub 174 (.float .f64 a) (.float .f64 b)).run Tryz.prog w = .ok (.float .f64 s) w := run_float_arith w .sub 174 .f64 a b s h
theorem div_ok {a b s : Nat} (h : fm.div a b = some s) (w : World) : (binOp .quo 174 (.float .f64 a) (.float .f64 b)).run Tryz.prog w = .ok (.float .f64 s) w := run_float_arith w .quo 174 .f64 a b s h

/-- What is between, by a part. -/
def blendM (p x old : Nat) : Nat := ((fm.mul p x).bind fun a => (fm.sub one p).bind fun q => (fm.mul q old).bind fun b => fm.add a b).getD 0
def blendS (old x part : Nat) : Nat :=
  if nan x then old else if nan old then x else if cleanS part 0 one = one then x else if cleanS part 0 one = 0 then old else blendM (cleanS part 0 one) x old

theorem V_one_le {p q : Nat} (h : p < q) : V 1 ≤ V q - V p := by
  have h1 := V_lt h
  have h2 : V 1 = 1 := rfl
  rw [h2]
  exact Nat.sub_pos_of_lt h1
theorem sub_one {p : Nat} (h1 : p < one) : ∃ q, fm.sub one p = some q ∧ q ≤ one ∧ 1 ≤ q := by
  have hI : one < infR := by decide
  obtain ⟨eq, hq⟩ := sub_pos hI (Nat.le_of_lt h1)
  exact ⟨_, eq, hq, le_rd (Nat.mul_le_mul_right U (V_one_le h1))⟩
/-- The ways in the midst. -/
theorem blend_mid {p x old : Nat} (h0 : 0 < p) (h1 : p < one) (nx : nan x = false) (no : nan old = false) :
    ∃ a q b, fm.mul p x = some a ∧ fm.sub one p = some q ∧ fm.mul q old = some b ∧ ((∃ s, fm.add a b = some s ∧ nan s = false ∧ blendM p x old = s) ∨ (fm.add a b = none ∧ blendM p x old = 0)) := by
  have hI : one < infR := by decide
  obtain ⟨a, ea, na⟩ := mul_some h0 (by omega) nx
  obtain ⟨q, eq, hq, hq0⟩ := sub_one h1
  obtain ⟨b, eb, nb'⟩ := mul_some hq0 (by omega) no
  refine ⟨a, q, b, ea, eq, eb, ?_⟩
  unfold blendM
  rw [ea, eq]
  simp only [Option.bind_some]
  rw [eb]
  simp only [Option.bind_some]
  rcases add_kind na nb' with ⟨s, es, ns⟩ | es
  · exact .inl ⟨s, es, ns, by rw [es]; rfl⟩
  · exact .inr ⟨es, by rw [es]; rfl⟩
end Go.Proofs.YtpoofjnfaijjjaaGreatDoor.Do.Re
namespace Go.Proofs.YtpoofjnfaijjjaaGreatDoor.Do.Re
open Go.RowKit

theorem eq_pos {x y : Nat} (hx : x ≤ infR) (hy : y ≤ infR) : (FloatKind.f64.format.order x y == some .eq) = decide (x = y) := by
  have hS := infR_lt_S
  rw [eqF, nan_pos hx, nan_pos hy, key_pos (by omega), key_pos (by omega), Bool.eq_iff_iff]
  simp; omega
theorem lt_pos {x y : Nat} (hx : x ≤ infR) (hy : y ≤ infR) : (FloatKind.f64.format.order x y == some .lt) = decide (x < y) := by
  have hS := infR_lt_S
  rw [ltF, nan_pos hx, nan_pos hy, key_pos (by omega), key_pos (by omega), Bool.eq_iff_iff]
  simp

end Go.Proofs.YtpoofjnfaijjjaaGreatDoor.Do.Re
namespace Go.Proofs.YtpoofjnfaijjjaaGreatDoor.Do.Re
open Go.RowKit

set_option maxHeartbeats 1000000 in
theorem closure_any (t m : Int) (b g pg pb pm : Nat) (hb : b ≤ g) (hg : g < infR) (h0 : 0 < t) (h1 : t < m) (hm : m ≤ 9223372036854775807) (w : World)
    (cg : w.cell? ⟨pg, 0, none⟩ = some (.float .f64 g)) (cb : w.cell? ⟨pb, 0, none⟩ = some (.float .f64 b)) (cm : w.cell? ⟨pm, 0, none⟩ = some (.float .f64 (lessS g b))) :
    Calls Tryz.prog 219 #[.int .i64 t, .int .i64 m, .pointer (some ⟨pg, 0, none⟩), .pointer (some ⟨pb, 0, none⟩), .pointer (some ⟨pm, 0, none⟩)] w fun e w' => e = .returned (.float .f64 (midS b g t m)) ∧ w' = w := by
  obtain ⟨ep, hp⟩ := part_ok h0 h1 hm
  have f1 := floatOfInt_eq t (by omega) (by omega)
  have f2 := floatOfInt_eq m (by omega) (by omega)
  have o1 := div_ok ep
  have hl := less_le g b
  have hq := prod_le (p := partS t m) (m := lessS g b) hp
  have o2 := mul_ok (prod_ok (p := partS t m) (m := lessS g b) (Nat.lt_of_le_of_lt hp one_lt) (by omega) (by omega))
  obtain ⟨e3, h3⟩ := less_ok (b := prodS (partS t m) (lessS g b)) hg (by omega)
  have o3 := sub_ok e3
  have o4 := run_max_pos (x := b) (y := lessS g (prodS (partS t m) (lessS g b))) (by omega) (by omega)
  unfold midS
  generalize max b (lessS g (prodS (partS t m) (lessS g b))) = r at *
  generalize lessS g (prodS (partS t m) (lessS g b)) = z at *
  generalize prodS (partS t m) (lessS g b) = q at *
  generalize partS t m = p at *
  generalize lessS g b = d at *
  generalize fi t = ft at *
  generalize fi m = fm' at *
  clear hp hl hq h3 ep e3 hb hg hm
  have t0 : ¬ t ≤ 0 := by omega
  have t1 : ¬ m ≤ t := by omega
  go_enter Tryz.func219, Tryz.ntmps219
  go_wp2
  go_ret
  exact ⟨rfl, rfl⟩

theorem closure_all (t m : Int) (b g pg pb pm : Nat) (hb : b ≤ g) (hg : g < infR) (hm : m ≤ 9223372036854775807) (w : World)
    (cg : w.cell? ⟨pg, 0, none⟩ = some (.float .f64 g)) (cb : w.cell? ⟨pb, 0, none⟩ = some (.float .f64 b)) (cm : w.cell? ⟨pm, 0, none⟩ = some (.float .f64 (lessS g b))) :
    Calls Tryz.prog 219 #[.int .i64 t, .int .i64 m, .pointer (some ⟨pg, 0, none⟩), .pointer (some ⟨pb, 0, none⟩), .pointer (some ⟨pm, 0, none⟩)] w fun e w' => e = .returned (.float .f64 (if t ≤ 0 then g else if m ≤ t then b else midS b g t m)) ∧ w' = w := by
  by_cases h0 : t ≤ 0
  · rw [if_pos h0]
    clear cm cb
    go_enter Tryz.func219, Tryz.ntmps219
    go_wp2
    go_ret
    exact ⟨rfl, rfl⟩
  rw [if_neg h0]
  by_cases h1 : m ≤ t
  · rw [if_pos h1]
    clear cm cg
    go_enter Tryz.func219, Tryz.ntmps219
    go_wp2
    go_ret
    exact ⟨rfl, rfl⟩
  rw [if_neg h1]
  exact closure_any t m b g pg pb pm hb hg (by omega) (by omega) hm w cg cb cm

theorem cell_new (w : World) (v : Value) (t : TypeId) : (w.alloc (.cells #[v] t)).cell? ⟨w.heap.size, 0, none⟩ = some v := by
  have h : (w.alloc (.cells #[v] t)).heap[w.heap.size]? = some (.cells #[v] t) := by
    show (w.heap.push _)[w.heap.size]? = _; simp
  unfold World.cell?
  rw [h]; rfl

theorem waits_any (b g : Nat) (hb : b ≤ g) (hg : g < infR) (w : World) :
    Calls Tryz.prog 199 #[.float .f64 b, .float .f64 g] w fun e w' => e = .returned (.func (.func 219) #[] #[.pointer (some ⟨w.heap.size + 1, 0, none⟩), .pointer (some ⟨w.heap.size, 0, none⟩), .pointer (some ⟨w.heap.size + 2, 0, none⟩)]) ∧ Below w.heap.size w w' ∧
      w'.cell? ⟨w.heap.size + 1, 0, none⟩ = some (.float .f64 g) ∧ w'.cell? ⟨w.heap.size, 0, none⟩ = some (.float .f64 b) ∧ w'.cell? ⟨w.heap.size + 2, 0, none⟩ = some (.float .f64 (lessS g b)) := by
  obtain ⟨e1, _⟩ := less_ok hg hb
  have o1 := sub_ok e1
  clear e1 hb hg
  generalize lessS g b = d at *
  have hst := fun a x w m => run_store Tryz.prog w a (.float .f64 x) m rfl
  go_enter Tryz.func199, Tryz.ntmps199
  go_wp2
  go_ret
  refine ⟨rfl, (((Below.refl _ _).alloc (by simp) _).alloc (by simp) _).alloc (by simp; omega) _, ?_, ?_, ?_⟩
  · refine Go.Lib.cell?_alloc_some _ ?_
    have h := cell_new (w.alloc (Obj.cells #[Value.float FloatKind.f64 b] 174)) (Value.float FloatKind.f64 g) 174
    rw [show (w.alloc (Obj.cells #[Value.float FloatKind.f64 b] 174)).heap.size = w.heap.size + 1 by simp] at h
    exact h
  · refine Go.Lib.cell?_alloc_some _ (Go.Lib.cell?_alloc_some _ ?_)
    simp
  · have h := cell_new ((w.alloc (Obj.cells #[Value.float FloatKind.f64 b] 174)).alloc (Obj.cells #[Value.float FloatKind.f64 g] 174)) (Value.float FloatKind.f64 d) 174
    rw [show ((w.alloc (Obj.cells #[Value.float FloatKind.f64 b] 174)).alloc (Obj.cells #[Value.float FloatKind.f64 g] 174)).heap.size = w.heap.size + 2 by simp] at h
    exact h

set_option maxHeartbeats 1000000 in
theorem wait_any (base : Nat) (n t m : Int) (HB : Hid (base < 2 ^ 64)) (hn : -9223372036854775808 ≤ n ∧ n ≤ 9223372036854775807) (hm : m ≤ 9223372036854775807) (w : World) :
    Calls Tryz.prog 166 #[.float .f64 base, .int .i64 n, .int .i64 t, .int .i64 m] w fun e w' => e = .returned (.float .f64 (waitS (cleanS base 0 K1000) (bitsS n) t m)) ∧ Below w.heap.size w w' := by
  have hK : K1000 < infR := by decide
  have hb : cleanS base 0 K1000 ≤ K1000 := clean_pos HB.out (Nat.le_of_lt hK)
  have c0 := fun w => clean_any base 0 K1000 w
  have c1 := fun w => bits_any n w hn
  have hk : 0 ≤ bitsS n ∧ bitsS n ≤ 64 := by
    unfold bitsS
    split
    · omega
    · have := Lib.bitLen_le n.toNat 64 (by omega) (by omega)
      omega
  generalize cleanS base 0 K1000 = b at *
  generalize bitsS n = k at *
  obtain ⟨h1, h2⟩ := great_lt hb hk.2
  have h3 := great_le hb hk.2
  have f1 := floatOfInt_eq k hk.1 (by omega)
  have o1 := mul_ok (prod_ok (p := b) (m := fi k) (by omega) (Nat.lt_of_le_of_lt (fi_le k 6 (by omega)) (by decide)) (Nat.lt_of_le_of_lt h3 K64000_lt))
  have o2 := run_max_pos (x := b) (y := prodS b (fi k)) (by omega) (Nat.le_of_lt (Nat.lt_of_le_of_lt h3 K64000_lt))
  rw [show max b (prodS b (fi k)) = greatS b k from rfl] at o2
  unfold waitS
  generalize greatS b k = g at *
  generalize prodS b (fi k) = p at *
  generalize fi k = fk at *
  rw [show K1000 = 4652007308841189376 from rfl] at c0
  clear hb hk h3
  have c2 := fun w => waits_any b g h1 h2 w
  have c3 := fun pg pb pm w cg cb cm => closure_all t m b g pg pb pm h1 h2 hm w cg cb cm
  clear h1 h2 hK
  generalize (if t ≤ 0 then g else if m ≤ t then b else midS b g t m) = r at *
  go_enter Tryz.func166, Tryz.ntmps166
  go_wp2_with (first
    | (go_at_call 197; refine (c0 _).mono ?_; rintro e w' ⟨rfl, rfl⟩)
    | (go_at_call 198; refine (c1 _).mono ?_; rintro e w' ⟨rfl, rfl⟩))
  refine (c2 _).mono ?_
  rintro e w1 ⟨rfl, b1, cg, cb, cm⟩
  go_wp2_with fail
  refine (c3 _ _ _ _ cg cb cm).mono ?_
  rintro e w2 ⟨rfl, rfl⟩
  go_wp2
  go_ret
  exact ⟨rfl, b1⟩
end Go.Proofs.YtpoofjnfaijjjaaGreatDoor.Do.Re
namespace Go.Proofs.YtpoofjnfaijjjaaGreatDoor.Do.Re
open Go.RowKit

theorem bits_half {n : Int} (h0 : 0 < n) (h : n ≤ 9223372036854775807) : bitsS n = 1 + bitsS (n / 2) := by
  unfold bitsS
  rw [if_neg (by omega), if_neg (by omega), Lib.bitLen_half n.toNat (by omega) (by omega), show (n / 2).toNat = n.toNat / 2 by omega]
  omega
theorem bits_range (n : Int) (h : n ≤ 9223372036854775807) : 0 ≤ bitsS n ∧ bitsS n ≤ 64 := by
  unfold bitsS
  split
  · omega
  · have := Lib.bitLen_le n.toNat 64 (by omega) (by omega)
    omega
theorem bits_none {n : Int} (h : n ≤ 0) : bitsS n = 0 := by
  unfold bitsS
  split
  · rfl
  · rw [show n.toNat = 0 by omega]; rfl

theorem refBits_any (n : Int) (w : World) (h : -9223372036854775808 ≤ n ∧ n ≤ 9223372036854775807) : Calls Tryz.prog 174 #[.int .i64 n] w fun e w' => e = .returned (.int .i64 (bitsS n)) ∧ w' = w := by
  have hr := bits_range n h.2
  generalize hB : bitsS n = r at *
  have HB : Hid (bitsS n = r) := hB
  clear hB
  have hn1 := h.1
  have hn2 := h.2
  go_enter Tryz.func174, Tryz.ntmps174
  go_wp2_with fail
  go_loopg [0, 3] 64 (fun gk t0 t3 wr => wr = w ∧ ∃ (v k : Int), t0 = .int .i64 v ∧ t3 = .int .i64 k ∧ -9223372036854775808 ≤ v ∧ v ≤ 9223372036854775807 ∧ 0 ≤ k ∧ k ≤ 64 ∧ r = k + bitsS v ∧ bitsS v ≤ gk)
  case atStart => exact ⟨rfl, n, 0, rfl, rfl, hn1, hn2, by omega, by omega, by rw [HB.out]; omega, by rw [HB.out]; omega⟩
  case round =>
    obtain ⟨rfl, v, k, rfl, rfl, hv1, hv2, hk1, hk2, he, hg⟩ := hrel
    by_cases hv : 0 < v
    · have hh := bits_half hv hv2
      have hr2 := bits_range (v / 2) (by omega)
      have HH : Hid (bitsS v = 1 + bitsS (v / 2)) := hh
      have HE : Hid (r = k + bitsS v) := he
      have HG : Hid (bitsS v ≤ gk) := hg
      have HR : Hid (0 ≤ bitsS (v / 2) ∧ bitsS (v / 2) ≤ 64) := hr2
      have hk3 : k ≤ 63 := by omega
      clear he hh hg hr2
      go_wp2_with fail
      go_roundg (gk - 1)
      case rel =>
        have a1 := HH.out
        have a2 := HE.out
        have a3 := HG.out
        have a4 := HR.out
        refine ⟨rfl, v / 2, k + 1, rfl, rfl, by omega, by omega, by omega, by omega, by omega, by omega⟩
      case measure =>
        have a1 := HH.out
        have a3 := HG.out
        have a4 := HR.out
        omega
    · have hz := bits_none (show v ≤ 0 by omega)
      have hkr : k = r := by omega
      subst hkr
      clear he hg hz
      go_wp2_with fail
      go_ret
      exact ⟨rfl, rfl⟩

set_option maxHeartbeats 1000000 in
theorem refWait_any (base : Nat) (n t m : Int) (HB : Hid (base < 2 ^ 64)) (hn : -9223372036854775808 ≤ n ∧ n ≤ 9223372036854775807) (hm : m ≤ 9223372036854775807) (w : World) :
    Calls Tryz.prog 141 #[.float .f64 base, .int .i64 n, .int .i64 t, .int .i64 m] w fun e w' => e = .returned (.float .f64 (waitS (cleanS base 0 K1000) (bitsS n) t m)) ∧ w' = w := by
  have hK : K1000 < infR := by decide
  have hb : cleanS base 0 K1000 ≤ K1000 := clean_pos HB.out (Nat.le_of_lt hK)
  have c0 := fun w => refClean_any base 0 K1000 w
  have c1 := fun w => refBits_any n w hn
  have hk := bits_range n hn.2
  generalize cleanS base 0 K1000 = b at *
  generalize bitsS n = k at *
  obtain ⟨h1, h2⟩ := great_lt hb hk.2
  have h3 := great_le hb hk.2
  have f1 := floatOfInt_eq k hk.1 (by omega)
  have hp : prodS b (fi k) < infR := Nat.lt_of_le_of_lt h3 K64000_lt
  have o1 := mul_ok (prod_ok (p := b) (m := fi k) (by omega) (Nat.lt_of_le_of_lt (fi_le k 6 (by omega)) (by decide)) hp)
  have hg : greatS b k = max b (prodS b (fi k)) := rfl
  have ol := lt_pos (x := prodS b (fi k)) (y := b) (by omega) (by omega)
  rw [show K1000 = 4652007308841189376 from rfl] at c0
  unfold waitS
  generalize prodS b (fi k) = p at *
  generalize fi k = fk at *
  generalize greatS b k = g at *
  clear hb hk h3 hK
  by_cases t0 : t ≤ 0
  · rw [if_pos t0]
    by_cases hlt : p < b
    · rw [decide_eq_true hlt] at ol
      have e : g = b := by omega
      subst e
      clear hg h1 h2 hp hlt
      go_enter Tryz.func141, Tryz.ntmps141
      go_wp2_with (first
      | (go_at_call 173; refine (c0 _).mono ?_; rintro e w' ⟨rfl, rfl⟩)
      | (go_at_call 174; refine (c1 _).mono ?_; rintro e w' ⟨rfl, rfl⟩))
      go_ret
      exact ⟨rfl, rfl⟩
    · rw [decide_eq_false hlt] at ol
      have e : g = p := by omega
      subst e
      clear hg h1 h2 hp hlt
      go_enter Tryz.func141, Tryz.ntmps141
      go_wp2_with (first
      | (go_at_call 173; refine (c0 _).mono ?_; rintro e w' ⟨rfl, rfl⟩)
      | (go_at_call 174; refine (c1 _).mono ?_; rintro e w' ⟨rfl, rfl⟩))
      go_ret
      exact ⟨rfl, rfl⟩
  rw [if_neg t0]
  by_cases t1 : m ≤ t
  · rw [if_pos t1]
    by_cases t2 : m < 1
    · by_cases hlt : p < b
      · rw [decide_eq_true hlt] at ol
        clear hg h1 h2 hp hlt
        go_enter Tryz.func141, Tryz.ntmps141
        go_wp2_with (first
      | (go_at_call 173; refine (c0 _).mono ?_; rintro e w' ⟨rfl, rfl⟩)
      | (go_at_call 174; refine (c1 _).mono ?_; rintro e w' ⟨rfl, rfl⟩))
        go_ret
        exact ⟨rfl, rfl⟩
      · rw [decide_eq_false hlt] at ol
        clear hg h1 h2 hp hlt
        go_enter Tryz.func141, Tryz.ntmps141
        go_wp2_with (first
      | (go_at_call 173; refine (c0 _).mono ?_; rintro e w' ⟨rfl, rfl⟩)
      | (go_at_call 174; refine (c1 _).mono ?_; rintro e w' ⟨rfl, rfl⟩))
        go_ret
        exact ⟨rfl, rfl⟩
    · by_cases hlt : p < b
      · rw [decide_eq_true hlt] at ol
        clear hg h1 h2 hp hlt
        go_enter Tryz.func141, Tryz.ntmps141
        go_wp2_with (first
      | (go_at_call 173; refine (c0 _).mono ?_; rintro e w' ⟨rfl, rfl⟩)
      | (go_at_call 174; refine (c1 _).mono ?_; rintro e w' ⟨rfl, rfl⟩))
        go_ret
        exact ⟨rfl, rfl⟩
      · rw [decide_eq_false hlt] at ol
        clear hg h1 h2 hp hlt
        go_enter Tryz.func141, Tryz.ntmps141
        go_wp2_with (first
      | (go_at_call 173; refine (c0 _).mono ?_; rintro e w' ⟨rfl, rfl⟩)
      | (go_at_call 174; refine (c1 _).mono ?_; rintro e w' ⟨rfl, rfl⟩))
        go_ret
        exact ⟨rfl, rfl⟩
  rw [if_neg t1]
  have t2 : ¬ m < 1 := by omega
  obtain ⟨ep, hpl⟩ := part_ok (t := t) (m := m) (by omega) (by omega) hm
  have f3 := floatOfInt_eq t (by omega) (by omega)
  have f4 := floatOfInt_eq m (by omega) (by omega)
  have o3 := div_ok ep
  have hl := less_le g b
  have o4 := sub_ok (less_ok h2 h1).1
  have hq := prod_le (p := partS t m) (m := lessS g b) hpl
  have o5 := mul_ok (prod_ok (p := partS t m) (m := lessS g b) (Nat.lt_of_le_of_lt hpl one_lt) (by omega) (by omega))
  obtain ⟨e6, h6⟩ := less_ok (b := prodS (partS t m) (lessS g b)) h2 (by omega)
  have o6 := sub_ok e6
  have o7 := lt_pos (x := lessS g (prodS (partS t m) (lessS g b))) (y := b) (by omega) (by omega)
  unfold midS
  generalize lessS g (prodS (partS t m) (lessS g b)) = z at *
  generalize prodS (partS t m) (lessS g b) = q at *
  generalize partS t m = pt at *
  generalize lessS g b = d at *
  generalize fi t = ft at *
  generalize fi m = fm' at *
  clear hpl hl hq h6 ep e6
  by_cases hz : z < b
  · rw [decide_eq_true hz] at o7
    rw [Nat.max_eq_left (Nat.le_of_lt hz)]
    by_cases hlt : p < b
    · rw [decide_eq_true hlt] at ol
      have e : g = b := by omega
      subst e
      clear hg h1 h2 hp hlt hz hm
      go_enter Tryz.func141, Tryz.ntmps141
      go_wp2_with (first
      | (go_at_call 173; refine (c0 _).mono ?_; rintro e w' ⟨rfl, rfl⟩)
      | (go_at_call 174; refine (c1 _).mono ?_; rintro e w' ⟨rfl, rfl⟩))
      go_ret
      exact ⟨rfl, rfl⟩
    · rw [decide_eq_false hlt] at ol
      have e : g = p := by omega
      subst e
      clear hg h1 h2 hp hlt hz hm
      go_enter Tryz.func141, Tryz.ntmps141
      go_wp2_with (first
      | (go_at_call 173; refine (c0 _).mono ?_; rintro e w' ⟨rfl, rfl⟩)
      | (go_at_call 174; refine (c1 _).mono ?_; rintro e w' ⟨rfl, rfl⟩))
      go_ret
      exact ⟨rfl, rfl⟩
  · rw [decide_eq_false hz] at o7
    rw [Nat.max_eq_right (by omega)]
    by_cases hlt : p < b
    · rw [decide_eq_true hlt] at ol
      have e : g = b := by omega
      subst e
      clear hg h1 h2 hp hlt hz hm
      go_enter Tryz.func141, Tryz.ntmps141
      go_wp2_with (first
      | (go_at_call 173; refine (c0 _).mono ?_; rintro e w' ⟨rfl, rfl⟩)
      | (go_at_call 174; refine (c1 _).mono ?_; rintro e w' ⟨rfl, rfl⟩))
      go_ret
      exact ⟨rfl, rfl⟩
    · rw [decide_eq_false hlt] at ol
      have e : g = p := by omega
      subst e
      clear hg h1 h2 hp hlt hz hm
      go_enter Tryz.func141, Tryz.ntmps141
      go_wp2_with (first
      | (go_at_call 173; refine (c0 _).mono ?_; rintro e w' ⟨rfl, rfl⟩)
      | (go_at_call 174; refine (c1 _).mono ?_; rintro e w' ⟨rfl, rfl⟩))
      go_ret
      exact ⟨rfl, rfl⟩
end Go.Proofs.YtpoofjnfaijjjaaGreatDoor.Do.Re
namespace Go.Proofs.YtpoofjnfaijjjaaGreatDoor.Do.Re
open Go.RowKit

theorem flo_K40 {x : Nat} (h : x ≤ K40) : flo x ≤ 1099511627776 := by
  have h1 := cei_K40 h
  rw [cei_flo] at h1
  split at h1
  · exact Nat.le_of_succ_le h1
  · exact h1
theorem lt_flo {x : Nat} (h : x ≤ K40) : (FloatKind.f64.format.order (floatOfInt .f64 (flo x)) x == some .lt) = decide (flo x * pw 1074 < V x) := by
  have hf := flo_K40 h
  have hK : K40 < infR := by decide
  rw [floatOfInt_eq _ (Int.natCast_nonneg _) (Int.lt_of_le_of_lt (Int.ofNat_le.2 hf) (by decide)), lt_pos (Nat.le_of_lt (flo_fi (flo x) hf).2) (by omega), Bool.eq_iff_iff, decide_eq_true_iff, decide_eq_true_iff]
  have e : V (fi (flo x)) = flo x * pw 1074 := by
    have := V_fi (flo x) (Int.natCast_nonneg _) (Int.lt_of_le_of_lt (Int.ofNat_le.2 hf) (by decide))
    rwa [Int.toNat_natCast] at this
  rw [← e]
  exact ⟨V_lt, lt_of_V⟩

theorem refTicks_any (x : Nat) (w : World) (hx : Hid (x < 2 ^ 64)) : Calls Tryz.prog 140 #[.float .f64 x] w fun e w' => e = .returned (.int .u64 (ticksS x : Int)) ∧ w' = w := by
  unfold ticksS
  have l0 := leF x 0
  have gK := geF x K40
  have hn := nanF x
  rw [show nan 0 = false from rfl, show key 0 = 0 from rfl] at l0
  rw [show nan K40 = false from rfl, show key K40 = K40 from rfl] at gK
  cases h1 : nan x <;> rw [h1] at hn
  case true =>
    go_enter Tryz.func140, Tryz.ntmps140
    go_wp2
    go_ret
    exact ⟨rfl, rfl⟩
  rw [h1] at l0 gK
  simp only [Bool.not_false, Bool.true_and] at l0 gK
  by_cases h2 : key x ≤ 0
  · rw [decide_eq_true h2] at l0
    rw [if_pos h2]
    go_enter Tryz.func140, Tryz.ntmps140
    go_wp2
    go_ret
    exact ⟨rfl, rfl⟩
  rw [decide_eq_false h2] at l0
  rw [if_neg h2]
  by_cases h3 : (K40 : Int) ≤ key x
  · rw [decide_eq_true h3] at gK
    rw [if_pos h3]
    unfold K40 at gK
    go_enter Tryz.func140, Tryz.ntmps140
    go_wp2
    go_ret
    exact ⟨rfl, rfl⟩
  rw [decide_eq_false h3] at gK
  rw [if_neg h3]
  obtain ⟨e, hS⟩ := pos_word hx.out (show 0 < key x by omega)
  have hle : x ≤ K40 := by omega
  have hI : K40 < infR := by decide
  have hf := flo_K40 hle
  have hcv := conv_u64 x (by omega) (by omega)
  have hlt := lt_flo hle
  have hc := cei_flo x
  clear e hS hle h2 h3
  unfold K40 at gK
  by_cases hq : flo x * pw 1074 < V x
  · rw [decide_eq_true hq] at hlt
    rw [if_pos hq] at hc
    rw [hc]
    clear hq hc
    generalize flo x = n at *
    go_enter Tryz.func140, Tryz.ntmps140
    go_wp2
    go_ret
    exact ⟨rfl, rfl⟩
  · rw [decide_eq_false hq] at hlt
    rw [if_neg hq] at hc
    rw [hc]
    clear hq hc
    generalize flo x = n at *
    go_enter Tryz.func140, Tryz.ntmps140
    go_wp2
    go_ret
    exact ⟨rfl, rfl⟩

end Go.Proofs.YtpoofjnfaijjjaaGreatDoor.Do.Re
namespace Go.Proofs.YtpoofjnfaijjjaaGreatDoor.Do.Re
open Go.RowKit

/-! ## Comparisons above nought -/
theorem le_pos {x y : Nat} (hx : x ≤ infR) (hy : y ≤ infR) (h : x ≤ y) : (FloatKind.f64.format.order x y == some .lt || FloatKind.f64.format.order x y == some .eq) = true := by
  have hS := infR_lt_S
  rw [leF, nan_pos hx, nan_pos hy, key_pos (by omega), key_pos (by omega)]
  simp; omega
theorem ge_pos {x y : Nat} (hx : x ≤ infR) (hy : y ≤ infR) (h : y ≤ x) : (FloatKind.f64.format.order x y == some .gt || FloatKind.f64.format.order x y == some .eq) = true := by
  have hS := infR_lt_S
  rw [geF, nan_pos hx, nan_pos hy, key_pos (by omega), key_pos (by omega)]
  simp; omega
theorem same_pos {x : Nat} (hx : x ≤ infR) : (FloatKind.f64.format.order x x == some .eq) = true := by rw [eqF, nan_pos hx]; simp

theorem wait_none (b : Nat) (k m : Int) : waitS b k 0 m = greatS b k := by unfold waitS; rw [if_pos (Int.le_refl 0)]
theorem wait_zero (k m : Int) : waitS 0 k 0 m = 0 := by
  rw [wait_none]
  unfold greatS prodS
  rw [V_zero, Nat.zero_mul, Nat.zero_mul, show rd 0 = 0 from rfl]
  rfl
theorem wait_full {b : Nat} {k t m : Int} (h0 : 0 < t) (h : m ≤ t) : waitS b k t m = b := by
  unfold waitS
  rw [if_neg (by omega), if_pos h]
theorem wait_less {b : Nat} {k t m : Int} (h0 : t ≤ 0) : waitS b k t m = greatS b k := by
  unfold waitS
  rw [if_pos h0]
theorem clean_none {base : Nat} (h : (FloatKind.f64.format.order base 0 == some .gt) = false) : cleanS base 0 K1000 = 0 := by
  have k0 : key 0 = 0 := rfl
  have n0 : nan 0 = false := rfl
  have hk : key 0 ≤ key K1000 := by decide
  rw [gtF, n0, k0] at h
  rw [cleanS_eq n0 (by decide) hk, k0]
  cases nx : nan base
  · rw [nx] at h
    simp at h
    simp only [Bool.false_eq_true, if_false]
    split
    · rfl
    · rw [if_neg (by omega), if_pos (by omega)]
  · rfl

end Go.Proofs.YtpoofjnfaijjjaaGreatDoor.Do.Re
