/-
  Blend, and the reference's Clean and Blend.
-/
import Derived.Test.YtahiiieifdhgeaaXcl
namespace Go.Proofs.Ytahiiieifdhgeaa.Re
open Go.RowKit

theorem refClean_any (x l h : Nat) (w : World) : Calls Try.prog 44 #[.float .f64 x, .float .f64 l, .float .f64 h] w fun e w' => e = .returned (.float .f64 (cleanS x l h)) ∧ w' = w := by
  unfold cleanS
  have n1 := nanF x
  have n2 := nanF l
  have n3 := nanF h
  cases h1 : nan x <;> rw [h1] at n1
  case true =>
    go_enter Try.func44, Try.ntmps44
    go_wp2
    go_ret
    exact ⟨rfl, rfl⟩
  cases h2 : nan l <;> rw [h2] at n2
  case true =>
    go_enter Try.func44, Try.ntmps44
    go_wp2
    go_ret
    exact ⟨rfl, rfl⟩
  cases h3 : nan h <;> rw [h3] at n3
  case true =>
    go_enter Try.func44, Try.ntmps44
    go_wp2
    go_ret
    exact ⟨rfl, rfl⟩
  cases h4 : FloatKind.f64.format.order l h == some .gt
  case true =>
    go_enter Try.func44, Try.ntmps44
    go_wp2
    go_ret
    exact ⟨rfl, rfl⟩
  cases h5 : FloatKind.f64.format.order x l == some .lt
  case true =>
    go_enter Try.func44, Try.ntmps44
    go_wp2
    go_ret
    exact ⟨rfl, rfl⟩
  cases h6 : FloatKind.f64.format.order x h == some .gt
  case true =>
    go_enter Try.func44, Try.ntmps44
    go_wp2
    go_ret
    exact ⟨rfl, rfl⟩
  cases h7 : FloatKind.f64.format.order x 0 == some .eq
  all_goals
    go_enter Try.func44, Try.ntmps44
    go_wp2
    go_ret
    exact ⟨rfl, rfl⟩

/-- Held above nought. -/
theorem clean_pos {x h : Nat} (hx : x < 2 ^ 64) (hh : h ≤ infR) : cleanS x 0 h ≤ h := by
  have hS := infR_lt_S
  have k0 : key 0 = 0 := rfl
  have kh := key_pos (show h < S by omega)
  rw [cleanS_eq rfl (nan_pos hh) (by omega), k0]
  split
  · omega
  · split
    · omega
    · split
      · omega
      · split
        · omega
        · obtain ⟨a, _⟩ := pos_word hx (by omega)
          omega

/-! ## Sums and products of any words that are numbers -/
theorem word_rung (s : Bool) (r : Nat) (h : r ≤ infR) : nan (fm.word s r) = false := by
  have hS : S = 9223372036854775808 := rfl
  have hI : infR = 9218868437227405312 := rfl
  unfold nan rung
  cases s
  · rw [word_false, Nat.mod_eq_of_lt (by omega)]; simp; omega
  · show decide (infR < (S + r) % S) = false
    rw [Nat.add_mod_left, Nat.mod_eq_of_lt (by omega)]; simp; omega
theorem write_num (s : Bool) (m : Nat) (i : Int) : nan (fm.write (.number s m i)) = false := by
  show nan (fm.nearest s m i) = false
  rw [nearest_R]; exact word_rung _ _ (Nat.min_le_right _ _)
theorem write_inf (s : Bool) : nan (fm.write (.infinity s)) = false := by
  show nan (fm.word s fm.infRung) = false
  rw [fm_inf]; exact word_rung _ _ (Nat.le_refl _)

theorem read_kind {x : Nat} (h : nan x = false) : (∃ s m i, fm.read x = .number s m i) ∨ ∃ s, fm.read x = .infinity s := by
  unfold nan at h; simp at h
  by_cases e : rung x = infR
  · exact .inr ⟨_, read_inf x e⟩
  · obtain ⟨m, i, e, _⟩ := read_num x (by omega)
    exact .inl ⟨_, m, i, e⟩

/-- A product with what is above nought. -/
theorem mul_some {p x : Nat} (hp : 0 < p) (hp' : p < infR) (hx : nan x = false) : ∃ a, fm.mul p x = some a ∧ nan a = false := by
  obtain ⟨m, i, e, _, _, _, v, _⟩ := read_pos hp'
  have hm : m ≠ 0 := fun h => by
    rw [h, Nat.zero_mul] at v
    have := V_lt hp
    rw [V_zero] at this
    omega
  unfold Ieee.Format.mul
  rw [e]
  rcases read_kind hx with ⟨s, n, j, e'⟩ | ⟨s, e'⟩
  · rw [e']; exact ⟨_, rfl, write_num _ _ _⟩
  · rw [e']
    simp only [Ieee.Datum.product]
    rw [if_neg hm]; exact ⟨_, rfl, write_inf _⟩
theorem add_kind {a b : Nat} (ha : nan a = false) (hb : nan b = false) : (∃ s, fm.add a b = some s ∧ nan s = false) ∨ fm.add a b = none := by
  unfold Ieee.Format.add
  rcases read_kind ha with ⟨s, n, j, e⟩ | ⟨s, e⟩ <;> rcases read_kind hb with ⟨t, n', j', e'⟩ | ⟨t, e'⟩ <;> rw [e, e']
  · exact .inl ⟨_, rfl, write_num _ _ _⟩
  · exact .inl ⟨_, rfl, write_inf _⟩
  · exact .inl ⟨_, rfl, write_inf _⟩
  · simp only [Ieee.Datum.sum]
    by_cases h : s = t
    · rw [if_pos h]; exact .inl ⟨_, rfl, write_inf _⟩
    · rw [if_neg h]; exact .inr rfl

/-- What a sum of infinities of both signs is: no number, of bits that are drawn. -/
def nb (w : World) (a b : Nat) : Nat := (Question.nanBits .f64 a b).cut (w.tape w.drawn (.nanBits .f64 a b))
theorem nb_nan (w : World) (a b : Nat) : nan (nb w a b) = true := by
  unfold nb Question.cut nan rung S infR
  generalize w.tape w.drawn _ = t
  simp only [decide_eq_true_iff]
  have h1 : t / 2 % (2 ^ 52 - 1) < 2 ^ 52 - 1 := Nat.mod_lt _ (by decide)
  generalize t / 2 % (2 ^ 52 - 1) = u at *
  have h2 : t % 2 < 2 := Nat.mod_lt _ (by decide)
  omega
theorem add_none {a b : Nat} (h : fm.add a b = none) (w : World) : (binOp .add 35 (.float .f64 a) (.float .f64 b)).run Try.prog w = .ok (.float .f64 (nb w a b)) w.drew := by
  have h' : FloatKind.f64.format.add a b = none := h
  simp [binOp, Op.floatArith, h', nb, Question.forced]
theorem add_ok {a b s : Nat} (h : fm.add a b = some s) (w : World) : (binOp .add 35 (.float .f64 a) (.float .f64 b)).run Try.prog w = .ok (.float .f64 s) w := run_float_arith w .add 35 .f64 a b s h
theorem mul_ok {a b s : Nat} (h : fm.mul a b = some s) (w : World) : (binOp .mul 35 (.float .f64 a) (.float .f64 b)).run Try.prog w = .ok (.float .f64 s) w := run_float_arith w .mul 35 .f64 a b s h
theorem sub_ok {a b s : Nat} (h : fm.sub a b = some s) (w : World) : (binOp .sub 35 (.float .f64 a) (.float .f64 b)).run Try.prog w = .ok (.float .f64 s) w := run_float_arith w .sub 35 .f64 a b s h
theorem div_ok {a b s : Nat} (h : fm.div a b = some s) (w : World) : (binOp .quo 35 (.float .f64 a) (.float .f64 b)).run Try.prog w = .ok (.float .f64 s) w := run_float_arith w .quo 35 .f64 a b s h

/-- What is between, by a part. -/
def blendM (p x old : Nat) : Nat := ((fm.mul p x).bind fun a => (fm.sub one p).bind fun q => (fm.mul q old).bind fun b => fm.add a b).getD 0
def blendS (old x part : Nat) : Nat :=
  if nan x then old else if nan old then x else if cleanS part 0 one = one then x else if cleanS part 0 one = 0 then old else blendM (cleanS part 0 one) x old

theorem V_one_le {p q : Nat} (h : p < q) : V 1 ≤ V q - V p := by
  have h1 := V_lt h
  have h2 : V 1 = 1 := rfl
  rw [h2]
  exact Nat.sub_pos_of_lt h1
theorem sub_one {p : Nat} (h1 : p < one) : ∃ q, fm.sub one p = some q ∧ q ≤ one ∧ 1 ≤ q := by
  have hI : one < infR := by decide
  obtain ⟨eq, hq⟩ := sub_pos hI (Nat.le_of_lt h1)
  exact ⟨_, eq, hq, le_rd (Nat.mul_le_mul_right U (V_one_le h1))⟩
/-- The ways in the midst. -/
theorem blend_mid {p x old : Nat} (h0 : 0 < p) (h1 : p < one) (nx : nan x = false) (no : nan old = false) :
    ∃ a q b, fm.mul p x = some a ∧ fm.sub one p = some q ∧ fm.mul q old = some b ∧ ((∃ s, fm.add a b = some s ∧ nan s = false ∧ blendM p x old = s) ∨ (fm.add a b = none ∧ blendM p x old = 0)) := by
  have hI : one < infR := by decide
  obtain ⟨a, ea, na⟩ := mul_some h0 (by omega) nx
  obtain ⟨q, eq, hq, hq0⟩ := sub_one h1
  obtain ⟨b, eb, nb'⟩ := mul_some hq0 (by omega) no
  refine ⟨a, q, b, ea, eq, eb, ?_⟩
  unfold blendM
  rw [ea, eq]
  simp only [Option.bind_some]
  rw [eb]
  simp only [Option.bind_some]
  rcases add_kind na nb' with ⟨s, es, ns⟩ | es
  · exact .inl ⟨s, es, ns, by rw [es]; rfl⟩
  · exact .inr ⟨es, by rw [es]; rfl⟩
end Go.Proofs.Ytahiiieifdhgeaa.Re
