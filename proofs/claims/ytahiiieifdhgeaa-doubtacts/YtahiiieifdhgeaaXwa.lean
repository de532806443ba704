/-
  The mathematics of waits.
-/
import Derived.Test.YtahiiieifdhgeaaXcl
namespace Go.Proofs.Ytahiiieifdhgeaa.Re
open Go.RowKit

def K1000 : Nat := 4652007308841189376
def K64000 : Nat := 4679028906605412352
def lessS (g b : Nat) : Nat := rd ((V g - V b) * U)
def prodS (p m : Nat) : Nat := rd (V p * V m * pw 1852)
def partS (t m : Int) : Nat := rd (dq (fi t) (fi m))
def greatS (b : Nat) (k : Int) : Nat := max b (prodS b (fi k))
def midS (b g : Nat) (t m : Int) : Nat := max b (lessS g (prodS (partS t m) (lessS g b)))
def waitS (b : Nat) (k t m : Int) : Nat := if t ≤ 0 then greatS b k else if m ≤ t then b else midS b (greatS b k) t m

theorem less_ok {g b : Nat} (hg : g < infR) (h : b ≤ g) : fm.sub g b = some (lessS g b) ∧ lessS g b ≤ g := sub_pos hg h
theorem less_le (g b : Nat) : lessS g b ≤ g := rd_le (Nat.mul_le_mul_right _ (Nat.sub_le _ _))
theorem less_mono {g b b' : Nat} (h : b ≤ b') : lessS g b' ≤ lessS g b := rd_mono (Nat.mul_le_mul_right _ (Nat.sub_le_sub_left (V_le h) _))
theorem prod_ok {p m : Nat} (hp : p < infR) (hm : m < infR) (h : prodS p m < infR) : fm.mul p m = some (prodS p m) := by
  have e := mul_pos hp hm
  have e2 : min (rd (V p * V m * pw 1852)) infR = prodS p m := Nat.min_eq_left (Nat.le_of_lt h)
  rw [e2] at e
  exact e
theorem prod_mono {p p' m m' : Nat} (h : p ≤ p') (h' : m ≤ m') : prodS p m ≤ prodS p' m' :=
  rd_mono (Nat.mul_le_mul_right _ (Nat.mul_le_mul (V_le h) (V_le h')))
theorem V_one : V one = pw 1074 := by
  have h := V_pow 0
  rw [Nat.pow_zero, Nat.one_mul] at h
  exact h
theorem U_1852 : pw 1074 * pw 1852 = U := pw_split 1074 1852 2926 rfl
theorem prod_one (m : Nat) : prodS one m = m := by
  unfold prodS
  rw [V_one, Nat.mul_comm (pw 1074), Nat.mul_assoc, U_1852]
  exact rd_exact m
theorem prod_le {p m : Nat} (h : p ≤ one) : prodS p m ≤ m := by
  have := prod_mono h (Nat.le_refl m)
  rwa [prod_one] at this
theorem one_lt : one < infR := by decide
theorem fi_one {t : Int} (h : 0 < t) : one ≤ fi t := le_fi t 0 (by simp; omega)
theorem fi_lt {t : Int} (h : t ≤ 9223372036854775807) : fi t < infR := Nat.lt_of_le_of_lt (fi_le t 63 (by omega)) (by decide)
theorem part_le {t m : Int} (h1 : t ≤ m) (hm : m ≤ 9223372036854775807) : partS t m ≤ one := dq_le_one (fi_mono h1) (fi_lt hm)
theorem part_ok {t m : Int} (h0 : 0 < t) (h1 : t < m) (hm : m ≤ 9223372036854775807) : fm.div (fi t) (fi m) = some (partS t m) ∧ partS t m ≤ one := by
  have hle := part_le (Int.le_of_lt h1) hm
  have hB : B ≤ one := by decide
  have e := div_pos (fi_lt (show t ≤ 9223372036854775807 by omega)) (Nat.le_trans hB (fi_one h0)) (fi_lt hm) (Nat.le_trans hB (fi_one (show 0 < m by omega)))
  have e2 : min (rd (dq (fi t) (fi m))) infR = partS t m := Nat.min_eq_left (Nat.le_trans hle (Nat.le_of_lt one_lt))
  rw [e2] at e
  exact ⟨e, hle⟩
theorem part_mono {t t' m : Int} (h : t ≤ t') (ht : t' ≤ 9223372036854775807) (hm : m ≤ 9223372036854775807) : partS t m ≤ partS t' m :=
  rd_mono (dq_mono (fi_mono h) (fi_lt ht) (fi_lt hm))

theorem V_six (d k : Nat) (h : k ≤ 2 * B) (h' : B ≤ k) : V (d * B + k) * 64 = V ((d + 6) * B + k) := by
  rw [V_at d k h (.inr h'), V_at (d + 6) k h (.inr h'), Nat.pow_add, Nat.mul_assoc]
theorem V_64 : V ((1023 + 6) * B) = 64 * pw 1074 := V_pow 6
theorem great_le {b : Nat} {k : Int} (hb : b ≤ K1000) (hk : k ≤ 64) : prodS b (fi k) ≤ K64000 := by
  have h1 := prod_mono hb (fi_le k 6 (by omega))
  have h2 : prodS K1000 ((1023 + 6) * B) = K64000 := by
    unfold prodS
    have e := V_six 1031 8796093022208000 (by decide) (by decide)
    rw [V_64, ← Nat.mul_assoc, Nat.mul_assoc _ (pw 1074), U_1852]
    have e1 : K1000 = 1031 * B + 8796093022208000 := rfl
    have e3 : (1031 + 6) * B + 8796093022208000 = K64000 := rfl
    rw [e1, e, e3]
    exact rd_exact K64000
  rwa [h2] at h1
theorem K64000_lt : K64000 < infR := by decide
theorem K1000_lt : K1000 < K64000 := by decide
theorem great_lt {b : Nat} {k : Int} (hb : b ≤ K1000) (hk : k ≤ 64) : b ≤ greatS b k ∧ greatS b k < infR := by
  have h := great_le hb hk
  have h1 := K64000_lt
  have h2 := K1000_lt
  unfold greatS
  generalize prodS b (fi k) = p at *
  omega
theorem great_mono {b : Nat} {k k' : Int} (h : k ≤ k') : greatS b k ≤ greatS b k' := by
  have h1 := prod_mono (Nat.le_refl b) (fi_mono h)
  unfold greatS
  generalize prodS b (fi k) = p at *
  generalize prodS b (fi k') = p' at *
  omega
theorem mid_held {b g : Nat} {t m : Int} (h : b ≤ g) : b ≤ midS b g t m ∧ midS b g t m ≤ g := by
  have h1 := less_le g (prodS (partS t m) (lessS g b))
  unfold midS
  generalize lessS g (prodS (partS t m) (lessS g b)) = z at *
  omega
theorem mid_mono {b g : Nat} {t t' m : Int} (h : t ≤ t') (ht : t' ≤ 9223372036854775807) (hm : m ≤ 9223372036854775807) : midS b g t' m ≤ midS b g t m := by
  have h1 := less_mono (g := g) (prod_mono (part_mono h ht hm) (Nat.le_refl (lessS g b)))
  unfold midS
  generalize lessS g (prodS (partS t m) (lessS g b)) = z at *
  generalize lessS g (prodS (partS t' m) (lessS g b)) = z' at *
  omega
/-- A wait lies between its base and its greatest; more that was told never makes it longer. -/
theorem wait_held {b : Nat} {k t m : Int} (hb : b ≤ K1000) (hk : k ≤ 64) : b ≤ waitS b k t m ∧ waitS b k t m ≤ greatS b k := by
  obtain ⟨h1, h2⟩ := great_lt hb hk
  have h3 := mid_held (t := t) (m := m) h1
  unfold waitS
  generalize greatS b k = g at *
  generalize midS b g t m = z at *
  split
  · omega
  · split
    · omega
    · exact h3
theorem wait_mono {b : Nat} {k t t' m : Int} (hb : b ≤ K1000) (hk : k ≤ 64) (h : t ≤ t') (ht : t' ≤ 9223372036854775807) (hm : m ≤ 9223372036854775807) : waitS b k t' m ≤ waitS b k t m := by
  have h4 := wait_held (t := t') (m := m) hb hk
  have h5 := wait_held (t := t) (m := m) hb hk
  have h6 := mid_mono (b := b) (g := greatS b k) h ht hm
  unfold waitS at *
  generalize greatS b k = g at *
  generalize midS b g t m = z at *
  generalize midS b g t' m = z' at *
  by_cases h1 : t ≤ 0
  · rw [if_pos h1] at *; exact h4.2
  · rw [if_neg h1] at *
    rw [if_neg (show ¬ t' ≤ 0 by omega)] at *
    by_cases h2 : m ≤ t'
    · rw [if_pos h2] at *; exact h5.1
    · rw [if_neg h2, if_neg (show ¬ m ≤ t by omega)]; exact h6

/-! ## The ops of a wait, as the walk asks -/
theorem run_max_pos {x y : Nat} (hx : x ≤ infR) (hy : y ≤ infR) (ts : Array TypeId) (t : TypeId) (w : World) : (Builtin.max_ ts t #[.float .f64 x, .float .f64 y]).run Try.prog w = .ok (.float .f64 (max x y)) w := by
  have hS := infR_lt_S
  have ho : FloatKind.f64.format.order x y = some (compare (x : Int) (y : Int)) := order_pos hx hy
  have hn : (FloatKind.f64.decode x).neg = false := by
    show (fm.read x).neg = false
    by_cases h : x = infR
    · rw [read_inf x (by rw [rung_pos (by omega)]; exact h)]; exact ng_pos (by omega)
    · obtain ⟨m, i, e, _⟩ := read_pos (show x < infR by omega)
      rw [e]; rfl
  simp only [Builtin.max_, List.foldlM, Builtin.max2, ho, compare_of]
  by_cases h1 : x < y
  · have : (x : Int) < y := by omega
    rw [Nat.max_eq_right (by omega)]
    simp [this]
  · have h3 : ¬ (x : Int) < y := by omega
    rw [Nat.max_eq_left (by omega)]
    by_cases h2 : (x : Int) = y
    · simp [h2, hn]
    · simp [h3, h2]
end Go.Proofs.Ytahiiieifdhgeaa.Re
