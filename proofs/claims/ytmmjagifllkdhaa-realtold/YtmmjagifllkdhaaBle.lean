/-
  Blend walked, and the reference's.
-/
import Derived.Test.YtmmjagifllkdhaaBln
namespace Go.Proofs.Ytmmjagifllkdhaa
open Go.RowKit

theorem eq_pos {x y : Nat} (hx : x ≤ infR) (hy : y ≤ infR) : (FloatKind.f64.format.order x y == some .eq) = decide (x = y) := by
  have hS := infR_lt_S
  rw [eqF, nan_pos hx, nan_pos hy, key_pos (by omega), key_pos (by omega), Bool.eq_iff_iff]
  simp; omega
theorem lt_pos {x y : Nat} (hx : x ≤ infR) (hy : y ≤ infR) : (FloatKind.f64.format.order x y == some .lt) = decide (x < y) := by
  have hS := infR_lt_S
  rw [ltF, nan_pos hx, nan_pos hy, key_pos (by omega), key_pos (by omega), Bool.eq_iff_iff]
  simp

theorem blend_any (old x part : Nat) (hp : Hid (part < 2 ^ 64)) (w : World) : Calls Try.prog 18 #[.float .f64 old, .float .f64 x, .float .f64 part] w fun e w' => e = .returned (.float .f64 (blendS old x part)) ∧ Below w.heap.size w w' := by
  have hI : one < infR := by decide
  have hpl : cleanS part 0 one ≤ one := clean_pos hp.out (Nat.le_of_lt hI)
  have c0 := fun w => clean_any part 0 one w
  unfold blendS
  clear hp
  generalize cleanS part 0 one = p at c0 hpl ⊢
  have e1 := eq_pos (x := p) (y := one) (by omega) (Nat.le_of_lt hI)
  have e2 := eq_pos (x := p) (y := 0) (by omega) (Nat.zero_le _)
  have eo : one = 4607182418800017408 := rfl
  cases nx : nan x
  case true =>
    rw [eo] at c0
    go_enter Try.func18, Try.ntmps18
    go_wp2_with (first | (go_at_call 35; refine (noNumber_any _ _).mono ?_; rintro e w' ⟨rfl, rfl⟩) | (go_at_call 16; refine (c0 _).mono ?_; rintro e w' ⟨rfl, rfl⟩))
    go_ret
    exact ⟨rfl, Below.refl _ _⟩
  cases no : nan old
  case true =>
    rw [eo] at c0
    go_enter Try.func18, Try.ntmps18
    go_wp2_with (first | (go_at_call 35; refine (noNumber_any _ _).mono ?_; rintro e w' ⟨rfl, rfl⟩) | (go_at_call 16; refine (c0 _).mono ?_; rintro e w' ⟨rfl, rfl⟩))
    go_ret
    exact ⟨rfl, Below.refl _ _⟩
  simp only [Bool.false_eq_true, if_false]
  by_cases h1 : p = one
  · rw [if_pos h1]
    rw [decide_eq_true h1] at e1
    rw [eo] at c0 e1
    clear h1 e2 hpl
    go_enter Try.func18, Try.ntmps18
    go_wp2_with (first | (go_at_call 35; refine (noNumber_any _ _).mono ?_; rintro e w' ⟨rfl, rfl⟩) | (go_at_call 16; refine (c0 _).mono ?_; rintro e w' ⟨rfl, rfl⟩))
    go_ret
    exact ⟨rfl, Below.refl _ _⟩
  rw [if_neg h1]
  rw [decide_eq_false h1] at e1
  by_cases h2 : p = 0
  · rw [if_pos h2]
    rw [decide_eq_true h2] at e2
    rw [eo] at c0 e1
    clear h1 h2 hpl
    go_enter Try.func18, Try.ntmps18
    go_wp2_with (first | (go_at_call 35; refine (noNumber_any _ _).mono ?_; rintro e w' ⟨rfl, rfl⟩) | (go_at_call 16; refine (c0 _).mono ?_; rintro e w' ⟨rfl, rfl⟩))
    go_ret
    exact ⟨rfl, Below.refl _ _⟩
  rw [if_neg h2]
  rw [decide_eq_false h2] at e2
  obtain ⟨a, q, b, ea, eq, eb, hs⟩ := blend_mid (p := p) (x := x) (old := old) (by omega) (by omega) nx no
  have ma := mul_ok ea
  have mq := sub_ok eq
  have mb := mul_ok eb
  rw [eo] at c0 e1 mq
  clear h1 h2 hpl ea eq eb
  rcases hs with ⟨s, es, ns, er⟩ | ⟨es, er⟩
  · have ms := add_ok es
    rw [er]
    clear es er
    go_enter Try.func18, Try.ntmps18
    go_wp2_with (first | (go_at_call 35; refine (noNumber_any _ _).mono ?_; rintro e w' ⟨rfl, rfl⟩) | (go_at_call 16; refine (c0 _).mono ?_; rintro e w' ⟨rfl, rfl⟩))
    go_ret
    exact ⟨rfl, Below.refl _ _⟩
  · have ms := add_none es
    have hn := fun w => nb_nan w a b
    rw [er]
    clear es er
    go_enter Try.func18, Try.ntmps18
    go_wp2_with (first | (go_at_call 35; refine (noNumber_any _ _).mono ?_; rintro e w' ⟨rfl, rfl⟩) | (go_at_call 16; refine (c0 _).mono ?_; rintro e w' ⟨rfl, rfl⟩))
    go_ret
    exact ⟨rfl, below_drewN (Below.refl _ _) 1⟩
theorem refBlend_any (old x part : Nat) (hp : Hid (part < 2 ^ 64)) (w : World) : Calls Try.prog 19 #[.float .f64 old, .float .f64 x, .float .f64 part] w fun e w' => e = .returned (.float .f64 (blendS old x part)) ∧ Below w.heap.size w w' := by
  have hI : one < infR := by decide
  have hpl : cleanS part 0 one ≤ one := clean_pos hp.out (Nat.le_of_lt hI)
  have c0 := fun w => refClean_any part 0 one w
  unfold blendS
  clear hp
  generalize cleanS part 0 one = p at c0 hpl ⊢
  have e1 := eq_pos (x := p) (y := one) (by omega) (Nat.le_of_lt hI)
  have e2 := eq_pos (x := p) (y := 0) (by omega) (Nat.zero_le _)
  have eo : one = 4607182418800017408 := rfl
  have n1 := nanF x
  have n2 := nanF old
  cases nx : nan x <;> rw [nx] at n1
  case true =>
    rw [eo] at c0
    go_enter Try.func19, Try.ntmps19
    go_wp2_with (go_at_call 17; refine (c0 _).mono ?_; rintro e w' ⟨rfl, rfl⟩)
    go_ret
    exact ⟨rfl, Below.refl _ _⟩
  cases no : nan old <;> rw [no] at n2
  case true =>
    rw [eo] at c0
    go_enter Try.func19, Try.ntmps19
    go_wp2_with (go_at_call 17; refine (c0 _).mono ?_; rintro e w' ⟨rfl, rfl⟩)
    go_ret
    exact ⟨rfl, Below.refl _ _⟩
  simp only [Bool.false_eq_true, if_false]
  by_cases h1 : p = one
  · rw [if_pos h1]
    rw [decide_eq_true h1] at e1
    rw [eo] at c0 e1
    clear h1 e2 hpl
    go_enter Try.func19, Try.ntmps19
    go_wp2_with (go_at_call 17; refine (c0 _).mono ?_; rintro e w' ⟨rfl, rfl⟩)
    go_ret
    exact ⟨rfl, Below.refl _ _⟩
  rw [if_neg h1]
  rw [decide_eq_false h1] at e1
  by_cases h2 : p = 0
  · rw [if_pos h2]
    rw [decide_eq_true h2] at e2
    rw [eo] at c0 e1
    clear h1 h2 hpl
    go_enter Try.func19, Try.ntmps19
    go_wp2_with (go_at_call 17; refine (c0 _).mono ?_; rintro e w' ⟨rfl, rfl⟩)
    go_ret
    exact ⟨rfl, Below.refl _ _⟩
  rw [if_neg h2]
  rw [decide_eq_false h2] at e2
  obtain ⟨a, q, b, ea, eq, eb, hs⟩ := blend_mid (p := p) (x := x) (old := old) (by omega) (by omega) nx no
  have ma := mul_ok ea
  have mq := sub_ok eq
  have mb := mul_ok eb
  rw [eo] at c0 e1 mq
  clear h1 h2 hpl ea eq eb
  rcases hs with ⟨s, es, ns, er⟩ | ⟨es, er⟩
  · have ms := add_ok es
    have n3 := nanF s
    rw [ns] at n3
    rw [er]
    clear es er
    go_enter Try.func19, Try.ntmps19
    go_wp2_with (go_at_call 17; refine (c0 _).mono ?_; rintro e w' ⟨rfl, rfl⟩)
    go_ret
    exact ⟨rfl, Below.refl _ _⟩
  · have ms := add_none es
    have hn : ∀ w, (FloatKind.f64.format.order (nb w a b) (nb w a b) != some .eq) = true := fun w => by rw [nanF]; exact nb_nan w a b
    rw [er]
    clear es er
    go_enter Try.func19, Try.ntmps19
    go_wp2_with (go_at_call 17; refine (c0 _).mono ?_; rintro e w' ⟨rfl, rfl⟩)
    go_ret
    exact ⟨rfl, below_drewN (Below.refl _ _) 1⟩
end Go.Proofs.Ytmmjagifllkdhaa
