/-
  The walk of RealBlends.
-/
import Derived.Test.YtmmjagifllkdhaaBle
namespace Go.Proofs.Ytmmjagifllkdhaa
open Go.RowKit

theorem eqSelf (x : Nat) : (FloatKind.f64.format.order x x == some .eq) = !nan x := by rw [eqF]; cases nan x <;> simp
theorem blend_num {old x part : Nat} (hp : part < 2 ^ 64) (nx : nan x = false) (no : nan old = false) : nan (blendS old x part) = false := by
  have hI : one < infR := by decide
  have hpl : cleanS part 0 one ≤ one := clean_pos hp (Nat.le_of_lt hI)
  unfold blendS
  generalize cleanS part 0 one = p at *
  rw [nx, no]
  simp only [Bool.false_eq_true, if_false]
  by_cases h1 : p = one
  · rw [if_pos h1]; exact nx
  · rw [if_neg h1]
    by_cases h2 : p = 0
    · rw [if_pos h2]; exact no
    · rw [if_neg h2]
      obtain ⟨a, q, b, _, _, _, hs⟩ := blend_mid (p := p) (x := x) (old := old) (by omega) (by omega) nx no
      rcases hs with ⟨s, _, ns, er⟩ | ⟨_, er⟩
      · rw [er]; exact ns
      · rw [er]; rfl
theorem clean_one : cleanS one 0 one = one := by decide +kernel
theorem clean_zero : cleanS 0 0 one = 0 := by decide +kernel
theorem blend_one (old x : Nat) : blendS old x one = if nan x then old else x := by
  unfold blendS
  rw [clean_one, if_pos rfl]
  cases nan x <;> cases nan old <;> rfl
theorem blend_zero (old x : Nat) : blendS old x 0 = if nan x then old else if nan old then x else old := by
  unfold blendS
  have h : ¬ (0 : Nat) = one := by decide
  rw [clean_zero, if_neg h, if_pos rfl]

set_option maxHeartbeats 1000000 in
theorem blend_road (old x part y1 y0 : Nat) (no nx ny al1 al0 : Bool) (HP : Hid (part < 2 ^ 64)) (e1 : Hid (blendS old x one = y1)) (e0 : Hid (blendS old x 0 = y0))
    (hno : nan old = no) (hnx : nan x = nx) (hny : nan (blendS old x part) = ny) (ho : no = false → nx = false → ny = false)
    (h1 : (nan y1 && nan x || decide (y1 = x)) = al1) (h0 : (nan y0 && nan old || decide (y0 = old)) = al0) (ha1 : al1 = (!nx || no)) (ha0 : al0 = (!no || nx)) (w : World) :
    Calls Try.prog 8 #[.float .f64 old, .float .f64 x, .float .f64 part] w fun e w' => e = .returned (.bool true) ∧ Below w.heap.size w w' := by
  have q1 := eqSelf old
  have q2 := eqSelf x
  have m1 := nanF old
  have m2 := nanF x
  have m3 := nanF (blendS old x part)
  rw [hno] at q1 m1
  rw [hnx] at q2 m2
  rw [hny] at m3
  have c1 := fun w => blend_any old x one (show one < 2 ^ 64 by decide) w
  have c0 := fun w => blend_any old x 0 (show 0 < 2 ^ 64 by decide) w
  have cp := fun w => blend_any old x part HP w
  rw [show one = 4607182418800017408 from rfl] at c1 e1
  rw [e1.out] at c1
  rw [e0.out] at c0
  generalize blendS old x part = y at *
  clear hno hnx hny e1 e0
  subst ha1
  subst ha0
  cases no <;> cases nx
  · have := ho rfl rfl
    subst this
    clear ho
    go_enter Try.func8, Try.ntmps8
    go_wp2_with fail
    refine (cp _).mono ?_
    rintro e w1 ⟨rfl, b1⟩
    go_wp2_with (go_at_call 22; refine (shown_any _).mono ?_; rintro e w' ⟨rfl, rfl⟩)
    refine (c1 _).mono ?_
    rintro e w2 ⟨rfl, b2⟩
    go_wp2_with (go_at_call 13; refine (alike_any _ _ _).mono ?_; rintro e w' ⟨rfl, rfl⟩)
    refine (c0 _).mono ?_
    rintro e w3 ⟨rfl, b3⟩
    go_wp2_with (go_at_call 13; refine (alike_any _ _ _).mono ?_; rintro e w' ⟨rfl, rfl⟩)
    go_ret
    exact ⟨rfl, b1.trans ((b2.mono b1.size).trans (b3.mono (Nat.le_trans b1.size b2.size)))⟩
  all_goals
    clear ho
    go_enter Try.func8, Try.ntmps8
    go_wp2_with fail
    refine (cp _).mono ?_
    rintro e w1 ⟨rfl, b1⟩
    go_wp2_with (go_at_call 22; refine (shown_any _).mono ?_; rintro e w' ⟨rfl, rfl⟩)
    refine (c1 _).mono ?_
    rintro e w2 ⟨rfl, b2⟩
    go_wp2_with (go_at_call 13; refine (alike_any _ _ _).mono ?_; rintro e w' ⟨rfl, rfl⟩)
    refine (c0 _).mono ?_
    rintro e w3 ⟨rfl, b3⟩
    go_wp2_with (go_at_call 13; refine (alike_any _ _ _).mono ?_; rintro e w' ⟨rfl, rfl⟩)
    go_ret
    exact ⟨rfl, b1.trans ((b2.mono b1.size).trans (b3.mono (Nat.le_trans b1.size b2.size)))⟩

theorem blends_walk (old x part : Nat) (_wo : (Lit.float .f64 old).wf = true) (_wx : (Lit.float .f64 x).wf = true) (wp : (Lit.float .f64 part).wf = true) (w : World) :
    Calls Try.prog 8 #[.float .f64 old, .float .f64 x, .float .f64 part] w fun e w' => e = .returned (.bool true) ∧ Below w.heap.size w w' := by
  have hp : part < 2 ^ 64 := by simpa [Lit.wf] using wp
  refine blend_road old x part _ _ _ _ _ _ _ hp rfl rfl rfl rfl rfl (fun h1 h2 => blend_num hp h2 h1) rfl rfl ?_ ?_ w
  · rw [blend_one]
    cases nx : nan x <;> cases no : nan old <;> simp [nx, no]
    intro e; rw [e, nx] at no; cases no
  · rw [blend_zero]
    cases nx : nan x <;> cases no : nan old <;> simp [nx, no]
    intro e; rw [e, no] at nx; cases nx
end Go.Proofs.Ytmmjagifllkdhaa
