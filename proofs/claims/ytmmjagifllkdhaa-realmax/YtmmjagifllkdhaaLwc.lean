/-
  The walk of RealClean.
-/
import Derived.Test.YtmmjagifllkdhaaTck
namespace Go.Proofs.Ytmmjagifllkdhaa
open Go.RowKit

theorem cleanS_eq {x l h : Nat} (nl : nan l = false) (nh : nan h = false) (hk : key l ≤ key h) : cleanS x l h = if nan x then l else if key x < key l then l else if key h < key x then h else if key x = 0 then 0 else x := by
  unfold cleanS
  rw [gtF, ltF, gtF, eqF, nl, nh]
  cases nan x
  · have h0 : nan 0 = false := rfl
    have h1 : key 0 = 0 := rfl
    have h2 : ¬ key h < key l := by omega
    rw [h0, h1]
    simp [h2]
  · simp
theorem clean_low {x l h : Nat} (hb : (FloatKind.f64.format.order l h == some .lt || FloatKind.f64.format.order l h == some .eq) = false) : cleanS x l h = l := by
  unfold cleanS
  rw [ltF, eqF] at hb
  rw [gtF]
  cases nan x <;> cases nl : nan l <;> cases nh : nan h <;> simp [nl, nh] at hb ⊢
  intro h1
  omega
/-- Between both ends. -/
theorem clean_held {l h : Nat} (x : Nat) (nl : nan l = false) (nh : nan h = false) (hk : key l ≤ key h) : nan (cleanS x l h) = false ∧ key l ≤ key (cleanS x l h) ∧ key (cleanS x l h) ≤ key h := by
  rw [cleanS_eq nl nh hk]
  cases nx : nan x
  · simp only [Bool.false_eq_true, if_false]
    by_cases h1 : key x < key l
    · rw [if_pos h1]; exact ⟨nl, by omega, hk⟩
    · rw [if_neg h1]
      by_cases h2 : key h < key x
      · rw [if_pos h2]; exact ⟨nh, by omega, by omega⟩
      · rw [if_neg h2]
        by_cases h3 : key x = 0
        · rw [if_pos h3]
          have h0 : key 0 = 0 := rfl
          exact ⟨rfl, by omega, by omega⟩
        · rw [if_neg h3]; exact ⟨nx, by omega, by omega⟩
  · exact ⟨nl, Int.le_refl _, hk⟩
theorem clean_again {l h y : Nat} (nl : nan l = false) (nh : nan h = false) (ny : nan y = false) (h1 : key l ≤ key y) (h2 : key y ≤ key h) : nan (cleanS y l h) = false ∧ key (cleanS y l h) = key y := by
  rw [cleanS_eq nl nh (by omega), ny]
  simp only [Bool.false_eq_true, if_false]
  rw [if_neg (by omega), if_neg (by omega)]
  by_cases h3 : key y = 0
  · rw [if_pos h3, h3]; exact ⟨rfl, rfl⟩
  · rw [if_neg h3]; exact ⟨ny, rfl⟩

set_option maxHeartbeats 1000000 in
theorem clean_walk (x l h : Nat) (_wx : (Lit.float .f64 x).wf = true) (_wl : (Lit.float .f64 l).wf = true) (_wh : (Lit.float .f64 h).wf = true) (w : World) :
    Calls Try.prog 11 #[.float .f64 x, .float .f64 l, .float .f64 h] w fun e w' => e = .returned (.bool true) ∧ Below w.heap.size w w' := by
  cases hb : (FloatKind.f64.format.order l h == some .lt || FloatKind.f64.format.order l h == some .eq)
  · have e := clean_low (x := x) hb
    have ha : (nan l && nan l || decide (l = l)) = true := by simp
    have hc := fun w => clean_any x l h w
    rw [e] at hc
    go_enter Try.func11, Try.ntmps11
    go_wp2_with (first
      | (go_at_call 16; refine (hc _).mono ?_; rintro e w' ⟨rfl, rfl⟩)
      | (go_at_call 13; refine (alike_any _ _ _).mono ?_; rintro e w' ⟨rfl, rfl⟩)
      | (go_at_call 22; refine (shown_any _).mono ?_; rintro e w' ⟨rfl, rfl⟩))
    go_ret
    exact ⟨rfl, Below.refl _ _⟩
  · have hq := hb
    rw [leF] at hq
    simp at hq
    obtain ⟨⟨nl, nh⟩, hk⟩ := hq
    obtain ⟨ny, h1, h2⟩ := clean_held x nl nh hk
    obtain ⟨nz, h3⟩ := clean_again nl nh ny h1 h2
    have g1 := geF (cleanS x l h) l
    have g2 := leF (cleanS x l h) h
    have g3 := eqF (cleanS (cleanS x l h) l h) (cleanS x l h)
    rw [ny, nl, decide_eq_true h1] at g1
    rw [ny, nh, decide_eq_true h2] at g2
    rw [ny, nz, decide_eq_true h3] at g3
    clear nl nh hk ny h1 h2 nz h3
    have c1 := fun w => clean_any x l h w
    have c2 := fun w => clean_any (cleanS x l h) l h w
    generalize cleanS (cleanS x l h) l h = z at *
    generalize cleanS x l h = y at *
    simp only [Bool.not_false, Bool.and_self] at g1 g2 g3
    go_enter Try.func11, Try.ntmps11
    go_wp2_with fail
    refine (c1 _).mono ?_
    rintro e w' ⟨rfl, rfl⟩
    go_wp2_with (go_at_call 22; refine (shown_any _).mono ?_; rintro e w' ⟨rfl, rfl⟩)
    refine (c2 _).mono ?_
    rintro e w' ⟨rfl, rfl⟩
    go_wp2
    go_ret
    exact ⟨rfl, Below.refl _ _⟩
end Go.Proofs.Ytmmjagifllkdhaa
