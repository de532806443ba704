/-
  More of Clean.
-/
import Derived.Test.YtahiiieifdhgeaaXtk
namespace Go.Proofs.Ytahiiieifdhgeaa.Re
open Go.RowKit

theorem cleanS_eq {x l h : Nat} (nl : nan l = false) (nh : nan h = false) (hk : key l ≤ key h) : cleanS x l h = if nan x then l else if key x < key l then l else if key h < key x then h else if key x = 0 then 0 else x := by
  unfold cleanS
  rw [gtF, ltF, gtF, eqF, nl, nh]
  cases nan x
  · have h0 : nan 0 = false := rfl
    have h1 : key 0 = 0 := rfl
    have h2 : ¬ key h < key l := by omega
    rw [h0, h1]
    simp [h2]
  · simp
theorem clean_low {x l h : Nat} (hb : (FloatKind.f64.format.order l h == some .lt || FloatKind.f64.format.order l h == some .eq) = false) : cleanS x l h = l := by
  unfold cleanS
  rw [ltF, eqF] at hb
  rw [gtF]
  cases nan x <;> cases nl : nan l <;> cases nh : nan h <;> simp [nl, nh] at hb ⊢
  intro h1
  omega
/-- Between both ends. -/
theorem clean_held {l h : Nat} (x : Nat) (nl : nan l = false) (nh : nan h = false) (hk : key l ≤ key h) : nan (cleanS x l h) = false ∧ key l ≤ key (cleanS x l h) ∧ key (cleanS x l h) ≤ key h := by
  rw [cleanS_eq nl nh hk]
  cases nx : nan x
  · simp only [Bool.false_eq_true, if_false]
    by_cases h1 : key x < key l
    · rw [if_pos h1]; exact ⟨nl, by omega, hk⟩
    · rw [if_neg h1]
      by_cases h2 : key h < key x
      · rw [if_pos h2]; exact ⟨nh, by omega, by omega⟩
      · rw [if_neg h2]
        by_cases h3 : key x = 0
        · rw [if_pos h3]
          have h0 : key 0 = 0 := rfl
          exact ⟨rfl, by omega, by omega⟩
        · rw [if_neg h3]; exact ⟨nx, by omega, by omega⟩
  · exact ⟨nl, Int.le_refl _, hk⟩
theorem clean_again {l h y : Nat} (nl : nan l = false) (nh : nan h = false) (ny : nan y = false) (h1 : key l ≤ key y) (h2 : key y ≤ key h) : nan (cleanS y l h) = false ∧ key (cleanS y l h) = key y := by
  rw [cleanS_eq nl nh (by omega), ny]
  simp only [Bool.false_eq_true, if_false]
  rw [if_neg (by omega), if_neg (by omega)]
  by_cases h3 : key y = 0
  · rw [if_pos h3, h3]; exact ⟨rfl, rfl⟩
  · rw [if_neg h3]; exact ⟨ny, rfl⟩

end Go.Proofs.Ytahiiieifdhgeaa.Re
