/-
  The walk of RealOrder.
-/
import Derived.Test.YtmmjagifllkdhaaLwp
import Derived.Test.YtmmjagifllkdhaaLwq
import Derived.Test.YtmmjagifllkdhaaLwr
namespace Go.Proofs.Ytmmjagifllkdhaa
open Go.RowKit

theorem order_walk (x y z : Nat) (wx : (Lit.float .f64 x).wf = true) (wy : (Lit.float .f64 y).wf = true) (wz : (Lit.float .f64 z).wf = true) (w : World) :
    Calls Try.prog 5 #[.float .f64 x, .float .f64 y, .float .f64 z] w fun e w' => e = .returned (.bool true) ∧ Below w.heap.size w w' := by
  have hx : x < 2 ^ 64 := by simpa [Lit.wf] using wx
  have hy : y < 2 ^ 64 := by simpa [Lit.wf] using wy
  have hz : z < 2 ^ 64 := by simpa [Lit.wf] using wz
  have o3 : ordS x x = 0 := cmpS_eq _
  have hl : (FloatKind.f64.format.order x y == some .lt) = true → placeS x < placeS y := fun h => by
    rw [ltF] at h
    simp at h
    exact place_lt hx hy h.1.1 h.1.2 h.2
  have hg : (FloatKind.f64.format.order x y == some .gt) = true → placeS y < placeS x := fun h => by
    rw [gtF] at h
    simp at h
    exact place_lt hy hx h.1.2 h.1.1 h.2
  have hi := place_inj hx hy
  suffices h : Calls Try.prog 5 #[.float .f64 x, .float .f64 y, .float .f64 z] w fun e w' => e = .returned (.bool true) ∧ w' = w by
    refine h.mono ?_
    rintro e w' ⟨rfl, rfl⟩
    exact ⟨rfl, Below.refl _ _⟩
  have hT : placeS x ≤ placeS y → ordS y z ≤ 0 → ordS x z ≤ 0 := fun h1 h2 => by
    unfold ordS cmpS at *
    split at h2
    · rw [if_pos (by omega)]; omega
    · split at h2
      · omega
      · split
        · omega
        · rw [if_neg (by omega)]; omega
  rcases Int.lt_trichotomy (placeS x) (placeS y) with h | h | h
  · have hA : (nan x && nan y || decide (x = y)) = false := by
      rw [Bool.eq_false_iff]; intro e; have := hi.2 e; omega
    have hgf : (FloatKind.f64.format.order x y == some .gt) = false := by
      rw [Bool.eq_false_iff]; intro e; have := hg e; omega
    by_cases h4 : ordS y z ≤ 0
    · exact order_road x y z _ rfl hgf hx hy hz w (cmpS_lt h) (cmpS_gt h) o3 hA h4 (hT (by omega) h4)
    · exact order_road2 x y z _ rfl hgf (cmpS_lt h) (cmpS_gt h) o3 hA (by omega) hx hy hz w
  · have hA : (nan x && nan y || decide (x = y)) = true := hi.1 h
    have hlf : (FloatKind.f64.format.order x y == some .lt) = false := by
      rw [Bool.eq_false_iff]; intro e; have := hl e; omega
    have hgf : (FloatKind.f64.format.order x y == some .gt) = false := by
      rw [Bool.eq_false_iff]; intro e; have := hg e; omega
    have o1 : ordS x y = 0 := by unfold ordS; rw [h]; exact cmpS_eq _
    have o2 : ordS y x = 0 := by unfold ordS; rw [h]; exact cmpS_eq _
    by_cases h4 : ordS y z ≤ 0
    · exact order_road3 x y z hlf hgf o1 o2 o3 hA h4 (hT (by omega) h4) hx hy hz w
    · exact order_road4 x y z hlf hgf o1 o2 o3 hA (by omega) hx hy hz w
  · have hA : (nan x && nan y || decide (x = y)) = false := by
      rw [Bool.eq_false_iff]; intro e; have := hi.2 e; omega
    have hlf : (FloatKind.f64.format.order x y == some .lt) = false := by
      rw [Bool.eq_false_iff]; intro e; have := hl e; omega
    exact order_road5 x y z _ hlf rfl (cmpS_gt h) (cmpS_lt h) o3 hA hx hy hz w
end Go.Proofs.Ytmmjagifllkdhaa
