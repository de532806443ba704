/-
  The walk of RankOrder.
-/
import Derived.Test.YtjhpbnijjdmclaaOra
import Derived.Test.YtjhpbnijjdmclaaOrx
import Derived.Test.YtjhpbnijjdmclaaOrz
import Derived.Test.YtjhpbnijjdmclaaOpn
namespace Go.Proofs.Ytjhpbnijjdmclaa
open Go.RowKit

theorem newerS_asym (i s j t : Int) (h : newerS i s j t = true) : newerS j t i s = false := by
  simp [newerS] at h ⊢; omega
theorem newerS_trans (i s j t k u : Int) (h : newerS i s j t = true) (h' : newerS j t k u = true) : newerS i s k u = true := by
  simp [newerS] at h h' ⊢; omega
theorem newerS_total (i s j t : Int) (h : newerS i s j t = false) (h' : newerS j t i s = false) : i = j ∧ s = t := by
  simp [newerS] at h h'; omega
theorem newerS_irr (i s : Int) : newerS i s i s = false := by simp [newerS]

theorem order_core (n i s m j t p k u : Int) (w : World) :
    Calls Try.prog 4 #[.agg #[.int .i64 n, .int .u64 i, .int .i64 s], .agg #[.int .i64 m, .int .u64 j, .int .i64 t], .agg #[.int .i64 p, .int .u64 k, .int .i64 u]] w fun e w' => e = .returned (.bool true) ∧ Below w.heap.size w w' := by
  cases hX : newerS i s j t
  case false =>
    cases hY : newerS j t i s
    case false =>
      obtain ⟨rfl, rfl⟩ := newerS_total i s j t hX hY
      exact order_same n i s m p k u w
    case true =>
      by_cases hij : i = j
      · subst hij
        have hst : ¬ s = t := by intro e; subst e; rw [newerS_irr] at hY; cases hY
        exact order_y_i n i s m t p k u hst hX hY w
      · exact order_y n i s m j t p k u hij hX hY w
  case true =>
    have hY := newerS_asym i s j t hX
    cases hZ : newerS j t k u
    case false =>
      by_cases hij : i = j
      · subst hij
        have hst : ¬ s = t := by intro e; subst e; rw [newerS_irr] at hX; cases hX
        exact order_x_i n i s m t p k u hst hX hY hZ w
      · exact order_x n i s m j t p k u hij hX hY hZ w
    case true =>
      have hU := newerS_trans i s j t k u hX hZ
      by_cases hij : i = j
      · subst hij
        have hst : ¬ s = t := by intro e; subst e; rw [newerS_irr] at hX; cases hX
        exact order_z_i n i s m t p k u hst hX hY hZ hU w
      · exact order_z n i s m j t p k u hij hX hY hZ hU w

theorem order_walk (n i s m j t p k u : Int) (_ : (Lit.int .i64 n).wf = true) (_ : (Lit.int .u64 i).wf = true) (_ : (Lit.int .i64 s).wf = true) (_ : (Lit.int .i64 m).wf = true) (_ : (Lit.int .u64 j).wf = true) (_ : (Lit.int .i64 t).wf = true)
    (_ : (Lit.int .i64 p).wf = true) (_ : (Lit.int .u64 k).wf = true) (_ : (Lit.int .i64 u).wf = true) (w : World) :
    Calls Try.prog 4 #[.agg #[.int .i64 n, .int .u64 i, .int .i64 s], .agg #[.int .i64 m, .int .u64 j, .int .i64 t], .agg #[.int .i64 p, .int .u64 k, .int .i64 u]] w fun e w' => e = .returned (.bool true) ∧ Below w.heap.size w w' := order_core n i s m j t p k u w
end Go.Proofs.Ytjhpbnijjdmclaa
