/-
  Has, of the code and of the reference.
-/
import Derived.Test.YtlbeincgknmijaaDoorDma
namespace Go.Proofs.YtlbeincgknmijaaDoor
open Go.RowKit

theorem hasS_take_succ {l : List Sn} {k : Nat} {n : Int} (hk : k < l.length) (h : hasS (l.take k) n = false) : hasS (l.take (k + 1)) n = (decide ((el l k).f ≤ n) && decide (n ≤ (el l k).t)) := by
  rw [take_snoc hk, hasS_append, h, hasS_cons, hasS_nil]
  simp
theorem hasS_at {l : List Sn} {k : Nat} {n : Int} (hk : k < l.length) (h : (decide ((el l k).f ≤ n) && decide (n ≤ (el l k).t)) = true) : hasS l n = true := by
  rw [Bool.and_eq_true, decide_eq_true_eq, decide_eq_true_eq] at h
  exact hasS_iff.2 ⟨_, el_mem hk, h.1, h.2⟩

def hasM (l : List Sn) (n : Int) : Bool := mayS l && hasS l n

end Go.Proofs.YtlbeincgknmijaaDoor
