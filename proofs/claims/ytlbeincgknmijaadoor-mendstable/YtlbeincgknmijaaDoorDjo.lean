/-
  The reference's Join.
-/
import Derived.Test.YtlbeincgknmijaaDoorDgl
namespace Go.Proofs.YtlbeincgknmijaaDoor
open Go.RowKit

theorem mrg_done {a b : List Sn} {F i k : Nat} {M : List Sn} (h : ¬ (i < a.length ∨ k < b.length)) : mrg a b F i k M = M := by
  cases F with
  | zero => rfl
  | succ F => simp only [mrg]; rw [if_neg h]
theorem mrg_a {a b : List Sn} {F i k : Nat} {M : List Sn} (h : i < a.length) (hq : b.length ≤ k ∨ (el a i).f ≤ (el b k).f) : mrg a b (F + 1) i k M = mrg a b F (i + 1) k (M ++ [el a i]) := by
  simp only [mrg]; rw [if_pos (Or.inl h), if_pos (by rcases hq with hq | hq; exact Or.inl hq; exact Or.inr ⟨h, hq⟩)]
theorem mrg_b {a b : List Sn} {F i k : Nat} {M : List Sn} (h : k < b.length) (hq : ¬ (i < a.length ∧ (el a i).f ≤ (el b k).f)) : mrg a b (F + 1) i k M = mrg a b F i (k + 1) (M ++ [el b k]) := by
  simp only [mrg]; rw [if_pos (Or.inr h), if_neg (fun e => by rcases e with e | e; omega; exact hq e)]

end Go.Proofs.YtlbeincgknmijaaDoor
