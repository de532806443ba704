/-
  A block of cells with one cell open: its value comes and goes, all others stay.
-/
import Derived.Test.YtpoofjnfaijjjaaGreatDoorProg
import Derived.WalkKit
namespace Go.Proofs.YtpoofjnfaijjjaaGreatDoor
open Go.RowKit
structure Hole (o : Nat) (X : Value → Array Value) : Prop where
  get : ∀ v, (X v)[o]? = some v
  set : ∀ v v', (X v).setIfInBounds o v' = X v'
theorem Hole.cell {o : Nat} {X : Value → Array Value} (h : Hole o X) {w : World} {p : Nat} {v : Value} {T : TypeId} (hw : w.heap[p]? = some (.cells (X v) T (0, 0))) : w.cell? ⟨p, o, none⟩ = some v := by
  simp [World.cell?, hw, h.get]
theorem free_of {w : World} {p : Nat} {C : Array Value} {T : TypeId} (hw : w.heap[p]? = some (.cells C T (0, 0))) (j : Nat) : w.frozen? ⟨p, j, none⟩ = false := by simp [World.frozen?, hw]
theorem Hole.put {o : Nat} {X : Value → Array Value} (h : Hole o X) {w : World} {p : Nat} {v : Value} {T : TypeId} (hw : w.heap[p]? = some (.cells (X v) T (0, 0))) (v' : Value) :
    (w.setCell ⟨p, o, none⟩ v').heap[p]? = some (.cells (X v') T (0, 0)) := by
  simp [World.setCell, Array.getElem?_modify, hw, h.set]
end Go.Proofs.YtpoofjnfaijjjaaGreatDoor
