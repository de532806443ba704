/-
  The table as it is laid; a world that has it.
-/
import Derived.Test.YtlbeincgknmijaaDoorRows
import Derived.Test.YtlbeincgknmijaaDoorSbl
import Derived.ProofKit
import Derived.OpenShut
import Derived.LaidLaws
import Derived.Handed
import Derived.Lay
import Derived.MakeChecks
import Derived.Lib.LaidTab
namespace Go.Proofs.YtlbeincgknmijaaDoor
open Go.RowKit Go.ChangeShapes Go.Proofs.YtlbeincgknmijaaDoor.Ro

theorem own : ownKnob Tryd.prog.godebug = none := by kernel_rfl
theorem laidOut : laidOutB Tryd.prog = true := by kernel_rfl
theorem cells3 : Tryd.prog.cellsOf 3 = 1 := by kernel_rfl
theorem cells5 : Tryd.prog.cellsOf 5 = 1 := by kernel_rfl
theorem cells64 : Tryd.prog.cellsOf 51 = 64 := by kernel_rfl
/-- What is laid, and under which name. -/
abbrev laidL : List (String × DataW Unit) := Rows.mendStableRow.laid
abbrev tabName : String := (laidL.map (·.1)).headD Rows.mendStableRow.func
theorem glob0 : Tryd.prog.globalNamed tabName = some 0 := by kernel_rfl
theorem glob0Type : (Tryd.prog.globals[0]?).map (·.type) = some 51 := by kernel_rfl

theorem laid_tab : laidL = (tabName, Lib.tabData .u8 (Lib.deBruijn64tab.map (fun (n : Nat) => (n : Int)))) :: [] := by kernel_rfl
theorem plainL : (laidL.all fun x => x.2.handleName?.isNone) = true := by kernel_rfl

theorem tab_of_laid {W : World} (h : laidMetH Tryd.prog laidL W) : Bnd.Tab W := by
  rw [MakeChecks.laidMetH_plain _ _ _ plainL] at h
  rw [laid_tab] at h
  have ht := Lib.tabIs_of_head glob0 glob0Type Tryd.underlying51 Tryd.underlying5 cells5 cells64 h
  intro j hj
  have := ht.cell glob0 j (by simpa using hj)
  rw [this]
  simp [List.getD, List.getElem?_map, List.getElem?_eq_getElem hj]

theorem laid_met (os : Os) (args : Array Value) : laidMetH Tryd.prog laidL ((World.laidAll Tryd.prog os laidL).forCall (fun _ _ => 0) ⟨#[], args, []⟩).memory := by
  rw [MakeChecks.laidMetH_plain _ _ _ plainL]
  exact laidMet_laidAll _ (by kernel_rfl) (by kernel_rfl)

end Go.Proofs.YtlbeincgknmijaaDoor
