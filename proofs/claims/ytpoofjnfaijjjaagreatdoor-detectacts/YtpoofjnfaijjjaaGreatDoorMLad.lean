/-
  The table as it is laid; a world that has it.
-/
import Derived.Test.YtpoofjnfaijjjaaGreatDoorRows
import Derived.Test.YtpoofjnfaijjjaaGreatDoorMRRrf
import Derived.LaidLaws
import Derived.Handed
import Derived.Lay
import Derived.MakeChecks
import Derived.Lib.LaidTab
namespace Go.Proofs.YtpoofjnfaijjjaaGreatDoor
open Go.RowKit Go.ChangeShapes Go.Proofs.YtpoofjnfaijjjaaGreatDoor.Ro
theorem own : ownKnob Tryz.prog.godebug = none := by kernel_rfl
theorem laidOut : laidOutB Tryz.prog = true := by kernel_rfl
theorem cells5 : Tryz.prog.cellsOf 5 = 1 := by kernel_rfl
theorem cells64 : Tryz.prog.cellsOf 255 = 64 := by kernel_rfl
abbrev laidL : List (String × DataW Unit) := Rows.detectSaysRow.laid
abbrev tabName : String := (laidL.map (·.1)).headD Rows.detectSaysRow.func
theorem glob0 : Tryz.prog.globalNamed tabName = some 1 := by kernel_rfl
theorem glob0Type : (Tryz.prog.globals[1]?).map (·.type) = some 255 := by kernel_rfl
theorem laid_tab : laidL = (tabName, Lib.tabData .u8 (Lib.deBruijn64tab.map (fun (n : Nat) => (n : Int)))) :: [] := by kernel_rfl
theorem plainL : (laidL.all fun x => x.2.handleName?.isNone) = true := by kernel_rfl
theorem tab_of_laid {W : World} (h : laidMetH Tryz.prog laidL W) : Bnd.Tab W := by
  rw [MakeChecks.laidMetH_plain _ _ _ plainL] at h
  rw [laid_tab] at h
  have ht := Lib.tabIs_of_head glob0 glob0Type Tryz.underlying255 Tryz.underlying5 cells5 cells64 h
  intro j hj
  have := ht.cell glob0 j (by simpa using hj)
  rw [this]
  simp [List.getD, List.getElem?_map, List.getElem?_eq_getElem hj]
theorem laid_met (os : Os) (args : Array Value) : laidMetH Tryz.prog laidL ((World.laidAll Tryz.prog os laidL).forCall (fun _ _ => 0) ⟨#[], args, []⟩).memory := by
  rw [MakeChecks.laidMetH_plain _ _ _ plainL]
  exact laidMet_laidAll _ (by kernel_rfl) (by kernel_rfl)
end Go.Proofs.YtpoofjnfaijjjaaGreatDoor
