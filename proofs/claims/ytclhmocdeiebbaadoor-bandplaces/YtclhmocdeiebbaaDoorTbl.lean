/-
  The table as it is laid; a world that has it; what a list that came in holds.
-/
import Derived.Test.YtclhmocdeiebbaaDoorRows
import Derived.Test.YtclhmocdeiebbaaDoorRef
import Derived.ProofKit
import Derived.OpenShut
import Derived.LaidLaws
import Derived.Handed
import Derived.Lay
import Derived.MakeChecks
import Derived.Lib.LaidTab
namespace Go.Proofs.YtclhmocdeiebbaaDoor
open Go.RowKit Go.ChangeShapes

theorem own : ownKnob Tryd.prog.godebug = none := by kernel_rfl
theorem laidOut : laidOutB Tryd.prog = true := by kernel_rfl
theorem cells3 : Tryd.prog.cellsOf 3 = 1 := by kernel_rfl
theorem cells5 : Tryd.prog.cellsOf 5 = 1 := by kernel_rfl
theorem cells48 : Tryd.prog.cellsOf 48 = 64 := by kernel_rfl
/-- What is laid, and under which name. -/
abbrev laidL : List (String × DataW Unit) := Rows.bandTellsRow.laid
abbrev tabName : String := (laidL.map (·.1)).headD Rows.bandTellsRow.func
theorem glob0 : Tryd.prog.globalNamed tabName = some 0 := by kernel_rfl
theorem glob0Type : (Tryd.prog.globals[0]?).map (·.type) = some 48 := by kernel_rfl

theorem laid_tab : laidL = (tabName, Lib.tabData .u8 (Lib.deBruijn64tab.map (fun (n : Nat) => (n : Int)))) :: [] := by kernel_rfl
theorem plainL : (laidL.all fun x => x.2.handleName?.isNone) = true := by kernel_rfl

theorem tab_of_laid {W : World} (h : laidMetH Tryd.prog laidL W) : Tab W := by
  rw [MakeChecks.laidMetH_plain _ _ _ plainL] at h
  rw [laid_tab] at h
  have ht := Lib.tabIs_of_head glob0 glob0Type Tryd.underlying48 Tryd.underlying5 cells5 cells48 h
  intro j hj
  have := ht.cell glob0 j (by simpa using hj)
  rw [this]
  simp [List.getD, List.getElem?_map, List.getElem?_eq_getElem hj]

theorem laid_met (os : Os) (args : Array Value) : laidMetH Tryd.prog laidL ((World.laidAll Tryd.prog os laidL).forCall (fun _ _ => 0) ⟨#[], args, []⟩).memory := by
  rw [MakeChecks.laidMetH_plain _ _ _ plainL]
  exact laidMet_laidAll _ (by kernel_rfl) (by kernel_rfl)

theorem u64_nat {x : Int} (h : (Lit.int .u64 x).wf = true) : ∃ m : Nat, x = m ∧ m < lim := by
  have := bounds_u64 h
  refine ⟨x.toNat, by omega, ?_⟩
  unfold lim
  omega

theorem open_rd {H : Type} {enc : TypeId × Value → H} {W : World} {t e : TypeId} {base fuel : Nat} {held : Bool} (ht : Tryd.prog.underlying t = some (.slice e)) (he : Tryd.prog.underlying e = some (.int .i64)) (hc : Tryd.prog.cellsOf e = 1) {a : Option Addr} {len cap : Nat} {x : DataW H × List MemPlace}
    (h : DataW.trod enc Tryd.prog W base (fun _ => true) held fuel t [.slice a len cap] = some x) : ∃ l, Rd (.slice a len cap) l W := by
  rcases open_ints ht he hc h with ⟨hcs, _⟩ | ⟨a', len', cap', zs, hcs, _, h1, h2, h3, _, h4, h5⟩
  · simp at hcs
    obtain ⟨rfl, rfl, rfl⟩ := hcs
    exact ⟨[], none, 0, rfl, Or.inl rfl⟩
  · simp at hcs
    obtain ⟨rfl, rfl, rfl⟩ := hcs
    simp at h3
    have hl : (zs.take len).length = len := by rw [List.length_take]; omega
    refine ⟨zs.take len, some a', cap, by rw [hl], ?_⟩
    rcases Nat.eq_zero_or_pos len with h0 | h0
    · exact Or.inl (by omega)
    · right
      obtain ⟨b, off, spot⟩ := a'
      have hspot : spot = none := by
        have := h4 0 (by omega)
        simpa [Addr.add] using World.cell?_spot this
      subst hspot
      refine ⟨b, off, rfl, fun j hj => ?_⟩
      have := h4 j (by omega)
      rw [List.getElem_take]
      simp only [List.getD, List.getElem?_eq_getElem (show j < zs.length by omega), Option.getD_some] at this
      rw [← this]
      unfold Addr.add; split <;> simp_all
theorem open_list {H : Type} {enc : TypeId × Value → H} {W : World} {a : Option Addr} {len cap : Nat} {d : DataW H} {ps : List MemPlace} (h : DataW.Trod enc Tryd.prog W 0 (fun _ => true) true 23 (.slice a len cap) d ps) : ∃ l, Rd (.slice a len cap) l W := by
  obtain ⟨m, hm⟩ := h
  exact open_rd Tryd.underlying23 Tryd.underlying3 cells3 hm

end Go.Proofs.YtclhmocdeiebbaaDoor
