/-
  DERIVED. GIVEN WITH THE SEED: THE CARDS: each row of YtkodeahhckibmaaDoorRows.lean that lists a variable, with what it lists TIED to the program's text (the seventh form; the later family's looks); each row that meets fmt, with fmt's text TOLD by the authors' own Lean function (tested against real Go, not proved from fmt's source: count such statements apart). THE CARD IS WHAT COUNTS. Prove the row's statement (the work); the ties are given (YtkodeahhckibmaaDoorTie.lean); close each card by the builder's one call (the guide's Derived/Test/ToyasCard.lean, 'card_holds'). Laid BY PROGRAM, IN A SANDBOX (cutbox-door.mjs). By AI agents, Wed Nov 11 2026. No macro, syntax, notation, axiom, sorry.
-/
import Derived.Test.YtkodeahhckibmaaDoorRows
import GoSem.ClaimSeven
namespace Go.Proofs.YtkodeahhckibmaaDoor
namespace Rows

/-- THE TIED CARD OF 'conventiclelaw07.RollActs'. -/
def rollActsCard : Claim7 := { stood := { row := rollActsRow, standIns := [], harness := (true, "3bc32c2b42660ea42875b3a387f4ffd84c0fad634bcac780056204fac76501c7"), looks := true }, kinds := [], alts := [], laidByText := true, laidKinds := [.data], laidTests := true, laidLooks := .later }
def RollActsCardSaid : Prop := Claim7.holds Tryd.pinned (.plain (OpenSpec.ofChange rollActsSpec)) rollActsCard

/-- THE TIED CARD OF 'conventiclelaw07.RollLive'. -/
def rollLiveCard : Claim7 := { stood := { row := rollLiveRow, standIns := [], harness := (true, "3bc32c2b42660ea42875b3a387f4ffd84c0fad634bcac780056204fac76501c7"), looks := true }, kinds := [], alts := [], laidByText := true, laidKinds := [.data], laidTests := true, laidLooks := .later }
def RollLiveCardSaid : Prop := Claim7.holds Tryd.pinned (.plain (OpenSpec.ofChange rollLiveSpec)) rollLiveCard

/-- THE SECOND FORM's CARD OF 'conventiclelaw07.RollActs'. -/
def rollActsUptoCard : Claim7 := { stood := { row := rollActsUptoRow, standIns := [], harness := (true, "3bc32c2b42660ea42875b3a387f4ffd84c0fad634bcac780056204fac76501c7"), looks := true }, kinds := [], alts := [], laidByText := true, laidKinds := [.data], laidTests := true, laidLooks := .later }
def RollActsUptoCardSaid : Prop := Claim7.holds Tryd.pinned (.plain (OpenSpec.upto rollActsSpec)) rollActsUptoCard

/-- THE SECOND FORM's CARD OF 'conventiclelaw07.RollLive'. -/
def rollLiveUptoCard : Claim7 := { stood := { row := rollLiveUptoRow, standIns := [], harness := (true, "3bc32c2b42660ea42875b3a387f4ffd84c0fad634bcac780056204fac76501c7"), looks := true }, kinds := [], alts := [], laidByText := true, laidKinds := [.data], laidTests := true, laidLooks := .later }
def RollLiveUptoCardSaid : Prop := Claim7.holds Tryd.pinned (.plain (OpenSpec.upto rollLiveSpec)) rollLiveUptoCard
end Rows
end Go.Proofs.YtkodeahhckibmaaDoor
