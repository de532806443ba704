/-
  No cell of these rows narrows 'for every input' (looked for: loops, veiled, ifaces, maps, wideKeys, modest, calm, conditions, laid).
  DERIVED. THE GIVEN ROWS OF THIS SEAT. 5 by the template 'for every input the law returns true; each argument reads behind the call as it read before'; 0 by the template 'total and deterministic' (their statements: YtajklinlcmkjmaaTotals.lean).
  GIVEN WITH THE SEED: the statements are not yours to turn. If you find one false, say at which input.
  Laid BY PROGRAM, IN A SANDBOX (cutbox-rows.mjs): the forced cells as the released guide's own fill.sh prints them over the translation eaafdac6fd8c9507… (all of the seat's roots in one cut). By AI agents, Wed Nov 11 2026. No macro, syntax, notation, axiom, sorry.
-/
import Derived.Test.YtajklinlcmkjmaaChecked
import GoSem.Claim
import GoSem.ClaimJoined
import GoSem.ClaimMapViews
import Derived.JoinedTies
import Derived.KernelRfl
namespace Go.Proofs.Ytajklinlcmkjmaa
/- THE CELL 'sum', in the pinned program and in every row, IS THE sha256 OF THE DUMP (.gsa) THAT YtajklinlcmkjmaaProg.lean LOADS. Nothing in Lean hashes anything: it is a label: what it is worth is what the hold of that sum in a sandbox is worth. -/
noncomputable def Try.pinned : Pinned := { name := "ytajklinlcmkjmaa", sum := "eaafdac6fd8c95074e069f9af045bb01649163f1917bcdf471bbb65aefc70815", checked := Try.checked }
namespace Rows
def none {H : Type} : Left H := { results := [], args := [] }

/-- 'conventiclelaw13.ShelfActs': WHATEVER THE INPUT: true; the input reads as it did. -/
def shelfActsSpec : ChangeSpec := { name := "shelfActs", fn := fun _ => fun
  | [d] => { results := [.lit (.bool true)], args := [d] }
  | _ => none }
def shelfActsRow : OpenClaim := { program := "ytajklinlcmkjmaa", sum := "eaafdac6fd8c95074e069f9af045bb01649163f1917bcdf471bbb65aefc70815", func := "conventicle/conventiclelaw13.ShelfActs", spec := "shelfActs", unfollowed := true, recurses := true, apart := false }
def ShelfActsSaid : Prop := shelfActsRow.holds Try.pinned (OpenSpec.ofChange shelfActsSpec)

/-- ITS FALSE NEIGHBOUR: 'it returns false'. Refute it at one input. -/
def shelfActsWrong : ChangeSpec := { name := "shelfActs", fn := fun _ => fun
  | [d] => { results := [.lit (.bool false)], args := [d] }
  | _ => none }
def ShelfActsWrongFalsely : Prop := shelfActsRow.holds Try.pinned (OpenSpec.ofChange shelfActsWrong)

/-- 'conventiclelaw13.ShelfKeeps': WHATEVER THE INPUT: true; the input reads as it did. -/
def shelfKeepsSpec : ChangeSpec := { name := "shelfKeeps", fn := fun _ => fun
  | [d1, d2] => { results := [.lit (.bool true)], args := [d1, d2] }
  | _ => none }
def shelfKeepsRow : OpenClaim := { program := "ytajklinlcmkjmaa", sum := "eaafdac6fd8c95074e069f9af045bb01649163f1917bcdf471bbb65aefc70815", func := "conventicle/conventiclelaw13.ShelfKeeps", spec := "shelfKeeps", unfollowed := true, recurses := true, apart := false }
def ShelfKeepsSaid : Prop := shelfKeepsRow.holds Try.pinned (OpenSpec.ofChange shelfKeepsSpec)

/-- ITS FALSE NEIGHBOUR: 'it returns false'. Refute it at one input. -/
def shelfKeepsWrong : ChangeSpec := { name := "shelfKeeps", fn := fun _ => fun
  | [d1, d2] => { results := [.lit (.bool false)], args := [d1, d2] }
  | _ => none }
def ShelfKeepsWrongFalsely : Prop := shelfKeepsRow.holds Try.pinned (OpenSpec.ofChange shelfKeepsWrong)

/-- 'conventiclelaw13.ShelfReach': WHATEVER THE INPUT: true; the input reads as it did. -/
def shelfReachSpec : ChangeSpec := { name := "shelfReach", fn := fun _ => fun
  | [d1, d2] => { results := [.lit (.bool true)], args := [d1, d2] }
  | _ => none }
def shelfReachRow : OpenClaim := { program := "ytajklinlcmkjmaa", sum := "eaafdac6fd8c95074e069f9af045bb01649163f1917bcdf471bbb65aefc70815", func := "conventicle/conventiclelaw13.ShelfReach", spec := "shelfReach", unfollowed := true, recurses := true, apart := false }
def ShelfReachSaid : Prop := shelfReachRow.holds Try.pinned (OpenSpec.ofChange shelfReachSpec)

/-- ITS FALSE NEIGHBOUR: 'it returns false'. Refute it at one input. -/
def shelfReachWrong : ChangeSpec := { name := "shelfReach", fn := fun _ => fun
  | [d1, d2] => { results := [.lit (.bool false)], args := [d1, d2] }
  | _ => none }
def ShelfReachWrongFalsely : Prop := shelfReachRow.holds Try.pinned (OpenSpec.ofChange shelfReachWrong)

/-- 'conventiclelaw13.ShelfTrims': WHATEVER THE INPUT: true; the input reads as it did. -/
def shelfTrimsSpec : ChangeSpec := { name := "shelfTrims", fn := fun _ => fun
  | [d1, d2] => { results := [.lit (.bool true)], args := [d1, d2] }
  | _ => none }
def shelfTrimsRow : OpenClaim := { program := "ytajklinlcmkjmaa", sum := "eaafdac6fd8c95074e069f9af045bb01649163f1917bcdf471bbb65aefc70815", func := "conventicle/conventiclelaw13.ShelfTrims", spec := "shelfTrims", unfollowed := true, recurses := true, apart := false }
def ShelfTrimsSaid : Prop := shelfTrimsRow.holds Try.pinned (OpenSpec.ofChange shelfTrimsSpec)

/-- ITS FALSE NEIGHBOUR: 'it returns false'. Refute it at one input. -/
def shelfTrimsWrong : ChangeSpec := { name := "shelfTrims", fn := fun _ => fun
  | [d1, d2] => { results := [.lit (.bool false)], args := [d1, d2] }
  | _ => none }
def ShelfTrimsWrongFalsely : Prop := shelfTrimsRow.holds Try.pinned (OpenSpec.ofChange shelfTrimsWrong)

/-- 'conventiclelaw13.ShelfArgs': WHATEVER THE INPUT: true; the input reads as it did. -/
def shelfArgsSpec : ChangeSpec := { name := "shelfArgs", fn := fun _ => fun
  | [d1, d2] => { results := [.lit (.bool true)], args := [d1, d2] }
  | _ => none }
def shelfArgsRow : OpenClaim := { program := "ytajklinlcmkjmaa", sum := "eaafdac6fd8c95074e069f9af045bb01649163f1917bcdf471bbb65aefc70815", func := "conventicle/conventiclelaw13.ShelfArgs", spec := "shelfArgs", unfollowed := true, recurses := true, apart := false }
def ShelfArgsSaid : Prop := shelfArgsRow.holds Try.pinned (OpenSpec.ofChange shelfArgsSpec)

/-- ITS FALSE NEIGHBOUR: 'it returns false'. Refute it at one input. -/
def shelfArgsWrong : ChangeSpec := { name := "shelfArgs", fn := fun _ => fun
  | [d1, d2] => { results := [.lit (.bool false)], args := [d1, d2] }
  | _ => none }
def ShelfArgsWrongFalsely : Prop := shelfArgsRow.holds Try.pinned (OpenSpec.ofChange shelfArgsWrong)

/- THE SECOND FORM. 'bulk': how many values and letters a reading holds, each counted each time it is reached (what is shared counts as often as it is met; a slice's spare places count too). A statement '..UptoSaid' is the law's where the arguments, and the package variables that the reading takes, are together of bulk at most 1048576: NARROWER than '..Said'. Prove '..Said' where nothing that the law and all that it calls make is longer than what came in: it says more and counts as full. Else prove '..UptoSaid'. A law counts once. -/
mutual
def uptoBulk {H : Type} : DataW H → Nat
  | .lit (.string bytes) => bytes.length + 1
  | .lit _ => 1
  | .nil => 1
  | .ptr d => uptoBulk d + 1
  | .slice elems spare => uptoBulkAll elems + uptoBulkAll spare + 1
  | .agg parts => uptoBulkAll parts + 1
  | .iface _ d => uptoBulk d + 1
  | .map entries => uptoBulkEntries entries + 1
  | .held _ => 1
def uptoBulkAll {H : Type} : List (DataW H) → Nat
  | [] => 0
  | d :: r => uptoBulk d + uptoBulkAll r
def uptoBulkEntries {H : Type} : List (Lit × DataW H) → Nat
  | [] => 0
  | x :: r => uptoBulkEntry x + uptoBulkEntries r
def uptoBulkEntry {H : Type} : Lit × DataW H → Nat
  | (.string bytes, d) => bytes.length + uptoBulk d + 1
  | (_, d) => uptoBulk d + 1
 end
def uptoSmall : (H : Type) → List (DataW H) → Bool := fun _ ds => decide (uptoBulkAll ds ≤ 1048576)
def OpenSpec.upto (s : _root_.Go.ChangeSpec) : _root_.Go.OpenSpec := { _root_.Go.OpenSpec.ofChange s with cond := some uptoSmall }

/-- 'conventiclelaw13.ShelfActs', WHERE WHAT IT READS IS OF BULK AT MOST 1048576: true; the input reads as it did. -/
def shelfActsUptoRow : OpenClaim := { program := "ytajklinlcmkjmaa", sum := "eaafdac6fd8c95074e069f9af045bb01649163f1917bcdf471bbb65aefc70815", func := "conventicle/conventiclelaw13.ShelfActs", spec := "shelfActs", unfollowed := true, recurses := true, apart := false, narrowed := true }
def ShelfActsUptoSaid : Prop := shelfActsUptoRow.holds Try.pinned (OpenSpec.upto shelfActsSpec)

/-- 'conventiclelaw13.ShelfKeeps', WHERE WHAT IT READS IS OF BULK AT MOST 1048576: true; the input reads as it did. -/
def shelfKeepsUptoRow : OpenClaim := { program := "ytajklinlcmkjmaa", sum := "eaafdac6fd8c95074e069f9af045bb01649163f1917bcdf471bbb65aefc70815", func := "conventicle/conventiclelaw13.ShelfKeeps", spec := "shelfKeeps", unfollowed := true, recurses := true, apart := false, narrowed := true }
def ShelfKeepsUptoSaid : Prop := shelfKeepsUptoRow.holds Try.pinned (OpenSpec.upto shelfKeepsSpec)

/-- 'conventiclelaw13.ShelfReach', WHERE WHAT IT READS IS OF BULK AT MOST 1048576: true; the input reads as it did. -/
def shelfReachUptoRow : OpenClaim := { program := "ytajklinlcmkjmaa", sum := "eaafdac6fd8c95074e069f9af045bb01649163f1917bcdf471bbb65aefc70815", func := "conventicle/conventiclelaw13.ShelfReach", spec := "shelfReach", unfollowed := true, recurses := true, apart := false, narrowed := true }
def ShelfReachUptoSaid : Prop := shelfReachUptoRow.holds Try.pinned (OpenSpec.upto shelfReachSpec)

/-- 'conventiclelaw13.ShelfTrims', WHERE WHAT IT READS IS OF BULK AT MOST 1048576: true; the input reads as it did. -/
def shelfTrimsUptoRow : OpenClaim := { program := "ytajklinlcmkjmaa", sum := "eaafdac6fd8c95074e069f9af045bb01649163f1917bcdf471bbb65aefc70815", func := "conventicle/conventiclelaw13.ShelfTrims", spec := "shelfTrims", unfollowed := true, recurses := true, apart := false, narrowed := true }
def ShelfTrimsUptoSaid : Prop := shelfTrimsUptoRow.holds Try.pinned (OpenSpec.upto shelfTrimsSpec)

/-- 'conventiclelaw13.ShelfArgs', WHERE WHAT IT READS IS OF BULK AT MOST 1048576: true; the input reads as it did. -/
def shelfArgsUptoRow : OpenClaim := { program := "ytajklinlcmkjmaa", sum := "eaafdac6fd8c95074e069f9af045bb01649163f1917bcdf471bbb65aefc70815", func := "conventicle/conventiclelaw13.ShelfArgs", spec := "shelfArgs", unfollowed := true, recurses := true, apart := false, narrowed := true }
def ShelfArgsUptoSaid : Prop := shelfArgsUptoRow.holds Try.pinned (OpenSpec.upto shelfArgsSpec)

end Rows
end Go.Proofs.Ytajklinlcmkjmaa
