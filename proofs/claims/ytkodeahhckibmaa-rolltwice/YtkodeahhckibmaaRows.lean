/-
  No cell of these rows narrows 'for every input' (looked for: loops, veiled, ifaces, maps, wideKeys, modest, calm, conditions, laid).
  DERIVED. THE GIVEN ROWS OF THIS SEAT. 5 by the template 'for every input the law returns true; each argument reads behind the call as it read before'; 0 by the template 'total and deterministic' (their statements: YtkodeahhckibmaaTotals.lean).
  GIVEN WITH THE SEED: the statements are not yours to turn. If you find one false, say at which input.
  Laid BY PROGRAM, IN A SANDBOX (cutbox-rows.mjs): the forced cells as the released guide's own fill.sh prints them over the translation 5ad959684f080a97… (all of the seat's roots in one cut). By AI agents, Wed Nov 11 2026. No macro, syntax, notation, axiom, sorry.
-/
import Derived.Test.YtkodeahhckibmaaChecked
import GoSem.Claim
import GoSem.ClaimJoined
import GoSem.ClaimMapViews
import Derived.JoinedTies
import Derived.KernelRfl
namespace Go.Proofs.Ytkodeahhckibmaa
/- THE CELL 'sum', in the pinned program and in every row, IS THE sha256 OF THE DUMP (.gsa) THAT YtkodeahhckibmaaProg.lean LOADS. Nothing in Lean hashes anything: it is a label: what it is worth is what the hold of that sum in a sandbox is worth. -/
noncomputable def Try.pinned : Pinned := { name := "ytkodeahhckibmaa", sum := "5ad959684f080a97c9bea39da3c07b22b1c78d628ba4b595b784c5f3359a118b", checked := Try.checked }
namespace Rows
def none {H : Type} : Left H := { results := [], args := [] }

/-- 'conventiclelaw07.RollOrder': WHATEVER THE INPUT: true; the input reads as it did. -/
def rollOrderSpec : ChangeSpec := { name := "rollOrder", fn := fun _ => fun
  | [d1, d2, d3] => { results := [.lit (.bool true)], args := [d1, d2, d3] }
  | _ => none }
def rollOrderRow : OpenClaim := { program := "ytkodeahhckibmaa", sum := "5ad959684f080a97c9bea39da3c07b22b1c78d628ba4b595b784c5f3359a118b", func := "conventicle/conventiclelaw07.RollOrder", spec := "rollOrder", unfollowed := true, recurses := true, apart := false }
def RollOrderSaid : Prop := rollOrderRow.holds Try.pinned (OpenSpec.ofChange rollOrderSpec)

/-- ITS FALSE NEIGHBOUR: 'it returns false'. Refute it at one input. -/
def rollOrderWrong : ChangeSpec := { name := "rollOrder", fn := fun _ => fun
  | [d1, d2, d3] => { results := [.lit (.bool false)], args := [d1, d2, d3] }
  | _ => none }
def RollOrderWrongFalsely : Prop := rollOrderRow.holds Try.pinned (OpenSpec.ofChange rollOrderWrong)

/-- 'conventiclelaw07.RollSelf': WHATEVER THE INPUT: true; the input reads as it did. -/
def rollSelfSpec : ChangeSpec := { name := "rollSelf", fn := fun _ => fun
  | [d1, d2, d3] => { results := [.lit (.bool true)], args := [d1, d2, d3] }
  | _ => none }
def rollSelfRow : OpenClaim := { program := "ytkodeahhckibmaa", sum := "5ad959684f080a97c9bea39da3c07b22b1c78d628ba4b595b784c5f3359a118b", func := "conventicle/conventiclelaw07.RollSelf", spec := "rollSelf", unfollowed := true, recurses := true, apart := false }
def RollSelfSaid : Prop := rollSelfRow.holds Try.pinned (OpenSpec.ofChange rollSelfSpec)

/-- ITS FALSE NEIGHBOUR: 'it returns false'. Refute it at one input. -/
def rollSelfWrong : ChangeSpec := { name := "rollSelf", fn := fun _ => fun
  | [d1, d2, d3] => { results := [.lit (.bool false)], args := [d1, d2, d3] }
  | _ => none }
def RollSelfWrongFalsely : Prop := rollSelfRow.holds Try.pinned (OpenSpec.ofChange rollSelfWrong)

/-- 'conventiclelaw07.RollMerges': WHATEVER THE INPUT: true; the input reads as it did. -/
def rollMergesSpec : ChangeSpec := { name := "rollMerges", fn := fun _ => fun
  | [d1, d2, d3] => { results := [.lit (.bool true)], args := [d1, d2, d3] }
  | _ => none }
def rollMergesRow : OpenClaim := { program := "ytkodeahhckibmaa", sum := "5ad959684f080a97c9bea39da3c07b22b1c78d628ba4b595b784c5f3359a118b", func := "conventicle/conventiclelaw07.RollMerges", spec := "rollMerges", unfollowed := true, recurses := true, apart := false }
def RollMergesSaid : Prop := rollMergesRow.holds Try.pinned (OpenSpec.ofChange rollMergesSpec)

/-- ITS FALSE NEIGHBOUR: 'it returns false'. Refute it at one input. -/
def rollMergesWrong : ChangeSpec := { name := "rollMerges", fn := fun _ => fun
  | [d1, d2, d3] => { results := [.lit (.bool false)], args := [d1, d2, d3] }
  | _ => none }
def RollMergesWrongFalsely : Prop := rollMergesRow.holds Try.pinned (OpenSpec.ofChange rollMergesWrong)

/-- 'conventiclelaw07.RollBoth': WHATEVER THE INPUT: true; the input reads as it did. -/
def rollBothSpec : ChangeSpec := { name := "rollBoth", fn := fun _ => fun
  | [d1, d2] => { results := [.lit (.bool true)], args := [d1, d2] }
  | _ => none }
def rollBothRow : OpenClaim := { program := "ytkodeahhckibmaa", sum := "5ad959684f080a97c9bea39da3c07b22b1c78d628ba4b595b784c5f3359a118b", func := "conventicle/conventiclelaw07.RollBoth", spec := "rollBoth", unfollowed := true, recurses := true, apart := false }
def RollBothSaid : Prop := rollBothRow.holds Try.pinned (OpenSpec.ofChange rollBothSpec)

/-- ITS FALSE NEIGHBOUR: 'it returns false'. Refute it at one input. -/
def rollBothWrong : ChangeSpec := { name := "rollBoth", fn := fun _ => fun
  | [d1, d2] => { results := [.lit (.bool false)], args := [d1, d2] }
  | _ => none }
def RollBothWrongFalsely : Prop := rollBothRow.holds Try.pinned (OpenSpec.ofChange rollBothWrong)

/-- 'conventiclelaw07.RollTwice': WHATEVER THE INPUT: true; the input reads as it did. -/
def rollTwiceSpec : ChangeSpec := { name := "rollTwice", fn := fun _ => fun
  | [d1, d2] => { results := [.lit (.bool true)], args := [d1, d2] }
  | _ => none }
def rollTwiceRow : OpenClaim := { program := "ytkodeahhckibmaa", sum := "5ad959684f080a97c9bea39da3c07b22b1c78d628ba4b595b784c5f3359a118b", func := "conventicle/conventiclelaw07.RollTwice", spec := "rollTwice", unfollowed := true, recurses := true, apart := false }
def RollTwiceSaid : Prop := rollTwiceRow.holds Try.pinned (OpenSpec.ofChange rollTwiceSpec)

/-- ITS FALSE NEIGHBOUR: 'it returns false'. Refute it at one input. -/
def rollTwiceWrong : ChangeSpec := { name := "rollTwice", fn := fun _ => fun
  | [d1, d2] => { results := [.lit (.bool false)], args := [d1, d2] }
  | _ => none }
def RollTwiceWrongFalsely : Prop := rollTwiceRow.holds Try.pinned (OpenSpec.ofChange rollTwiceWrong)

/- THE SECOND FORM. 'bulk': how many values and letters a reading holds, each counted each time it is reached (what is shared counts as often as it is met; a slice's spare places count too). A statement '..UptoSaid' is the law's where the arguments, and the package variables that the reading takes, are together of bulk at most 1048576: NARROWER than '..Said'. Prove '..Said' where nothing that the law and all that it calls make is longer than what came in: it says more and counts as full. Else prove '..UptoSaid'. A law counts once. -/
mutual
def uptoBulk {H : Type} : DataW H → Nat
  | .lit (.string bytes) => bytes.length + 1
  | .lit _ => 1
  | .nil => 1
  | .ptr d => uptoBulk d + 1
  | .slice elems spare => uptoBulkAll elems + uptoBulkAll spare + 1
  | .agg parts => uptoBulkAll parts + 1
  | .iface _ d => uptoBulk d + 1
  | .map entries => uptoBulkEntries entries + 1
  | .held _ => 1
def uptoBulkAll {H : Type} : List (DataW H) → Nat
  | [] => 0
  | d :: r => uptoBulk d + uptoBulkAll r
def uptoBulkEntries {H : Type} : List (Lit × DataW H) → Nat
  | [] => 0
  | x :: r => uptoBulkEntry x + uptoBulkEntries r
def uptoBulkEntry {H : Type} : Lit × DataW H → Nat
  | (.string bytes, d) => bytes.length + uptoBulk d + 1
  | (_, d) => uptoBulk d + 1
 end
def uptoSmall : (H : Type) → List (DataW H) → Bool := fun _ ds => decide (uptoBulkAll ds ≤ 1048576)
def OpenSpec.upto (s : _root_.Go.ChangeSpec) : _root_.Go.OpenSpec := { _root_.Go.OpenSpec.ofChange s with cond := some uptoSmall }

/-- 'conventiclelaw07.RollOrder', WHERE WHAT IT READS IS OF BULK AT MOST 1048576: true; the input reads as it did. -/
def rollOrderUptoRow : OpenClaim := { program := "ytkodeahhckibmaa", sum := "5ad959684f080a97c9bea39da3c07b22b1c78d628ba4b595b784c5f3359a118b", func := "conventicle/conventiclelaw07.RollOrder", spec := "rollOrder", unfollowed := true, recurses := true, apart := false, narrowed := true }
def RollOrderUptoSaid : Prop := rollOrderUptoRow.holds Try.pinned (OpenSpec.upto rollOrderSpec)

/-- 'conventiclelaw07.RollSelf', WHERE WHAT IT READS IS OF BULK AT MOST 1048576: true; the input reads as it did. -/
def rollSelfUptoRow : OpenClaim := { program := "ytkodeahhckibmaa", sum := "5ad959684f080a97c9bea39da3c07b22b1c78d628ba4b595b784c5f3359a118b", func := "conventicle/conventiclelaw07.RollSelf", spec := "rollSelf", unfollowed := true, recurses := true, apart := false, narrowed := true }
def RollSelfUptoSaid : Prop := rollSelfUptoRow.holds Try.pinned (OpenSpec.upto rollSelfSpec)

/-- 'conventiclelaw07.RollMerges', WHERE WHAT IT READS IS OF BULK AT MOST 1048576: true; the input reads as it did. -/
def rollMergesUptoRow : OpenClaim := { program := "ytkodeahhckibmaa", sum := "5ad959684f080a97c9bea39da3c07b22b1c78d628ba4b595b784c5f3359a118b", func := "conventicle/conventiclelaw07.RollMerges", spec := "rollMerges", unfollowed := true, recurses := true, apart := false, narrowed := true }
def RollMergesUptoSaid : Prop := rollMergesUptoRow.holds Try.pinned (OpenSpec.upto rollMergesSpec)

/-- 'conventiclelaw07.RollBoth', WHERE WHAT IT READS IS OF BULK AT MOST 1048576: true; the input reads as it did. -/
def rollBothUptoRow : OpenClaim := { program := "ytkodeahhckibmaa", sum := "5ad959684f080a97c9bea39da3c07b22b1c78d628ba4b595b784c5f3359a118b", func := "conventicle/conventiclelaw07.RollBoth", spec := "rollBoth", unfollowed := true, recurses := true, apart := false, narrowed := true }
def RollBothUptoSaid : Prop := rollBothUptoRow.holds Try.pinned (OpenSpec.upto rollBothSpec)

/-- 'conventiclelaw07.RollTwice', WHERE WHAT IT READS IS OF BULK AT MOST 1048576: true; the input reads as it did. -/
def rollTwiceUptoRow : OpenClaim := { program := "ytkodeahhckibmaa", sum := "5ad959684f080a97c9bea39da3c07b22b1c78d628ba4b595b784c5f3359a118b", func := "conventicle/conventiclelaw07.RollTwice", spec := "rollTwice", unfollowed := true, recurses := true, apart := false, narrowed := true }
def RollTwiceUptoSaid : Prop := rollTwiceUptoRow.holds Try.pinned (OpenSpec.upto rollTwiceSpec)

end Rows
end Go.Proofs.Ytkodeahhckibmaa
