/-
  No cell of these rows narrows 'for every input' (looked for: loops, veiled, ifaces, maps, wideKeys, modest, calm, conditions, laid).
  DERIVED. THE GIVEN ROWS OF THIS SEAT. 5 by the template 'for every input the law returns true; each argument reads behind the call as it read before'; 0 by the template 'total and deterministic' (their statements: YtnhpkpodeojldaaTotals.lean).
  GIVEN WITH THE SEED: the statements are not yours to turn. If you find one false, say at which input.
  Laid BY PROGRAM, IN A SANDBOX (cutbox-rows.mjs): the forced cells as the released guide's own fill.sh prints them over the translation f279881cd25dcac2… (all of the seat's roots in one cut). By AI agents, Wed Nov 11 2026. No macro, syntax, notation, axiom, sorry.
-/
import Derived.Test.YtnhpkpodeojldaaChecked
import GoSem.Claim
import GoSem.ClaimJoined
import GoSem.ClaimMapViews
import Derived.JoinedTies
import Derived.KernelRfl
namespace Go.Proofs.Ytnhpkpodeojldaa
/- THE CELL 'sum', in the pinned program and in every row, IS THE sha256 OF THE DUMP (.gsa) THAT YtnhpkpodeojldaaProg.lean LOADS. Nothing in Lean hashes anything: it is a label: what it is worth is what the hold of that sum in a sandbox is worth. -/
noncomputable def Try.pinned : Pinned := { name := "ytnhpkpodeojldaa", sum := "f279881cd25dcac2006a2398f12e049039414f598847828d1d99eec49960c4fa", checked := Try.checked }
namespace Rows
def none {H : Type} : Left H := { results := [], args := [] }

/-- 'conventiclelaw09.RoundActs': WHATEVER THE INPUT: true; the input reads as it did. -/
def roundActsSpec : ChangeSpec := { name := "roundActs", fn := fun _ => fun
  | [d1, d2] => { results := [.lit (.bool true)], args := [d1, d2] }
  | _ => none }
def roundActsRow : OpenClaim := { program := "ytnhpkpodeojldaa", sum := "f279881cd25dcac2006a2398f12e049039414f598847828d1d99eec49960c4fa", func := "conventicle/conventiclelaw09.RoundActs", spec := "roundActs", unfollowed := true, recurses := true, apart := false }
def RoundActsSaid : Prop := roundActsRow.holds Try.pinned (OpenSpec.ofChange roundActsSpec)

/-- ITS FALSE NEIGHBOUR: 'it returns false'. Refute it at one input. -/
def roundActsWrong : ChangeSpec := { name := "roundActs", fn := fun _ => fun
  | [d1, d2] => { results := [.lit (.bool false)], args := [d1, d2] }
  | _ => none }
def RoundActsWrongFalsely : Prop := roundActsRow.holds Try.pinned (OpenSpec.ofChange roundActsWrong)

/-- 'conventiclelaw09.RoundFair': WHATEVER THE INPUT: true; the input reads as it did. -/
def roundFairSpec : ChangeSpec := { name := "roundFair", fn := fun _ => fun
  | [d1, d2, d3] => { results := [.lit (.bool true)], args := [d1, d2, d3] }
  | _ => none }
def roundFairRow : OpenClaim := { program := "ytnhpkpodeojldaa", sum := "f279881cd25dcac2006a2398f12e049039414f598847828d1d99eec49960c4fa", func := "conventicle/conventiclelaw09.RoundFair", spec := "roundFair", unfollowed := true, recurses := true, apart := false }
def RoundFairSaid : Prop := roundFairRow.holds Try.pinned (OpenSpec.ofChange roundFairSpec)

/-- ITS FALSE NEIGHBOUR: 'it returns false'. Refute it at one input. -/
def roundFairWrong : ChangeSpec := { name := "roundFair", fn := fun _ => fun
  | [d1, d2, d3] => { results := [.lit (.bool false)], args := [d1, d2, d3] }
  | _ => none }
def RoundFairWrongFalsely : Prop := roundFairRow.holds Try.pinned (OpenSpec.ofChange roundFairWrong)

/-- 'conventiclelaw09.RoundHelps': WHATEVER THE INPUT: true; the input reads as it did. -/
def roundHelpsSpec : ChangeSpec := { name := "roundHelps", fn := fun _ => fun
  | [d1, d2, d3, d4] => { results := [.lit (.bool true)], args := [d1, d2, d3, d4] }
  | _ => none }
def roundHelpsRow : OpenClaim := { program := "ytnhpkpodeojldaa", sum := "f279881cd25dcac2006a2398f12e049039414f598847828d1d99eec49960c4fa", func := "conventicle/conventiclelaw09.RoundHelps", spec := "roundHelps", unfollowed := true, recurses := true, apart := false }
def RoundHelpsSaid : Prop := roundHelpsRow.holds Try.pinned (OpenSpec.ofChange roundHelpsSpec)

/-- ITS FALSE NEIGHBOUR: 'it returns false'. Refute it at one input. -/
def roundHelpsWrong : ChangeSpec := { name := "roundHelps", fn := fun _ => fun
  | [d1, d2, d3, d4] => { results := [.lit (.bool false)], args := [d1, d2, d3, d4] }
  | _ => none }
def RoundHelpsWrongFalsely : Prop := roundHelpsRow.holds Try.pinned (OpenSpec.ofChange roundHelpsWrong)

/-- 'conventiclelaw09.RoundJoins': WHATEVER THE INPUT: true; the input reads as it did. -/
def roundJoinsSpec : ChangeSpec := { name := "roundJoins", fn := fun _ => fun
  | [d1, d2, d3] => { results := [.lit (.bool true)], args := [d1, d2, d3] }
  | _ => none }
def roundJoinsRow : OpenClaim := { program := "ytnhpkpodeojldaa", sum := "f279881cd25dcac2006a2398f12e049039414f598847828d1d99eec49960c4fa", func := "conventicle/conventiclelaw09.RoundJoins", spec := "roundJoins", unfollowed := true, recurses := true, apart := false }
def RoundJoinsSaid : Prop := roundJoinsRow.holds Try.pinned (OpenSpec.ofChange roundJoinsSpec)

/-- ITS FALSE NEIGHBOUR: 'it returns false'. Refute it at one input. -/
def roundJoinsWrong : ChangeSpec := { name := "roundJoins", fn := fun _ => fun
  | [d1, d2, d3] => { results := [.lit (.bool false)], args := [d1, d2, d3] }
  | _ => none }
def RoundJoinsWrongFalsely : Prop := roundJoinsRow.holds Try.pinned (OpenSpec.ofChange roundJoinsWrong)

/-- 'conventiclelaw09.RoundNone': WHATEVER THE INPUT: true; the input reads as it did. -/
def roundNoneSpec : ChangeSpec := { name := "roundNone", fn := fun _ => fun
  | [d1, d2, d3] => { results := [.lit (.bool true)], args := [d1, d2, d3] }
  | _ => none }
def roundNoneRow : OpenClaim := { program := "ytnhpkpodeojldaa", sum := "f279881cd25dcac2006a2398f12e049039414f598847828d1d99eec49960c4fa", func := "conventicle/conventiclelaw09.RoundNone", spec := "roundNone", unfollowed := true, recurses := true, apart := false }
def RoundNoneSaid : Prop := roundNoneRow.holds Try.pinned (OpenSpec.ofChange roundNoneSpec)

/-- ITS FALSE NEIGHBOUR: 'it returns false'. Refute it at one input. -/
def roundNoneWrong : ChangeSpec := { name := "roundNone", fn := fun _ => fun
  | [d1, d2, d3] => { results := [.lit (.bool false)], args := [d1, d2, d3] }
  | _ => none }
def RoundNoneWrongFalsely : Prop := roundNoneRow.holds Try.pinned (OpenSpec.ofChange roundNoneWrong)

/- THE SECOND FORM. 'bulk': how many values and letters a reading holds, each counted each time it is reached (what is shared counts as often as it is met; a slice's spare places count too). A statement '..UptoSaid' is the law's where the arguments, and the package variables that the reading takes, are together of bulk at most 1048576: NARROWER than '..Said'. Prove '..Said' where nothing that the law and all that it calls make is longer than what came in: it says more and counts as full. Else prove '..UptoSaid'. A law counts once. -/
mutual
def uptoBulk {H : Type} : DataW H → Nat
  | .lit (.string bytes) => bytes.length + 1
  | .lit _ => 1
  | .nil => 1
  | .ptr d => uptoBulk d + 1
  | .slice elems spare => uptoBulkAll elems + uptoBulkAll spare + 1
  | .agg parts => uptoBulkAll parts + 1
  | .iface _ d => uptoBulk d + 1
  | .map entries => uptoBulkEntries entries + 1
  | .held _ => 1
def uptoBulkAll {H : Type} : List (DataW H) → Nat
  | [] => 0
  | d :: r => uptoBulk d + uptoBulkAll r
def uptoBulkEntries {H : Type} : List (Lit × DataW H) → Nat
  | [] => 0
  | x :: r => uptoBulkEntry x + uptoBulkEntries r
def uptoBulkEntry {H : Type} : Lit × DataW H → Nat
  | (.string bytes, d) => bytes.length + uptoBulk d + 1
  | (_, d) => uptoBulk d + 1
 end
def uptoSmall : (H : Type) → List (DataW H) → Bool := fun _ ds => decide (uptoBulkAll ds ≤ 1048576)
def OpenSpec.upto (s : _root_.Go.ChangeSpec) : _root_.Go.OpenSpec := { _root_.Go.OpenSpec.ofChange s with cond := some uptoSmall }

/-- 'conventiclelaw09.RoundActs', WHERE WHAT IT READS IS OF BULK AT MOST 1048576: true; the input reads as it did. -/
def roundActsUptoRow : OpenClaim := { program := "ytnhpkpodeojldaa", sum := "f279881cd25dcac2006a2398f12e049039414f598847828d1d99eec49960c4fa", func := "conventicle/conventiclelaw09.RoundActs", spec := "roundActs", unfollowed := true, recurses := true, apart := false, narrowed := true }
def RoundActsUptoSaid : Prop := roundActsUptoRow.holds Try.pinned (OpenSpec.upto roundActsSpec)

/-- 'conventiclelaw09.RoundFair', WHERE WHAT IT READS IS OF BULK AT MOST 1048576: true; the input reads as it did. -/
def roundFairUptoRow : OpenClaim := { program := "ytnhpkpodeojldaa", sum := "f279881cd25dcac2006a2398f12e049039414f598847828d1d99eec49960c4fa", func := "conventicle/conventiclelaw09.RoundFair", spec := "roundFair", unfollowed := true, recurses := true, apart := false, narrowed := true }
def RoundFairUptoSaid : Prop := roundFairUptoRow.holds Try.pinned (OpenSpec.upto roundFairSpec)

/-- 'conventiclelaw09.RoundHelps', WHERE WHAT IT READS IS OF BULK AT MOST 1048576: true; the input reads as it did. -/
def roundHelpsUptoRow : OpenClaim := { program := "ytnhpkpodeojldaa", sum := "f279881cd25dcac2006a2398f12e049039414f598847828d1d99eec49960c4fa", func := "conventicle/conventiclelaw09.RoundHelps", spec := "roundHelps", unfollowed := true, recurses := true, apart := false, narrowed := true }
def RoundHelpsUptoSaid : Prop := roundHelpsUptoRow.holds Try.pinned (OpenSpec.upto roundHelpsSpec)

/-- 'conventiclelaw09.RoundJoins', WHERE WHAT IT READS IS OF BULK AT MOST 1048576: true; the input reads as it did. -/
def roundJoinsUptoRow : OpenClaim := { program := "ytnhpkpodeojldaa", sum := "f279881cd25dcac2006a2398f12e049039414f598847828d1d99eec49960c4fa", func := "conventicle/conventiclelaw09.RoundJoins", spec := "roundJoins", unfollowed := true, recurses := true, apart := false, narrowed := true }
def RoundJoinsUptoSaid : Prop := roundJoinsUptoRow.holds Try.pinned (OpenSpec.upto roundJoinsSpec)

/-- 'conventiclelaw09.RoundNone', WHERE WHAT IT READS IS OF BULK AT MOST 1048576: true; the input reads as it did. -/
def roundNoneUptoRow : OpenClaim := { program := "ytnhpkpodeojldaa", sum := "f279881cd25dcac2006a2398f12e049039414f598847828d1d99eec49960c4fa", func := "conventicle/conventiclelaw09.RoundNone", spec := "roundNone", unfollowed := true, recurses := true, apart := false, narrowed := true }
def RoundNoneUptoSaid : Prop := roundNoneUptoRow.holds Try.pinned (OpenSpec.upto roundNoneSpec)

end Rows
end Go.Proofs.Ytnhpkpodeojldaa
