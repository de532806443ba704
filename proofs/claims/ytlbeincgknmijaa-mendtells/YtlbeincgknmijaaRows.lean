/-
  No cell of these rows narrows 'for every input' (looked for: loops, veiled, ifaces, maps, wideKeys, modest, calm, conditions, laid).
  DERIVED. THE GIVEN ROWS OF THIS SEAT. 4 by the template 'for every input the law returns true; each argument reads behind the call as it read before'; 0 by the template 'total and deterministic' (their statements: YtlbeincgknmijaaTotals.lean).
  GIVEN WITH THE SEED: the statements are not yours to turn. If you find one false, say at which input.
  Laid BY PROGRAM, IN A SANDBOX (cutbox-rows.mjs): the forced cells as the released guide's own fill.sh prints them over the translation 9d9bb36ce1996dc4… (all of the seat's roots in one cut). By AI agents, Wed Nov 11 2026. No macro, syntax, notation, axiom, sorry.
-/
import Derived.Test.YtlbeincgknmijaaChecked
import GoSem.Claim
import GoSem.ClaimJoined
import GoSem.ClaimMapViews
import Derived.JoinedTies
import Derived.KernelRfl
namespace Go.Proofs.Ytlbeincgknmijaa
/- THE CELL 'sum', in the pinned program and in every row, IS THE sha256 OF THE DUMP (.gsa) THAT YtlbeincgknmijaaProg.lean LOADS. Nothing in Lean hashes anything: it is a label: what it is worth is what the hold of that sum in a sandbox is worth. -/
noncomputable def Try.pinned : Pinned := { name := "ytlbeincgknmijaa", sum := "9d9bb36ce1996dc412029464cf577fa93a50a76cfc0a069c8bb3e934974c3bdb", checked := Try.checked }
namespace Rows
def none {H : Type} : Left H := { results := [], args := [] }

/-- 'conventiclelaw14.MendTells': WHATEVER THE INPUT: true; the input reads as it did. -/
def mendTellsSpec : ChangeSpec := { name := "mendTells", fn := fun _ => fun
  | [d1, d2, d3, d4, d5, d6, d7] => { results := [.lit (.bool true)], args := [d1, d2, d3, d4, d5, d6, d7] }
  | _ => none }
def mendTellsRow : OpenClaim := { program := "ytlbeincgknmijaa", sum := "9d9bb36ce1996dc412029464cf577fa93a50a76cfc0a069c8bb3e934974c3bdb", func := "conventicle/conventiclelaw14.MendTells", spec := "mendTells", unfollowed := true, recurses := true, apart := false }
def MendTellsSaid : Prop := mendTellsRow.holds Try.pinned (OpenSpec.ofChange mendTellsSpec)

/-- ITS FALSE NEIGHBOUR: 'it returns false'. Refute it at one input. -/
def mendTellsWrong : ChangeSpec := { name := "mendTells", fn := fun _ => fun
  | [d1, d2, d3, d4, d5, d6, d7] => { results := [.lit (.bool false)], args := [d1, d2, d3, d4, d5, d6, d7] }
  | _ => none }
def MendTellsWrongFalsely : Prop := mendTellsRow.holds Try.pinned (OpenSpec.ofChange mendTellsWrong)

/-- 'conventiclelaw14.MendBoth': WHATEVER THE INPUT: true; the input reads as it did. -/
def mendBothSpec : ChangeSpec := { name := "mendBoth", fn := fun _ => fun
  | [d1, d2, d3] => { results := [.lit (.bool true)], args := [d1, d2, d3] }
  | _ => none }
def mendBothRow : OpenClaim := { program := "ytlbeincgknmijaa", sum := "9d9bb36ce1996dc412029464cf577fa93a50a76cfc0a069c8bb3e934974c3bdb", func := "conventicle/conventiclelaw14.MendBoth", spec := "mendBoth", unfollowed := true, recurses := true, apart := false }
def MendBothSaid : Prop := mendBothRow.holds Try.pinned (OpenSpec.ofChange mendBothSpec)

/-- ITS FALSE NEIGHBOUR: 'it returns false'. Refute it at one input. -/
def mendBothWrong : ChangeSpec := { name := "mendBoth", fn := fun _ => fun
  | [d1, d2, d3] => { results := [.lit (.bool false)], args := [d1, d2, d3] }
  | _ => none }
def MendBothWrongFalsely : Prop := mendBothRow.holds Try.pinned (OpenSpec.ofChange mendBothWrong)

/-- 'conventiclelaw14.MendGives': WHATEVER THE INPUT: true; the input reads as it did. -/
def mendGivesSpec : ChangeSpec := { name := "mendGives", fn := fun _ => fun
  | [d1, d2, d3] => { results := [.lit (.bool true)], args := [d1, d2, d3] }
  | _ => none }
def mendGivesRow : OpenClaim := { program := "ytlbeincgknmijaa", sum := "9d9bb36ce1996dc412029464cf577fa93a50a76cfc0a069c8bb3e934974c3bdb", func := "conventicle/conventiclelaw14.MendGives", spec := "mendGives", unfollowed := true, recurses := true, apart := false }
def MendGivesSaid : Prop := mendGivesRow.holds Try.pinned (OpenSpec.ofChange mendGivesSpec)

/-- ITS FALSE NEIGHBOUR: 'it returns false'. Refute it at one input. -/
def mendGivesWrong : ChangeSpec := { name := "mendGives", fn := fun _ => fun
  | [d1, d2, d3] => { results := [.lit (.bool false)], args := [d1, d2, d3] }
  | _ => none }
def MendGivesWrongFalsely : Prop := mendGivesRow.holds Try.pinned (OpenSpec.ofChange mendGivesWrong)

/-- 'conventiclelaw14.MendLack': WHATEVER THE INPUT: true; the input reads as it did. -/
def mendLackSpec : ChangeSpec := { name := "mendLack", fn := fun _ => fun
  | [d1, d2, d3] => { results := [.lit (.bool true)], args := [d1, d2, d3] }
  | _ => none }
def mendLackRow : OpenClaim := { program := "ytlbeincgknmijaa", sum := "9d9bb36ce1996dc412029464cf577fa93a50a76cfc0a069c8bb3e934974c3bdb", func := "conventicle/conventiclelaw14.MendLack", spec := "mendLack", unfollowed := true, recurses := true, apart := false }
def MendLackSaid : Prop := mendLackRow.holds Try.pinned (OpenSpec.ofChange mendLackSpec)

/-- ITS FALSE NEIGHBOUR: 'it returns false'. Refute it at one input. -/
def mendLackWrong : ChangeSpec := { name := "mendLack", fn := fun _ => fun
  | [d1, d2, d3] => { results := [.lit (.bool false)], args := [d1, d2, d3] }
  | _ => none }
def MendLackWrongFalsely : Prop := mendLackRow.holds Try.pinned (OpenSpec.ofChange mendLackWrong)

/- THE SECOND FORM. 'bulk': how many values and letters a reading holds, each counted each time it is reached (what is shared counts as often as it is met; a slice's spare places count too). A statement '..UptoSaid' is the law's where the arguments, and the package variables that the reading takes, are together of bulk at most 1048576: NARROWER than '..Said'. Prove '..Said' where nothing that the law and all that it calls make is longer than what came in: it says more and counts as full. Else prove '..UptoSaid'. A law counts once. -/
mutual
def uptoBulk {H : Type} : DataW H → Nat
  | .lit (.string bytes) => bytes.length + 1
  | .lit _ => 1
  | .nil => 1
  | .ptr d => uptoBulk d + 1
  | .slice elems spare => uptoBulkAll elems + uptoBulkAll spare + 1
  | .agg parts => uptoBulkAll parts + 1
  | .iface _ d => uptoBulk d + 1
  | .map entries => uptoBulkEntries entries + 1
  | .held _ => 1
def uptoBulkAll {H : Type} : List (DataW H) → Nat
  | [] => 0
  | d :: r => uptoBulk d + uptoBulkAll r
def uptoBulkEntries {H : Type} : List (Lit × DataW H) → Nat
  | [] => 0
  | x :: r => uptoBulkEntry x + uptoBulkEntries r
def uptoBulkEntry {H : Type} : Lit × DataW H → Nat
  | (.string bytes, d) => bytes.length + uptoBulk d + 1
  | (_, d) => uptoBulk d + 1
 end
def uptoSmall : (H : Type) → List (DataW H) → Bool := fun _ ds => decide (uptoBulkAll ds ≤ 1048576)
def OpenSpec.upto (s : _root_.Go.ChangeSpec) : _root_.Go.OpenSpec := { _root_.Go.OpenSpec.ofChange s with cond := some uptoSmall }

/-- 'conventiclelaw14.MendTells', WHERE WHAT IT READS IS OF BULK AT MOST 1048576: true; the input reads as it did. -/
def mendTellsUptoRow : OpenClaim := { program := "ytlbeincgknmijaa", sum := "9d9bb36ce1996dc412029464cf577fa93a50a76cfc0a069c8bb3e934974c3bdb", func := "conventicle/conventiclelaw14.MendTells", spec := "mendTells", unfollowed := true, recurses := true, apart := false, narrowed := true }
def MendTellsUptoSaid : Prop := mendTellsUptoRow.holds Try.pinned (OpenSpec.upto mendTellsSpec)

/-- 'conventiclelaw14.MendBoth', WHERE WHAT IT READS IS OF BULK AT MOST 1048576: true; the input reads as it did. -/
def mendBothUptoRow : OpenClaim := { program := "ytlbeincgknmijaa", sum := "9d9bb36ce1996dc412029464cf577fa93a50a76cfc0a069c8bb3e934974c3bdb", func := "conventicle/conventiclelaw14.MendBoth", spec := "mendBoth", unfollowed := true, recurses := true, apart := false, narrowed := true }
def MendBothUptoSaid : Prop := mendBothUptoRow.holds Try.pinned (OpenSpec.upto mendBothSpec)

/-- 'conventiclelaw14.MendGives', WHERE WHAT IT READS IS OF BULK AT MOST 1048576: true; the input reads as it did. -/
def mendGivesUptoRow : OpenClaim := { program := "ytlbeincgknmijaa", sum := "9d9bb36ce1996dc412029464cf577fa93a50a76cfc0a069c8bb3e934974c3bdb", func := "conventicle/conventiclelaw14.MendGives", spec := "mendGives", unfollowed := true, recurses := true, apart := false, narrowed := true }
def MendGivesUptoSaid : Prop := mendGivesUptoRow.holds Try.pinned (OpenSpec.upto mendGivesSpec)

/-- 'conventiclelaw14.MendLack', WHERE WHAT IT READS IS OF BULK AT MOST 1048576: true; the input reads as it did. -/
def mendLackUptoRow : OpenClaim := { program := "ytlbeincgknmijaa", sum := "9d9bb36ce1996dc412029464cf577fa93a50a76cfc0a069c8bb3e934974c3bdb", func := "conventicle/conventiclelaw14.MendLack", spec := "mendLack", unfollowed := true, recurses := true, apart := false, narrowed := true }
def MendLackUptoSaid : Prop := mendLackUptoRow.holds Try.pinned (OpenSpec.upto mendLackSpec)

end Rows
end Go.Proofs.Ytlbeincgknmijaa
