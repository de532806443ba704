/-
  No cell of these rows narrows 'for every input' (looked for: loops, veiled, ifaces, maps, wideKeys, modest, calm, conditions, laid).
  DERIVED. THE GIVEN ROWS OF THIS SEAT. 6 by the template 'for every input the law returns true; each argument reads behind the call as it read before'; 0 by the template 'total and deterministic' (their statements: YtfmnnfmcibnhpaaTotals.lean).
  GIVEN WITH THE SEED: the statements are not yours to turn. If you find one false, say at which input.
  Laid BY PROGRAM, IN A SANDBOX (cutbox-rows.mjs): the forced cells as the released guide's own fill.sh prints them over the translation 328c2a24d150f629… (all of the seat's roots in one cut). By AI agents, Wed Nov 11 2026. No macro, syntax, notation, axiom, sorry.
-/
import Derived.Test.YtfmnnfmcibnhpaaChecked
import GoSem.Claim
import GoSem.ClaimJoined
import GoSem.ClaimMapViews
import Derived.JoinedTies
import Derived.KernelRfl
namespace Go.Proofs.Ytfmnnfmcibnhpaa
/- THE CELL 'sum', in the pinned program and in every row, IS THE sha256 OF THE DUMP (.gsa) THAT YtfmnnfmcibnhpaaProg.lean LOADS. Nothing in Lean hashes anything: it is a label: what it is worth is what the hold of that sum in a sandbox is worth. -/
noncomputable def Try.pinned : Pinned := { name := "ytfmnnfmcibnhpaa", sum := "328c2a24d150f62965558b8da92cace977d7673f49a41b47a815c84440dbf66c", checked := Try.checked }
namespace Rows
def none {H : Type} : Left H := { results := [], args := [] }

/-- 'conventiclelaw03.LotActs': WHATEVER THE INPUT: true; the input reads as it did. -/
def lotActsSpec : ChangeSpec := { name := "lotActs", fn := fun _ => fun
  | [d1, d2] => { results := [.lit (.bool true)], args := [d1, d2] }
  | _ => none }
def lotActsRow : OpenClaim := { program := "ytfmnnfmcibnhpaa", sum := "328c2a24d150f62965558b8da92cace977d7673f49a41b47a815c84440dbf66c", func := "conventicle/conventiclelaw03.LotActs", spec := "lotActs", unfollowed := true, recurses := true, plainKeys := false, apart := false }
def LotActsSaid : Prop := lotActsRow.holds Try.pinned (OpenSpec.ofChange lotActsSpec)

/-- ITS FALSE NEIGHBOUR: 'it returns false'. Refute it at one input. -/
def lotActsWrong : ChangeSpec := { name := "lotActs", fn := fun _ => fun
  | [d1, d2] => { results := [.lit (.bool false)], args := [d1, d2] }
  | _ => none }
def LotActsWrongFalsely : Prop := lotActsRow.holds Try.pinned (OpenSpec.ofChange lotActsWrong)

/-- 'conventiclelaw03.LotKeeps': WHATEVER THE INPUT: true; the input reads as it did. -/
def lotKeepsSpec : ChangeSpec := { name := "lotKeeps", fn := fun _ => fun
  | [d1, d2, d3] => { results := [.lit (.bool true)], args := [d1, d2, d3] }
  | _ => none }
def lotKeepsRow : OpenClaim := { program := "ytfmnnfmcibnhpaa", sum := "328c2a24d150f62965558b8da92cace977d7673f49a41b47a815c84440dbf66c", func := "conventicle/conventiclelaw03.LotKeeps", spec := "lotKeeps", unfollowed := true, recurses := true, plainKeys := false, apart := false }
def LotKeepsSaid : Prop := lotKeepsRow.holds Try.pinned (OpenSpec.ofChange lotKeepsSpec)

/-- ITS FALSE NEIGHBOUR: 'it returns false'. Refute it at one input. -/
def lotKeepsWrong : ChangeSpec := { name := "lotKeeps", fn := fun _ => fun
  | [d1, d2, d3] => { results := [.lit (.bool false)], args := [d1, d2, d3] }
  | _ => none }
def LotKeepsWrongFalsely : Prop := lotKeepsRow.holds Try.pinned (OpenSpec.ofChange lotKeepsWrong)

/-- 'conventiclelaw03.LotEach': WHATEVER THE INPUT: true; the input reads as it did. -/
def lotEachSpec : ChangeSpec := { name := "lotEach", fn := fun _ => fun
  | [d1, d2, d3] => { results := [.lit (.bool true)], args := [d1, d2, d3] }
  | _ => none }
def lotEachRow : OpenClaim := { program := "ytfmnnfmcibnhpaa", sum := "328c2a24d150f62965558b8da92cace977d7673f49a41b47a815c84440dbf66c", func := "conventicle/conventiclelaw03.LotEach", spec := "lotEach", unfollowed := true, recurses := true, plainKeys := false, apart := false }
def LotEachSaid : Prop := lotEachRow.holds Try.pinned (OpenSpec.ofChange lotEachSpec)

/-- ITS FALSE NEIGHBOUR: 'it returns false'. Refute it at one input. -/
def lotEachWrong : ChangeSpec := { name := "lotEach", fn := fun _ => fun
  | [d1, d2, d3] => { results := [.lit (.bool false)], args := [d1, d2, d3] }
  | _ => none }
def LotEachWrongFalsely : Prop := lotEachRow.holds Try.pinned (OpenSpec.ofChange lotEachWrong)

/-- 'conventiclelaw03.LotRange': WHATEVER THE INPUT: true; the input reads as it did. -/
def lotRangeSpec : ChangeSpec := { name := "lotRange", fn := fun _ => fun
  | [d1, d2] => { results := [.lit (.bool true)], args := [d1, d2] }
  | _ => none }
def lotRangeRow : OpenClaim := { program := "ytfmnnfmcibnhpaa", sum := "328c2a24d150f62965558b8da92cace977d7673f49a41b47a815c84440dbf66c", func := "conventicle/conventiclelaw03.LotRange", spec := "lotRange", unfollowed := true, recurses := true, plainKeys := false, apart := false }
def LotRangeSaid : Prop := lotRangeRow.holds Try.pinned (OpenSpec.ofChange lotRangeSpec)

/-- ITS FALSE NEIGHBOUR: 'it returns false'. Refute it at one input. -/
def lotRangeWrong : ChangeSpec := { name := "lotRange", fn := fun _ => fun
  | [d1, d2] => { results := [.lit (.bool false)], args := [d1, d2] }
  | _ => none }
def LotRangeWrongFalsely : Prop := lotRangeRow.holds Try.pinned (OpenSpec.ofChange lotRangeWrong)

/-- 'conventiclelaw03.LotSame': WHATEVER THE INPUT: true; the input reads as it did. -/
def lotSameSpec : ChangeSpec := { name := "lotSame", fn := fun _ => fun
  | [d1, d2] => { results := [.lit (.bool true)], args := [d1, d2] }
  | _ => none }
def lotSameRow : OpenClaim := { program := "ytfmnnfmcibnhpaa", sum := "328c2a24d150f62965558b8da92cace977d7673f49a41b47a815c84440dbf66c", func := "conventicle/conventiclelaw03.LotSame", spec := "lotSame", unfollowed := true, recurses := true, plainKeys := false, apart := false }
def LotSameSaid : Prop := lotSameRow.holds Try.pinned (OpenSpec.ofChange lotSameSpec)

/-- ITS FALSE NEIGHBOUR: 'it returns false'. Refute it at one input. -/
def lotSameWrong : ChangeSpec := { name := "lotSame", fn := fun _ => fun
  | [d1, d2] => { results := [.lit (.bool false)], args := [d1, d2] }
  | _ => none }
def LotSameWrongFalsely : Prop := lotSameRow.holds Try.pinned (OpenSpec.ofChange lotSameWrong)

/-- 'conventiclelaw03.LotSome': WHATEVER THE INPUT: true; the input reads as it did. -/
def lotSomeSpec : ChangeSpec := { name := "lotSome", fn := fun _ => fun
  | [d1, d2, d3] => { results := [.lit (.bool true)], args := [d1, d2, d3] }
  | _ => none }
def lotSomeRow : OpenClaim := { program := "ytfmnnfmcibnhpaa", sum := "328c2a24d150f62965558b8da92cace977d7673f49a41b47a815c84440dbf66c", func := "conventicle/conventiclelaw03.LotSome", spec := "lotSome", unfollowed := true, recurses := true, plainKeys := false, apart := false }
def LotSomeSaid : Prop := lotSomeRow.holds Try.pinned (OpenSpec.ofChange lotSomeSpec)

/-- ITS FALSE NEIGHBOUR: 'it returns false'. Refute it at one input. -/
def lotSomeWrong : ChangeSpec := { name := "lotSome", fn := fun _ => fun
  | [d1, d2, d3] => { results := [.lit (.bool false)], args := [d1, d2, d3] }
  | _ => none }
def LotSomeWrongFalsely : Prop := lotSomeRow.holds Try.pinned (OpenSpec.ofChange lotSomeWrong)

/- THE SECOND FORM. 'bulk': how many values and letters a reading holds, each counted each time it is reached (what is shared counts as often as it is met; a slice's spare places count too). A statement '..UptoSaid' is the law's where the arguments, and the package variables that the reading takes, are together of bulk at most 1048576: NARROWER than '..Said'. Prove '..Said' where nothing that the law and all that it calls make is longer than what came in: it says more and counts as full. Else prove '..UptoSaid'. A law counts once. -/
mutual
def uptoBulk {H : Type} : DataW H → Nat
  | .lit (.string bytes) => bytes.length + 1
  | .lit _ => 1
  | .nil => 1
  | .ptr d => uptoBulk d + 1
  | .slice elems spare => uptoBulkAll elems + uptoBulkAll spare + 1
  | .agg parts => uptoBulkAll parts + 1
  | .iface _ d => uptoBulk d + 1
  | .map entries => uptoBulkEntries entries + 1
  | .held _ => 1
def uptoBulkAll {H : Type} : List (DataW H) → Nat
  | [] => 0
  | d :: r => uptoBulk d + uptoBulkAll r
def uptoBulkEntries {H : Type} : List (Lit × DataW H) → Nat
  | [] => 0
  | x :: r => uptoBulkEntry x + uptoBulkEntries r
def uptoBulkEntry {H : Type} : Lit × DataW H → Nat
  | (.string bytes, d) => bytes.length + uptoBulk d + 1
  | (_, d) => uptoBulk d + 1
 end
def uptoSmall : (H : Type) → List (DataW H) → Bool := fun _ ds => decide (uptoBulkAll ds ≤ 1048576)
def OpenSpec.upto (s : _root_.Go.ChangeSpec) : _root_.Go.OpenSpec := { _root_.Go.OpenSpec.ofChange s with cond := some uptoSmall }

/-- 'conventiclelaw03.LotActs', WHERE WHAT IT READS IS OF BULK AT MOST 1048576: true; the input reads as it did. -/
def lotActsUptoRow : OpenClaim := { program := "ytfmnnfmcibnhpaa", sum := "328c2a24d150f62965558b8da92cace977d7673f49a41b47a815c84440dbf66c", func := "conventicle/conventiclelaw03.LotActs", spec := "lotActs", unfollowed := true, recurses := true, plainKeys := false, apart := false, narrowed := true }
def LotActsUptoSaid : Prop := lotActsUptoRow.holds Try.pinned (OpenSpec.upto lotActsSpec)

/-- 'conventiclelaw03.LotKeeps', WHERE WHAT IT READS IS OF BULK AT MOST 1048576: true; the input reads as it did. -/
def lotKeepsUptoRow : OpenClaim := { program := "ytfmnnfmcibnhpaa", sum := "328c2a24d150f62965558b8da92cace977d7673f49a41b47a815c84440dbf66c", func := "conventicle/conventiclelaw03.LotKeeps", spec := "lotKeeps", unfollowed := true, recurses := true, plainKeys := false, apart := false, narrowed := true }
def LotKeepsUptoSaid : Prop := lotKeepsUptoRow.holds Try.pinned (OpenSpec.upto lotKeepsSpec)

/-- 'conventiclelaw03.LotEach', WHERE WHAT IT READS IS OF BULK AT MOST 1048576: true; the input reads as it did. -/
def lotEachUptoRow : OpenClaim := { program := "ytfmnnfmcibnhpaa", sum := "328c2a24d150f62965558b8da92cace977d7673f49a41b47a815c84440dbf66c", func := "conventicle/conventiclelaw03.LotEach", spec := "lotEach", unfollowed := true, recurses := true, plainKeys := false, apart := false, narrowed := true }
def LotEachUptoSaid : Prop := lotEachUptoRow.holds Try.pinned (OpenSpec.upto lotEachSpec)

/-- 'conventiclelaw03.LotRange', WHERE WHAT IT READS IS OF BULK AT MOST 1048576: true; the input reads as it did. -/
def lotRangeUptoRow : OpenClaim := { program := "ytfmnnfmcibnhpaa", sum := "328c2a24d150f62965558b8da92cace977d7673f49a41b47a815c84440dbf66c", func := "conventicle/conventiclelaw03.LotRange", spec := "lotRange", unfollowed := true, recurses := true, plainKeys := false, apart := false, narrowed := true }
def LotRangeUptoSaid : Prop := lotRangeUptoRow.holds Try.pinned (OpenSpec.upto lotRangeSpec)

/-- 'conventiclelaw03.LotSame', WHERE WHAT IT READS IS OF BULK AT MOST 1048576: true; the input reads as it did. -/
def lotSameUptoRow : OpenClaim := { program := "ytfmnnfmcibnhpaa", sum := "328c2a24d150f62965558b8da92cace977d7673f49a41b47a815c84440dbf66c", func := "conventicle/conventiclelaw03.LotSame", spec := "lotSame", unfollowed := true, recurses := true, plainKeys := false, apart := false, narrowed := true }
def LotSameUptoSaid : Prop := lotSameUptoRow.holds Try.pinned (OpenSpec.upto lotSameSpec)

/-- 'conventiclelaw03.LotSome', WHERE WHAT IT READS IS OF BULK AT MOST 1048576: true; the input reads as it did. -/
def lotSomeUptoRow : OpenClaim := { program := "ytfmnnfmcibnhpaa", sum := "328c2a24d150f62965558b8da92cace977d7673f49a41b47a815c84440dbf66c", func := "conventicle/conventiclelaw03.LotSome", spec := "lotSome", unfollowed := true, recurses := true, plainKeys := false, apart := false, narrowed := true }
def LotSomeUptoSaid : Prop := lotSomeUptoRow.holds Try.pinned (OpenSpec.upto lotSomeSpec)

end Rows
end Go.Proofs.Ytfmnnfmcibnhpaa
