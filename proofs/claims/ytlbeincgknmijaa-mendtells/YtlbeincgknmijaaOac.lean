/-
  What happens to a shelf: a slice of acts, opened.
-/
import Derived.Test.YtlbeincgknmijaaTbl
import Derived.Test.YtlbeincgknmijaaOpn
import Derived.Deep.Strs
import Derived.ProofKit
import Derived.OpenShut
namespace Go.Proofs.Ytlbeincgknmijaa
open Go.RowKit Go.Deep Go.ChangeShapes

/-- An act: its kind, its number, whether that counts from the low, the message. -/
structure Ac where
  k : Int
  n : Int
  near : Bool
  g : Ms
def acC (x : Ac) : List Value := [.int .i64 x.k, .int .u64 x.n, .bool x.near, .int .i64 x.g.s, .int .u64 x.g.m, .string x.g.x]
structure AcOk (x : Ac) : Prop where
  n : 0 ≤ x.n ∧ x.n ≤ 18446744073709551615
/-- The slice v reads as the acts l. -/
def Ra (v : Value) (l : List Ac) (w : World) : Prop :=
  ∃ a cap, v = .slice a l.length cap ∧ (l.length = 0 ∨ ∃ g off, a = some ⟨g, off, none⟩ ∧ ∀ j (hj : j < l.length) c v, (acC l[j])[c]? = some v → w.cell? ⟨g, off + j * 6 + c, none⟩ = some v)
def IsActs (w : World) (a : Option Addr) (len cap : Nat) (l : List Ac) : Prop := l.length = len ∧ Ra (.slice a len cap) l w ∧ ∀ x ∈ l, AcOk x

section
variable {H : Type} {enc : TypeId × Value → H} {w : World} {base : Nat} {spare : Nat → Bool} {held : Bool}
end

theorem Ra.keep {v : Value} {l : List Ac} {w w' : World} (h : Ra v l w) (hw : ∀ g, v.ownBlock = some g → g < w.heap.size → w'.heap[g]? = w.heap[g]?) : Ra v l w' := by
  obtain ⟨a, cap, rfl, h3⟩ := h
  refine ⟨a, cap, rfl, ?_⟩
  rcases h3 with h3 | ⟨g, off, rfl, h3⟩
  · exact Or.inl h3
  · refine Or.inr ⟨g, off, rfl, fun j hj c v hv => ?_⟩
    have k := h3 j hj c v hv
    exact (World.cell?_of_block (w := w) (hw g rfl (World.block_lt_of_cell? _ _ k))).trans k
theorem Ra.below {v : Value} {l : List Ac} {w w' : World} (h : Ra v l w) (hb : Below w.heap.size w w') : Ra v l w' := h.keep fun g _ hg => hb.block g hg
theorem Ra.at_ {a : Option Addr} {len cap : Nat} {l : List Ac} {w : World} (h : Ra (.slice a len cap) l w) {j : Nat} (hj : j < l.length) : ∃ g off, a = some ⟨g, off, none⟩ ∧ g < w.heap.size ∧
    w.cell? ⟨g, off + j * 6, none⟩ = some (.int .i64 l[j].k) ∧ w.cell? ⟨g, off + j * 6 + 1, none⟩ = some (.int .u64 l[j].n) ∧ w.cell? ⟨g, off + j * 6 + 2, none⟩ = some (.bool l[j].near) ∧ w.cell? ⟨g, off + j * 6 + 3, none⟩ = some (.int .i64 l[j].g.s) ∧ w.cell? ⟨g, off + j * 6 + 4, none⟩ = some (.int .u64 l[j].g.m) ∧ w.cell? ⟨g, off + j * 6 + 5, none⟩ = some (.string l[j].g.x) := by
  obtain ⟨_, _, e, h3⟩ := h
  cases e
  rcases h3 with h3 | ⟨g, off, rfl, h3⟩
  · omega
  · have k := h3 j hj
    exact ⟨g, off, rfl, World.block_lt_of_cell? _ _ (k 0 _ rfl), k 0 _ rfl, k 1 _ rfl, k 2 _ rfl, k 3 _ rfl, k 4 _ rfl, k 5 _ rfl⟩
end Go.Proofs.Ytlbeincgknmijaa
