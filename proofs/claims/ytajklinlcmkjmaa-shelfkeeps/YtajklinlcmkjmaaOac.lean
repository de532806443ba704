/-
  What happens to a shelf: a slice of acts, opened.
-/
import Derived.Test.YtajklinlcmkjmaaTbl
import Derived.Test.YtajklinlcmkjmaaOpn
import Derived.Deep.Strs
import Derived.ProofKit
import Derived.OpenShut
namespace Go.Proofs.Ytajklinlcmkjmaa
open Go.RowKit Go.Deep Go.ChangeShapes

/-- An act: its kind, its number, whether that counts from the low, the message. -/
structure Ac where
  k : Int
  n : Int
  near : Bool
  g : Ms
def acC (x : Ac) : List Value := [.int .i64 x.k, .int .u64 x.n, .bool x.near, .int .i64 x.g.s, .int .u64 x.g.m, .string x.g.x]
structure AcOk (x : Ac) : Prop where
  n : 0 ≤ x.n ∧ x.n ≤ 18446744073709551615
/-- The slice v reads as the acts l. -/
def Ra (v : Value) (l : List Ac) (w : World) : Prop :=
  ∃ a cap, v = .slice a l.length cap ∧ (l.length = 0 ∨ ∃ g off, a = some ⟨g, off, none⟩ ∧ ∀ j (hj : j < l.length) c v, (acC l[j])[c]? = some v → w.cell? ⟨g, off + j * 6 + c, none⟩ = some v)
def IsActs (w : World) (a : Option Addr) (len cap : Nat) (l : List Ac) : Prop := l.length = len ∧ Ra (.slice a len cap) l w ∧ ∀ x ∈ l, AcOk x

section
variable {H : Type} {enc : TypeId × Value → H} {w : World} {base : Nat} {spare : Nat → Bool} {held : Bool}
theorem trod_act {n : Nat} {cs : List Value} {x : DataW H × List MemPlace} (h : DataW.trod enc Try.prog w base spare held n 38 cs = some x) :
    ∃ A : Ac, AcOk A ∧ cs = acC A := by
  have hc : Try.prog.cellsOf 38 = 6 := by kernel_rfl
  have hcM : Try.prog.cellsOf 27 = 3 := by kernel_rfl
  have hcb : Try.prog.cellsOf 4 = 1 := by kernel_rfl
  have hc3 : Try.prog.cellsOf 3 = 1 := by kernel_rfl
  have hcs : Try.prog.cellsOf 9 = 1 := by kernel_rfl
  have hcu : Try.prog.cellsOf 25 = 1 := by kernel_rfl
  obtain ⟨xs, m, _, _, hlen, hxl, hf⟩ := DataW.trod_struct Try.underlying38 h
  rw [hc] at hlen
  match cs, hlen with
  | [a, b, c, d, e, f], _ =>
    match xs, hxl with
    | [y0, y1, y2, y3], _ =>
      have f0 := hf 0 _ rfl
      have f1 := hf 1 _ rfl
      have f2 := hf 2 _ rfl
      have f3 := hf 3 _ rfl
      simp [hcM, hcb, hc3, hcu] at f0 f1 f2 f3
      obtain ⟨n1, rfl, _⟩ := trod_one Try.underlying3 f0
      obtain ⟨n2, rfl, w2⟩ := trod_one Try.underlying25 f1
      obtain ⟨p, e0, _⟩ := DataW.trod_bool Try.underlying4 f2
      obtain ⟨z0, z1, z2, m', _, _, g0, g1, g2⟩ := trod_struct3 Try.underlying27 f3
      simp [hc3, hcu, hcs] at g0 g1 g2
      obtain ⟨n4, rfl, _⟩ := trod_one Try.underlying3 g0
      obtain ⟨n5, rfl, w5⟩ := trod_one Try.underlying25 g1
      obtain ⟨s, e6, _⟩ := DataW.trod_string Try.underlying9 g2
      simp at e0 e6
      subst e0
      subst e6
      exact ⟨⟨n1, n2, p, ⟨n4, n5, s⟩⟩, ⟨u64_of w2⟩, rfl⟩
end

theorem open_acts {H : Type} {enc : TypeId × Value → H} {W : World} {a : Option Addr} {len cap : Nat} {d : DataW H} {ps : List MemPlace} (h : DataW.Trod enc Try.prog W 0 (fun _ => true) true 22 (.slice a len cap) d ps) : ∃ l, IsActs W a len cap l := by
  obtain ⟨fuel, hf0⟩ := h
  have hf : DataW.trod enc Try.prog W 0 (fun _ => true) true fuel 22 [.slice a len cap] = some (d, ps) := hf0
  have hC : Try.prog.cellsOf 38 = 6 := by kernel_rfl
  rcases open_slice Try.underlying22 hf with ⟨hcs, _⟩ | ⟨a', l', c', m, n, D, Pl', hcs, _, hlc, hm, hmm, _, hel⟩
  · simp at hcs
    obtain ⟨rfl, rfl, rfl⟩ := hcs
    exact ⟨[], rfl, ⟨_, _, rfl, Or.inl rfl⟩, fun u hu => by cases hu⟩
  · simp at hcs
    obtain ⟨rfl, rfl, rfl⟩ := hcs
    simp at hmm
    subst hmm
    rw [hC] at hel
    have key : ∀ j, ∃ A : Ac, j < len → AcOk A ∧ ∀ c v, (acC A)[c]? = some v → W.cell? ((a'.add (j * 6)).add c) = some v := by
      intro j
      by_cases hj : j < len
      · obtain ⟨cs', hc, hy⟩ := hel j (by omega)
        obtain ⟨_, hlen, hcell⟩ := World.cells?_some hc
        obtain ⟨A, h1, h2⟩ := trod_act hy
        refine ⟨A, fun _ => ⟨h1, fun c v hv => ?_⟩⟩
        have hc6 : c < 6 := (List.getElem?_eq_some_iff.1 hv).1
        rw [hcell c hc6, h2]
        exact hv
      · exact ⟨⟨0, 0, false, zM⟩, fun h => absurd h hj⟩
    obtain ⟨f, hf⟩ : ∃ f : Nat → Ac, ∀ j, j < len → AcOk (f j) ∧ ∀ c v, (acC (f j))[c]? = some v → W.cell? ((a'.add (j * 6)).add c) = some v :=
      ⟨fun j => Classical.choose (key j), fun j hj => Classical.choose_spec (key j) hj⟩
    clear key
    refine ⟨(List.range len).map f, by simp, ⟨_, _, by simp; exact ⟨rfl, rfl⟩, ?_⟩, fun u hu => ?_⟩
    · rcases Nat.eq_zero_or_pos len with h0 | h0
      · exact Or.inl (by simpa using h0)
      · right
        obtain ⟨b, off, spot⟩ := a'
        have hspot : spot = none := by
          have := (hf 0 h0).2 0 _ rfl
          simpa [Addr.add] using World.cell?_spot this
        subst hspot
        refine ⟨b, off, rfl, fun j hj c v hv => ?_⟩
        simp at hj
        simp only [List.getElem_map, List.getElem_range] at hv
        have hs := (hf j hj).2 c v hv
        simp only [add_flat] at hs
        exact hs
    · obtain ⟨j, hj, rfl⟩ := List.mem_map.1 hu
      exact (hf j (List.mem_range.1 hj)).1
theorem Ra.keep {v : Value} {l : List Ac} {w w' : World} (h : Ra v l w) (hw : ∀ g, v.ownBlock = some g → g < w.heap.size → w'.heap[g]? = w.heap[g]?) : Ra v l w' := by
  obtain ⟨a, cap, rfl, h3⟩ := h
  refine ⟨a, cap, rfl, ?_⟩
  rcases h3 with h3 | ⟨g, off, rfl, h3⟩
  · exact Or.inl h3
  · refine Or.inr ⟨g, off, rfl, fun j hj c v hv => ?_⟩
    have k := h3 j hj c v hv
    exact (World.cell?_of_block (w := w) (hw g rfl (World.block_lt_of_cell? _ _ k))).trans k
theorem Ra.below {v : Value} {l : List Ac} {w w' : World} (h : Ra v l w) (hb : Below w.heap.size w w') : Ra v l w' := h.keep fun g _ hg => hb.block g hg
theorem Ra.at_ {a : Option Addr} {len cap : Nat} {l : List Ac} {w : World} (h : Ra (.slice a len cap) l w) {j : Nat} (hj : j < l.length) : ∃ g off, a = some ⟨g, off, none⟩ ∧ g < w.heap.size ∧
    w.cell? ⟨g, off + j * 6, none⟩ = some (.int .i64 l[j].k) ∧ w.cell? ⟨g, off + j * 6 + 1, none⟩ = some (.int .u64 l[j].n) ∧ w.cell? ⟨g, off + j * 6 + 2, none⟩ = some (.bool l[j].near) ∧ w.cell? ⟨g, off + j * 6 + 3, none⟩ = some (.int .i64 l[j].g.s) ∧ w.cell? ⟨g, off + j * 6 + 4, none⟩ = some (.int .u64 l[j].g.m) ∧ w.cell? ⟨g, off + j * 6 + 5, none⟩ = some (.string l[j].g.x) := by
  obtain ⟨_, _, e, h3⟩ := h
  cases e
  rcases h3 with h3 | ⟨g, off, rfl, h3⟩
  · omega
  · have k := h3 j hj
    exact ⟨g, off, rfl, World.block_lt_of_cell? _ _ (k 0 _ rfl), k 0 _ rfl, k 1 _ rfl, k 2 _ rfl, k 3 _ rfl, k 4 _ rfl, k 5 _ rfl⟩
end Go.Proofs.Ytajklinlcmkjmaa
