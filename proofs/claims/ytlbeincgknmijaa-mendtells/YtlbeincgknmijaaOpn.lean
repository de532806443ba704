/-
  What comes in, opened: a span by value, a slice of spans, bytes.
-/
import Derived.Test.YtlbeincgknmijaaBas
import Derived.ProofKit
import Derived.Deep.Slices
import Derived.Deep.Fields
import Derived.Deep.Strs
import Derived.OpenShut
import Derived.Laws.Cover2
namespace Go.Proofs.Ytlbeincgknmijaa
open Go.RowKit Go.Deep Go.ChangeShapes

theorem add_flat (b off n : Nat) : (⟨b, off, none⟩ : Addr).add n = ⟨b, off + n, none⟩ := by
  unfold Addr.add; split <;> simp_all

section
variable {H : Type} {enc : TypeId × Value → H} {P : Program} {w : World} {base : Nat} {spare : Nat → Bool} {held : Bool}

/-- A slice of structs whose fields are one cell each: nil, or from an address on each element's fields, cell by cell, each with its own reading. -/
theorem open_structs {t e : TypeId} {fs : Array Field} {fuel : Nat} {a0 : Option Addr} {len cap : Nat} {x : DataW H × List MemPlace} (ht : P.underlying t = some (.slice e)) (he : P.underlying e = some (.struct fs))
    (hone : ∀ (i : Nat) (f : Field), fs[i]? = some f → f.offset = i ∧ P.cellsOf f.type = 1) (hC : P.cellsOf e = fs.size) (hpos : 0 < fs.size) (hsp : ∀ b, spare b = true)
    (h : DataW.trod enc P w base spare held fuel t [.slice a0 len cap] = some x) :
    len ≤ cap ∧ cap ≤ maxLen ∧ (len = 0 ∨ ∃ b off, a0 = some ⟨b, off, none⟩ ∧ b < w.heap.size ∧ ∃ V : Nat → Nat → Value, ∀ i, i < len → ∀ j f, fs[j]? = some f →
      w.cell? ⟨b, off + (i * fs.size + j), none⟩ = some (V i j) ∧ ∃ m y, DataW.trod enc P w base spare held m f.type [V i j] = some y) := by
  rcases open_slice ht h with ⟨hcs, _⟩ | ⟨a, l, c, m, n, D, Pl, hcs, _, hlc, hm, hmm, _, hel⟩
  · simp at hcs
    obtain ⟨rfl, rfl, rfl⟩ := hcs
    exact ⟨Nat.le_refl _, Nat.zero_le _, Or.inl rfl⟩
  · simp at hcs
    obtain ⟨rfl, rfl, rfl⟩ := hcs
    refine ⟨hlc, hm, ?_⟩
    rcases Nat.eq_zero_or_pos len with h0 | h0
    · exact Or.inl h0
    · right
      rw [hsp] at hmm
      simp at hmm
      subst hmm
      have key : ∀ i, i < len → ∃ cs' : List Value, cs'.length = fs.size ∧ (∀ j, j < fs.size → w.cell? ((a.add (i * fs.size)).add j) = cs'[j]?) ∧ ∀ j f, fs[j]? = some f → ∃ m y, DataW.trod enc P w base spare held m f.type [cs'.getD j undef] = some y := by
        intro i hi
        obtain ⟨cs', hc, hy⟩ := hel i (by omega)
        obtain ⟨_, hlen, hcell⟩ := World.cells?_some hc
        rw [hC] at hlen hcell
        obtain ⟨xs, n', _, _, _, hxl, hf⟩ := DataW.trod_struct he hy
        refine ⟨cs', hlen, hcell, fun j f hj => ?_⟩
        have hlt : j < fs.size := (Array.getElem?_eq_some_iff.1 hj).1
        obtain ⟨ho, hc1⟩ := hone j f hj
        have g := hf j f hj
        rw [ho, hc1] at g
        rw [take1_drop cs' j undef (by omega), List.getElem?_eq_getElem (by omega)] at g
        exact ⟨n', _, g⟩
      obtain ⟨b, off, spot⟩ := a
      have hspot : spot = none := by
        obtain ⟨cs', hl, hc, _⟩ := key 0 h0
        have := hc 0 hpos
        rw [List.getElem?_eq_getElem (by omega)] at this
        simpa [Addr.add] using World.cell?_spot this
      subst hspot
      have hblk : b < w.heap.size := by
        obtain ⟨cs', hl, hc, _⟩ := key 0 h0
        have := hc 0 hpos
        rw [List.getElem?_eq_getElem (by omega)] at this
        simpa [Addr.add] using World.block_lt_of_cell? _ _ this
      have key2 : ∀ i, i < len → ∃ cs' : List Value, cs'.length = fs.size ∧ (∀ j, j < fs.size → w.cell? ⟨b, off + (i * fs.size + j), none⟩ = cs'[j]?) ∧ ∀ j f, fs[j]? = some f → ∃ m y, DataW.trod enc P w base spare held m f.type [cs'.getD j undef] = some y := by
        intro i hi
        obtain ⟨cs', hl, hc, ht⟩ := key i hi
        refine ⟨cs', hl, fun j hj => ?_, ht⟩
        have := hc j hj
        rw [add_flat, add_flat, Nat.add_assoc] at this
        exact this
      refine ⟨b, off, rfl, hblk, fun i j => if hi : i < len then (Classical.choose (key2 i hi)).getD j undef else undef, fun i hi j f hj => ?_⟩
      have hs := Classical.choose_spec (key2 i hi)
      have hlt : j < fs.size := (Array.getElem?_eq_some_iff.1 hj).1
      simp only [dif_pos hi]
      refine ⟨?_, hs.2.2 j f hj⟩
      rw [hs.2.1 j hlt, List.getD, List.getElem?_eq_getElem (by rw [hs.1]; exact hlt)]
      rfl
end


theorem trod_one {H : Type} {enc : TypeId × Value → H} {P : Program} {w : World} {base : Nat} {spare : Nat → Bool} {held : Bool} {t : TypeId} {k : IntKind} {fuel : Nat} {v : Value} {x : DataW H × List MemPlace} (ht : P.underlying t = some (.int k)) (h : DataW.trod enc P w base spare held fuel t [v] = some x) :
    ∃ a, v = .int k a ∧ (Lit.int k a).wf = true := by
  obtain ⟨a, e, _, hw⟩ := DataW.trod_int ht h
  simp at e
  exact ⟨a, e, hw⟩

theorem u8_of {n : Int} (h : (Lit.int .u8 n).wf = true) : 0 ≤ n ∧ n ≤ 255 := by simpa [Lit.wf, IntKind.min, IntKind.max, IntKind.signed, IntKind.bits] using h
theorem u64_of {n : Int} (h : (Lit.int .u64 n).wf = true) : 0 ≤ n ∧ n ≤ 18446744073709551615 := by simpa [Lit.wf, IntKind.min, IntKind.max, IntKind.signed, IntKind.bits] using h

theorem open_span {H : Type} {enc : TypeId × Value → H} {W : World} {r : Reach} {base : Nat} {v : Value} {d : DataW H} {ps : List MemPlace} (hval : Value.okWide Try.prog W r base 51 v) (h : DataW.Trod enc Try.prog W 0 (fun _ => true) true 51 v d ps) :
    ∃ f t, v = .agg #[.int .u64 f, .int .u64 t] ∧ (Lit.int .u64 f).wf = true ∧ (Lit.int .u64 t).wf = true := by
  obtain ⟨cs, rfl, hsz⟩ := Go.WideShapes.okWide_struct Try.underlying51 hval
  have hc : Try.prog.cellsOf 51 = 2 := by kernel_rfl
  have hc22 : Try.prog.cellsOf 25 = 1 := by kernel_rfl
  rw [hc] at hsz
  obtain ⟨fuel, hf⟩ := h
  obtain ⟨l⟩ := cs
  match l, hsz with
  | [x, y], _ =>
    obtain ⟨y0, y1, m, _, _, t0, t1⟩ := trod_struct2 Try.underlying51 hf
    simp [hc22, Value.cells] at t0 t1
    obtain ⟨f, rfl, wf⟩ := trod_one Try.underlying25 t0
    obtain ⟨t, rfl, wt⟩ := trod_one Try.underlying25 t1
    exact ⟨f, t, rfl, wf, wt⟩

/-- What a slice that is given holds. -/
def IsSpans (w : World) (a : Option Addr) (len cap : Nat) (l : List Sn) : Prop := l.length = len ∧ Rs (.slice a len cap) l w

theorem open_spans {H : Type} {enc : TypeId × Value → H} {W : World} {a : Option Addr} {len cap : Nat} {d : DataW H} {ps : List MemPlace} (h : DataW.Trod enc Try.prog W 0 (fun _ => true) true 23 (.slice a len cap) d ps) : ∃ l, IsSpans W a len cap l := by
  obtain ⟨fuel, hf⟩ := h
  obtain ⟨h1, h2, h3⟩ := open_structs (fs := _) Try.underlying23 Try.underlying51 (hone_of (by kernel_rfl)) (by kernel_rfl) (by decide) (fun _ => rfl) hf
  rcases h3 with h3 | ⟨b, off, ha, hb, V, hV⟩
  · subst h3
    exact ⟨[], rfl, ⟨a, cap, rfl, h1, h2, Or.inl rfl⟩, fun u hu => by cases hu⟩
  · have key : ∀ i, ∃ I : Sn, i < len → SnOk I ∧ V i 0 = .int .u64 I.f ∧ V i 1 = .int .u64 I.t := by
      intro i
      by_cases hi : i < len
      · obtain ⟨_, m0, y0, g0⟩ := hV i hi 0 _ rfl
        obtain ⟨_, m1, y1, g1⟩ := hV i hi 1 _ rfl
        obtain ⟨x0, e0, w0⟩ := trod_one Try.underlying25 g0
        obtain ⟨x1, e1, w1⟩ := trod_one Try.underlying25 g1
        exact ⟨⟨x0, x1⟩, fun _ => ⟨⟨(u64_of w0).1, (u64_of w0).2, (u64_of w1).1, (u64_of w1).2⟩, e0, e1⟩⟩
      · exact ⟨⟨0, 0⟩, fun h => absurd h hi⟩
    refine ⟨(List.range len).map fun i => Classical.choose (key i), by simp, ⟨a, cap, by simp, by simpa using h1, h2, Or.inr ⟨b, off, ha, fun j hj => ?_⟩⟩, fun u hu => ?_⟩
    · simp at hj
      have hs := (Classical.choose_spec (key j) hj).2
      have c0 := (hV j hj 0 _ rfl).1
      have c1 := (hV j hj 1 _ rfl).1
      rw [hs.1] at c0
      rw [hs.2] at c1
      rw [el_get (by simpa using hj)]
      simp only [List.getElem_map, List.getElem_range, Nat.add_assoc]
      exact ⟨c0, c1⟩
    · obtain ⟨j, hj, rfl⟩ := List.mem_map.1 hu
      exact (Classical.choose_spec (key j) (List.mem_range.1 hj)).1

/-- The slice v reads as the bytes l. -/
def Rn (v : Value) (l : List Int) (w : World) : Prop :=
  ∃ a cap, v = .slice a l.length cap ∧ (l.length = 0 ∨ ∃ g off, a = some ⟨g, off, none⟩ ∧ ∀ j (hj : j < l.length), w.cell? ⟨g, off + j, none⟩ = some (.int .u8 l[j]))
theorem Rn.keep {v : Value} {l : List Int} {w w' : World} (h : Rn v l w) (hw : ∀ g, v.ownBlock = some g → g < w.heap.size → w'.heap[g]? = w.heap[g]?) : Rn v l w' := by
  obtain ⟨a, cap, rfl, h3⟩ := h
  refine ⟨a, cap, rfl, ?_⟩
  rcases h3 with h3 | ⟨g, off, rfl, h3⟩
  · exact Or.inl h3
  · refine Or.inr ⟨g, off, rfl, fun j hj => ?_⟩
    have hc := h3 j hj
    have hlt : g < w.heap.size := World.block_lt_of_cell? _ _ hc
    rw [← hc]
    exact World.cell?_of_block (w := w) (hw g rfl hlt)
theorem Rn.below {v : Value} {l : List Int} {w w' : World} (h : Rn v l w) (hb : Below w.heap.size w w') : Rn v l w' := h.keep fun g _ hg => hb.block g hg
theorem Rn.at {g off n cap : Nat} {l : List Int} {w : World} (h : Rn (.slice (some ⟨g, off, none⟩) n cap) l w) {j : Nat} (hj : j < l.length) : w.cell? ⟨g, off + j, none⟩ = some (.int .u8 l[j]) := by
  obtain ⟨_, _, e, h3⟩ := h
  cases e
  rcases h3 with h3 | ⟨g', off', e, h3⟩
  · omega
  · cases e; exact h3 j hj
theorem Rn.shape {v : Value} {l : List Int} {w : World} (h : Rn v l w) : (l = [] ∧ ∃ a cap, v = .slice a 0 cap) ∨ ∃ g off cap, v = .slice (some ⟨g, off, none⟩) l.length cap := by
  obtain ⟨a, cap, rfl, h3⟩ := h
  rcases h3 with h3 | ⟨g, off, rfl, h3⟩
  · obtain rfl := List.length_eq_zero_iff.1 h3
    exact Or.inl ⟨rfl, a, cap, rfl⟩
  · exact Or.inr ⟨g, off, cap, rfl⟩

def Bytes (l : List Int) : Prop := ∀ x ∈ l, 0 ≤ x ∧ x ≤ 255
def IsBytes (w : World) (a : Option Addr) (len cap : Nat) (l : List Int) : Prop := l.length = len ∧ Rn (.slice a len cap) l w ∧ Bytes l
theorem Try.cells5 : Try.prog.cellsOf 5 = 1 := by kernel_rfl
theorem open_bytes_ {H : Type} {enc : TypeId × Value → H} {W : World} {a : Option Addr} {len cap : Nat} {d : DataW H} {ps : List MemPlace} (h : DataW.Trod enc Try.prog W 0 (fun _ => true) true 22 (.slice a len cap) d ps) : ∃ l, IsBytes W a len cap l := by
  obtain ⟨fuel, hf0⟩ := h
  have hf : DataW.trod enc Try.prog W 0 (fun _ => true) true fuel 22 [.slice a len cap] = some (d, ps) := hf0
  rcases open_ints Try.underlying22 Try.underlying5 Try.cells5 hf with ⟨hcs, _⟩ | ⟨a', len', cap', zs, hcs, _, h1, h2, h3, _, h4, h5⟩
  · simp at hcs
    obtain ⟨rfl, rfl, rfl⟩ := hcs
    exact ⟨[], rfl, ⟨_, _, rfl, Or.inl rfl⟩, fun n hn => by cases hn⟩
  · simp at hcs
    obtain ⟨rfl, rfl, rfl⟩ := hcs
    simp at h3
    have hl : (zs.take len).length = len := by rw [List.length_take]; omega
    refine ⟨zs.take len, hl, ⟨some a', cap, by rw [hl], ?_⟩, fun n hn => u8_of (h5 n (List.mem_of_mem_take hn))⟩
    rcases Nat.eq_zero_or_pos len with h0 | h0
    · exact Or.inl (by omega)
    · right
      obtain ⟨b, off, spot⟩ := a'
      have hspot : spot = none := by
        have := h4 0 (by omega)
        simpa [Addr.add] using World.cell?_spot this
      subst hspot
      refine ⟨b, off, rfl, fun j hj => ?_⟩
      have := h4 j (by omega)
      rw [List.getElem_take]
      simp only [List.getD, List.getElem?_eq_getElem (show j < zs.length by omega), Option.getD_some] at this
      rw [← this]
      unfold Addr.add; split <;> simp_all
end Go.Proofs.Ytlbeincgknmijaa
