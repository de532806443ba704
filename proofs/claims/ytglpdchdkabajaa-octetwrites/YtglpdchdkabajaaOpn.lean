/-
  A slice of structs, opened: each field of each element is a cell; and what a slice of this seat's items holds.
-/
import Derived.Test.YtglpdchdkabajaaProg
import Derived.WalkKit
import Derived.ProofKit
import Derived.Deep.Slices
import Derived.Deep.Fields
import Derived.OpenShut
import Derived.Laws.Cover2
namespace Go.Proofs.Ytglpdchdkabajaa
open Go.RowKit Go.Deep Go.ChangeShapes

theorem add_flat (b off n : Nat) : (⟨b, off, none⟩ : Addr).add n = ⟨b, off + n, none⟩ := by
  unfold Addr.add; split <;> simp_all

section
variable {H : Type} {enc : TypeId × Value → H} {P : Program} {w : World} {base : Nat} {spare : Nat → Bool} {held : Bool}

/-- A slice of structs whose fields are one cell each: nil, or from an address on each element's fields, cell by cell, each with its own reading. -/
theorem open_structs {t e : TypeId} {fs : Array Field} {fuel : Nat} {a0 : Option Addr} {len cap : Nat} {x : DataW H × List MemPlace} (ht : P.underlying t = some (.slice e)) (he : P.underlying e = some (.struct fs))
    (hone : ∀ (i : Nat) (f : Field), fs[i]? = some f → f.offset = i ∧ P.cellsOf f.type = 1) (hC : P.cellsOf e = fs.size) (hpos : 0 < fs.size) (hsp : ∀ b, spare b = true)
    (h : DataW.trod enc P w base spare held fuel t [.slice a0 len cap] = some x) :
    len ≤ cap ∧ cap ≤ maxLen ∧ (len = 0 ∨ ∃ b off, a0 = some ⟨b, off, none⟩ ∧ b < w.heap.size ∧ ∃ V : Nat → Nat → Value, ∀ i, i < len → ∀ j f, fs[j]? = some f →
      w.cell? ⟨b, off + (i * fs.size + j), none⟩ = some (V i j) ∧ ∃ m y, DataW.trod enc P w base spare held m f.type [V i j] = some y) := by
  rcases open_slice ht h with ⟨hcs, _⟩ | ⟨a, l, c, m, n, D, Pl, hcs, _, hlc, hm, hmm, _, hel⟩
  · simp at hcs
    obtain ⟨rfl, rfl, rfl⟩ := hcs
    exact ⟨Nat.le_refl _, Nat.zero_le _, Or.inl rfl⟩
  · simp at hcs
    obtain ⟨rfl, rfl, rfl⟩ := hcs
    refine ⟨hlc, hm, ?_⟩
    rcases Nat.eq_zero_or_pos len with h0 | h0
    · exact Or.inl h0
    · right
      rw [hsp] at hmm
      simp at hmm
      subst hmm
      have key : ∀ i, i < len → ∃ cs' : List Value, cs'.length = fs.size ∧ (∀ j, j < fs.size → w.cell? ((a.add (i * fs.size)).add j) = cs'[j]?) ∧ ∀ j f, fs[j]? = some f → ∃ m y, DataW.trod enc P w base spare held m f.type [cs'.getD j undef] = some y := by
        intro i hi
        obtain ⟨cs', hc, hy⟩ := hel i (by omega)
        obtain ⟨_, hlen, hcell⟩ := World.cells?_some hc
        rw [hC] at hlen hcell
        obtain ⟨xs, n', _, _, _, hxl, hf⟩ := DataW.trod_struct he hy
        refine ⟨cs', hlen, hcell, fun j f hj => ?_⟩
        have hlt : j < fs.size := (Array.getElem?_eq_some_iff.1 hj).1
        obtain ⟨ho, hc1⟩ := hone j f hj
        have g := hf j f hj
        rw [ho, hc1] at g
        rw [take1_drop cs' j undef (by omega), List.getElem?_eq_getElem (by omega)] at g
        exact ⟨n', _, g⟩
      obtain ⟨b, off, spot⟩ := a
      have hspot : spot = none := by
        obtain ⟨cs', hl, hc, _⟩ := key 0 h0
        have := hc 0 hpos
        rw [List.getElem?_eq_getElem (by omega)] at this
        simpa [Addr.add] using World.cell?_spot this
      subst hspot
      have hblk : b < w.heap.size := by
        obtain ⟨cs', hl, hc, _⟩ := key 0 h0
        have := hc 0 hpos
        rw [List.getElem?_eq_getElem (by omega)] at this
        simpa [Addr.add] using World.block_lt_of_cell? _ _ this
      have key2 : ∀ i, i < len → ∃ cs' : List Value, cs'.length = fs.size ∧ (∀ j, j < fs.size → w.cell? ⟨b, off + (i * fs.size + j), none⟩ = cs'[j]?) ∧ ∀ j f, fs[j]? = some f → ∃ m y, DataW.trod enc P w base spare held m f.type [cs'.getD j undef] = some y := by
        intro i hi
        obtain ⟨cs', hl, hc, ht⟩ := key i hi
        refine ⟨cs', hl, fun j hj => ?_, ht⟩
        have := hc j hj
        rw [add_flat, add_flat, Nat.add_assoc] at this
        exact this
      refine ⟨b, off, rfl, hblk, fun i j => if hi : i < len then (Classical.choose (key2 i hi)).getD j undef else undef, fun i hi j f hj => ?_⟩
      have hs := Classical.choose_spec (key2 i hi)
      have hlt : j < fs.size := (Array.getElem?_eq_some_iff.1 hj).1
      simp only [dif_pos hi]
      refine ⟨?_, hs.2.2 j f hj⟩
      rw [hs.2.1 j hlt, List.getD, List.getElem?_eq_getElem (by rw [hs.1]; exact hlt)]
      rfl
end

/-- An item of the statements. -/
structure Itm where
  kind : Int
  width : Int
  most : Int
  n : Int
  x : Nat
  s : ByteArray

structure ItmOk (i : Itm) : Prop where
  width : (Lit.int .i64 i.width).wf = true
  n : (Lit.int .u64 i.n).wf = true
  x : (Lit.float .f64 i.x).wf = true
  s : i.s.size ≤ maxLen

/-- The slice's elements are the items I 0, I 1 .. -/
def IsItems (w : World) (a : Option Addr) (len cap : Nat) (I : Nat → Itm) : Prop :=
  len ≤ cap ∧ cap ≤ maxLen ∧ (∀ i, i < len → ItmOk (I i)) ∧ (len = 0 ∨ ∃ b off, a = some ⟨b, off, none⟩ ∧ b < w.heap.size ∧ ∀ i, i < len →
    w.cell? ⟨b, off + (i * 6 + 0), none⟩ = some (.int .i64 (I i).kind) ∧ w.cell? ⟨b, off + (i * 6 + 1), none⟩ = some (.int .i64 (I i).width) ∧ w.cell? ⟨b, off + (i * 6 + 2), none⟩ = some (.int .i64 (I i).most) ∧
    w.cell? ⟨b, off + (i * 6 + 3), none⟩ = some (.int .u64 (I i).n) ∧ w.cell? ⟨b, off + (i * 6 + 4), none⟩ = some (.float .f64 (I i).x) ∧ w.cell? ⟨b, off + (i * 6 + 5), none⟩ = some (.string (I i).s))

theorem DataW.trod_float' {H : Type} {enc : TypeId × Value → H} {P : Program} {w : World} {base : Nat} {spare : Nat → Bool} {held : Bool} {t : TypeId} {k : FloatKind} {fuel : Nat} {v : Value} {x : DataW H × List MemPlace} (ht : P.underlying t = some (.float k)) (h : DataW.trod enc P w base spare held fuel t [v] = some x) :
    ∃ b, v = .float k b ∧ (Lit.float k b).wf = true := by
  cases fuel with
  | zero => simp [DataW.trod] at h
  | succ n =>
    simp only [DataW.trod, ht] at h
    split at h <;> simp_all

theorem open_items {H : Type} {enc : TypeId × Value → H} {W : World} {a : Option Addr} {len cap : Nat} {d : DataW H} {ps : List MemPlace} (h : DataW.Trod enc Try.prog W 0 (fun _ => true) true 22 (.slice a len cap) d ps) : ∃ I, IsItems W a len cap I := by
  obtain ⟨fuel, hf⟩ := h
  obtain ⟨h1, h2, h3⟩ := open_structs (fs := _) Try.underlying22 Try.underlying31 (hone_of (by kernel_rfl)) (by kernel_rfl) (by decide) (fun _ => rfl) hf
  rcases h3 with h3 | ⟨b, off, ha, hb, V, hV⟩
  · exact ⟨fun _ => ⟨0, 0, 0, 0, 0, ByteArray.empty⟩, h1, h2, fun i hi => by omega, Or.inl h3⟩
  · have key : ∀ i, i < len → ∃ I : Itm, ItmOk I ∧ V i 0 = .int .i64 I.kind ∧ V i 1 = .int .i64 I.width ∧ V i 2 = .int .i64 I.most ∧ V i 3 = .int .u64 I.n ∧ V i 4 = .float .f64 I.x ∧ V i 5 = .string I.s := by
      intro i hi
      obtain ⟨_, m0, y0, g0⟩ := hV i hi 0 _ rfl
      obtain ⟨_, m1, y1, g1⟩ := hV i hi 1 _ rfl
      obtain ⟨_, m2, y2, g2⟩ := hV i hi 2 _ rfl
      obtain ⟨_, m3, y3, g3⟩ := hV i hi 3 _ rfl
      obtain ⟨_, m4, y4, g4⟩ := hV i hi 4 _ rfl
      obtain ⟨_, m5, y5, g5⟩ := hV i hi 5 _ rfl
      obtain ⟨x0, e0, _, _⟩ := DataW.trod_int Try.underlying3 g0
      obtain ⟨x1, e1, _, w1⟩ := DataW.trod_int Try.underlying3 g1
      obtain ⟨x2, e2, _, _⟩ := DataW.trod_int Try.underlying3 g2
      obtain ⟨x3, e3, _, w3⟩ := DataW.trod_int Try.underlying28 g3
      obtain ⟨x4, e4, w4⟩ := DataW.trod_float' Try.underlying29 g4
      obtain ⟨x5, e5, _, w5⟩ := DataW.trod_string Try.underlying9 g5
      simp at e0 e1 e2 e3 e5
      exact ⟨⟨x0, x1, x2, x3, x4, x5⟩, ⟨w1, w3, w4, w5⟩, e0, e1, e2, e3, e4, e5⟩
    refine ⟨fun i => if hi : i < len then Classical.choose (key i hi) else ⟨0, 0, 0, 0, 0, ByteArray.empty⟩, h1, h2, fun i hi => ?_, Or.inr ⟨b, off, ha, hb, fun i hi => ?_⟩⟩
    · simp only [dif_pos hi]; exact (Classical.choose_spec (key i hi)).1
    · have hs := (Classical.choose_spec (key i hi)).2
      simp only [dif_pos hi]
      have c0 := (hV i hi 0 _ rfl).1
      have c1 := (hV i hi 1 _ rfl).1
      have c2 := (hV i hi 2 _ rfl).1
      have c3 := (hV i hi 3 _ rfl).1
      have c4 := (hV i hi 4 _ rfl).1
      have c5 := (hV i hi 5 _ rfl).1
      rw [hs.1] at c0
      rw [hs.2.1] at c1
      rw [hs.2.2.1] at c2
      rw [hs.2.2.2.1] at c3
      rw [hs.2.2.2.2.1] at c4
      rw [hs.2.2.2.2.2] at c5
      exact ⟨c0, c1, c2, c3, c4, c5⟩
end Go.Proofs.Ytglpdchdkabajaa
