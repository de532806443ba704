/-
  A slice of structs, opened: each field of each element is a cell; and what a slice of this seat's acts holds.
-/
import Derived.Test.YtnhpkpodeojldaaLop
import Derived.Deep.Slices
import Derived.Deep.Fields
import Derived.Laws.Cover2
namespace Go.Proofs.Ytnhpkpodeojldaa
open Go.RowKit Go.Deep Go.ChangeShapes

theorem add_flat (b off n : Nat) : (⟨b, off, none⟩ : Addr).add n = ⟨b, off + n, none⟩ := by
  unfold Addr.add; split <;> simp_all

section
variable {H : Type} {enc : TypeId × Value → H} {P : Program} {w : World} {base : Nat} {spare : Nat → Bool} {held : Bool}

/-- A slice of structs whose fields are one cell each: nil, or from an address on each element's fields, cell by cell, each with its own reading. -/
theorem open_structs {t e : TypeId} {fs : Array Field} {fuel : Nat} {a0 : Option Addr} {len cap : Nat} {x : DataW H × List MemPlace} (ht : P.underlying t = some (.slice e)) (he : P.underlying e = some (.struct fs))
    (hone : ∀ (i : Nat) (f : Field), fs[i]? = some f → f.offset = i ∧ P.cellsOf f.type = 1) (hC : P.cellsOf e = fs.size) (hpos : 0 < fs.size) (hsp : ∀ b, spare b = true)
    (h : DataW.trod enc P w base spare held fuel t [.slice a0 len cap] = some x) :
    len ≤ cap ∧ cap ≤ maxLen ∧ (len = 0 ∨ ∃ b off, a0 = some ⟨b, off, none⟩ ∧ b < w.heap.size ∧ ∃ V : Nat → Nat → Value, ∀ i, i < len → ∀ j f, fs[j]? = some f →
      w.cell? ⟨b, off + (i * fs.size + j), none⟩ = some (V i j) ∧ ∃ m y, DataW.trod enc P w base spare held m f.type [V i j] = some y) := by
  rcases open_slice ht h with ⟨hcs, _⟩ | ⟨a, l, c, m, n, D, Pl, hcs, _, hlc, hm, hmm, _, hel⟩
  · simp at hcs
    obtain ⟨rfl, rfl, rfl⟩ := hcs
    exact ⟨Nat.le_refl _, Nat.zero_le _, Or.inl rfl⟩
  · simp at hcs
    obtain ⟨rfl, rfl, rfl⟩ := hcs
    refine ⟨hlc, hm, ?_⟩
    rcases Nat.eq_zero_or_pos len with h0 | h0
    · exact Or.inl h0
    · right
      rw [hsp] at hmm
      simp at hmm
      subst hmm
      have key : ∀ i, i < len → ∃ cs' : List Value, cs'.length = fs.size ∧ (∀ j, j < fs.size → w.cell? ((a.add (i * fs.size)).add j) = cs'[j]?) ∧ ∀ j f, fs[j]? = some f → ∃ m y, DataW.trod enc P w base spare held m f.type [cs'.getD j undef] = some y := by
        intro i hi
        obtain ⟨cs', hc, hy⟩ := hel i (by omega)
        obtain ⟨_, hlen, hcell⟩ := World.cells?_some hc
        rw [hC] at hlen hcell
        obtain ⟨xs, n', _, _, _, hxl, hf⟩ := DataW.trod_struct he hy
        refine ⟨cs', hlen, hcell, fun j f hj => ?_⟩
        have hlt : j < fs.size := (Array.getElem?_eq_some_iff.1 hj).1
        obtain ⟨ho, hc1⟩ := hone j f hj
        have g := hf j f hj
        rw [ho, hc1] at g
        rw [take1_drop cs' j undef (by omega), List.getElem?_eq_getElem (by omega)] at g
        exact ⟨n', _, g⟩
      obtain ⟨b, off, spot⟩ := a
      have hspot : spot = none := by
        obtain ⟨cs', hl, hc, _⟩ := key 0 h0
        have := hc 0 hpos
        rw [List.getElem?_eq_getElem (by omega)] at this
        simpa [Addr.add] using World.cell?_spot this
      subst hspot
      have hblk : b < w.heap.size := by
        obtain ⟨cs', hl, hc, _⟩ := key 0 h0
        have := hc 0 hpos
        rw [List.getElem?_eq_getElem (by omega)] at this
        simpa [Addr.add] using World.block_lt_of_cell? _ _ this
      have key2 : ∀ i, i < len → ∃ cs' : List Value, cs'.length = fs.size ∧ (∀ j, j < fs.size → w.cell? ⟨b, off + (i * fs.size + j), none⟩ = cs'[j]?) ∧ ∀ j f, fs[j]? = some f → ∃ m y, DataW.trod enc P w base spare held m f.type [cs'.getD j undef] = some y := by
        intro i hi
        obtain ⟨cs', hl, hc, ht⟩ := key i hi
        refine ⟨cs', hl, fun j hj => ?_, ht⟩
        have := hc j hj
        rw [add_flat, add_flat, Nat.add_assoc] at this
        exact this
      refine ⟨b, off, rfl, hblk, fun i j => if hi : i < len then (Classical.choose (key2 i hi)).getD j undef else undef, fun i hi j f hj => ?_⟩
      have hs := Classical.choose_spec (key2 i hi)
      have hlt : j < fs.size := (Array.getElem?_eq_some_iff.1 hj).1
      simp only [dif_pos hi]
      refine ⟨?_, hs.2.2 j f hj⟩
      rw [hs.2.1 j hlt, List.getD, List.getElem?_eq_getElem (by rw [hs.1]; exact hlt)]
      rfl
end


/-- What is asked. -/
structure Ask where
  kind : Int
  n : Int
  no : Int
  o : Nat

/-- Its cells, from offset o of block b on. -/
structure AskAt (w : World) (b o : Nat) (A : Ask) : Prop where
  c0 : w.cell? ⟨b, o, none⟩ = some (.int .i64 A.kind)
  c1 : w.cell? ⟨b, o + 1, none⟩ = some (.int .i64 A.n)
  c2 : w.cell? ⟨b, o + 2, none⟩ = some (.int .i64 A.no)
  c3 : w.cell? ⟨b, o + 3, none⟩ = some (.int .u64 A.o)
  lt : A.n < 9223372036854775808
  ol : A.o < 18446744073709551616
theorem AskAt.below {w w' : World} {b o : Nat} {A : Ask} (h : AskAt w b o A) (hb : Below w.heap.size w w') (hl : b < w.heap.size) : AskAt w' b o A :=
  ⟨(hb.cell hl).trans h.c0, (hb.cell hl).trans h.c1, (hb.cell hl).trans h.c2, (hb.cell hl).trans h.c3, h.lt, h.ol⟩

/-- The slice's elements are A 0, A 1 .. -/
def IsAsks (w : World) (a : Option Addr) (len cap : Nat) (A : Nat → Ask) : Prop :=
  len ≤ cap ∧ cap ≤ maxLen ∧ (len = 0 ∨ ∃ b off, a = some ⟨b, off, none⟩ ∧ b < w.heap.size ∧ ∀ i, i < len → AskAt w b (off + i * 4) (A i))

theorem open_acts {H : Type} {enc : TypeId × Value → H} {W : World} {a : Option Addr} {len cap : Nat} {d : DataW H} {ps : List MemPlace} (h : DataW.Trod enc Try.prog W 0 (fun _ => true) true 23 (.slice a len cap) d ps) : ∃ A, IsAsks W a len cap A := by
  obtain ⟨m, hm⟩ := h
  obtain ⟨h1, h2, h3⟩ := open_structs Try.underlying23 Try.underlying40 (fun i f hf => by
    rcases i with _ | _ | _ | _ | i
    · cases hf; exact ⟨rfl, by kernel_rfl⟩
    · cases hf; exact ⟨rfl, by kernel_rfl⟩
    · cases hf; exact ⟨rfl, by kernel_rfl⟩
    · cases hf; exact ⟨rfl, by kernel_rfl⟩
    · simp at hf) (by kernel_rfl) (by decide) (fun _ => rfl) hm
  rcases h3 with h3 | ⟨b, off, rfl, hb, V, hV⟩
  · exact ⟨fun _ => ⟨0, 0, 0, 0⟩, h1, h2, Or.inl h3⟩
  · have key : ∀ i, i < len → ∃ A, AskAt W b (off + i * 4) A := by
      intro i hi
      obtain ⟨k0, m0, y0, t0⟩ := hV i hi 0 _ rfl
      obtain ⟨k1, m1, y1, t1⟩ := hV i hi 1 _ rfl
      obtain ⟨k2, m2, y2, t2⟩ := hV i hi 2 _ rfl
      obtain ⟨k3, m3, y3, t3⟩ := hV i hi 3 _ rfl
      obtain ⟨n0, e0, _, _⟩ := DataW.trod_int Try.underlying3 t0
      obtain ⟨n1, e1, _, f1⟩ := DataW.trod_int Try.underlying3 t1
      obtain ⟨n2, e2, _, _⟩ := DataW.trod_int Try.underlying3 t2
      obtain ⟨n3, e3, _, f3⟩ := DataW.trod_int Try.underlying38 t3
      simp at e0 e1 e2 e3
      rw [e0] at k0
      rw [e1] at k1
      rw [e2] at k2
      rw [e3] at k3
      have := bounds_i64 f1
      have h3 := bounds_u64 f3
      obtain ⟨o, rfl⟩ : ∃ o : Nat, n3 = o := ⟨n3.toNat, by omega⟩
      exact ⟨⟨n0, n1, n2, o⟩, by simpa using k0, by simpa [Nat.add_assoc] using k1, by simpa [Nat.add_assoc] using k2, by simpa [Nat.add_assoc] using k3, show n1 < _ by omega, show o < _ by omega⟩
    refine ⟨fun i => if hi : i < len then Classical.choose (key i hi) else ⟨0, 0, 0, 0⟩, h1, h2, Or.inr ⟨b, off, rfl, hb, fun i hi => ?_⟩⟩
    simp only [dif_pos hi]
    exact Classical.choose_spec (key i hi)
end Go.Proofs.Ytnhpkpodeojldaa
