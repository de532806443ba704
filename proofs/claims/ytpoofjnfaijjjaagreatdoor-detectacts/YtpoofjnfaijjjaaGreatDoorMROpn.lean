/-
  An update that is given by value, opened; a slice of updates, opened.
-/
import Derived.Test.YtpoofjnfaijjjaaGreatDoorProg
import Derived.WalkKit
import Derived.ProofKit
import Derived.Deep.Slices
import Derived.Deep.Fields
import Derived.Deep.Strs
import Derived.OpenShut
import Derived.Laws.Cover2
namespace Go.Proofs.YtpoofjnfaijjjaaGreatDoor.Ro
open Go.RowKit Go.Deep Go.ChangeShapes
theorem add_flat (b off n : Nat) : (⟨b, off, none⟩ : Addr).add n = ⟨b, off + n, none⟩ := by
  unfold Addr.add; split <;> simp_all
section
variable {H : Type} {enc : TypeId × Value → H} {P : Program} {w : World} {base : Nat} {spare : Nat → Bool} {held : Bool}
theorem open_structs {t e : TypeId} {fs : Array Field} {fuel : Nat} {a0 : Option Addr} {len cap : Nat} {x : DataW H × List MemPlace} (ht : P.underlying t = some (.slice e)) (he : P.underlying e = some (.struct fs))
    (hone : ∀ (i : Nat) (f : Field), fs[i]? = some f → f.offset = i ∧ P.cellsOf f.type = 1) (hC : P.cellsOf e = fs.size) (hpos : 0 < fs.size) (hsp : ∀ b, spare b = true)
    (h : DataW.trod enc P w base spare held fuel t [.slice a0 len cap] = some x) :
    len ≤ cap ∧ cap ≤ maxLen ∧ (len = 0 ∨ ∃ b off, a0 = some ⟨b, off, none⟩ ∧ b < w.heap.size ∧ ∃ V : Nat → Nat → Value, ∀ i, i < len → ∀ j f, fs[j]? = some f →
      w.cell? ⟨b, off + (i * fs.size + j), none⟩ = some (V i j) ∧ ∃ m y, DataW.trod enc P w base spare held m f.type [V i j] = some y) := by
  rcases open_slice ht h with ⟨hcs, _⟩ | ⟨a, l, c, m, n, D, Pl, hcs, _, hlc, hm, hmm, _, hel⟩
  · simp at hcs
    obtain ⟨rfl, rfl, rfl⟩ := hcs
    exact ⟨Nat.le_refl _, Nat.zero_le _, Or.inl rfl⟩
  · simp at hcs
    obtain ⟨rfl, rfl, rfl⟩ := hcs
    refine ⟨hlc, hm, ?_⟩
    rcases Nat.eq_zero_or_pos len with h0 | h0
    · exact Or.inl h0
    · right
      rw [hsp] at hmm
      simp at hmm
      subst hmm
      have key : ∀ i, i < len → ∃ cs' : List Value, cs'.length = fs.size ∧ (∀ j, j < fs.size → w.cell? ((a.add (i * fs.size)).add j) = cs'[j]?) ∧ ∀ j f, fs[j]? = some f → ∃ m y, DataW.trod enc P w base spare held m f.type [cs'.getD j undef] = some y := by
        intro i hi
        obtain ⟨cs', hc, hy⟩ := hel i (by omega)
        obtain ⟨_, hlen, hcell⟩ := World.cells?_some hc
        rw [hC] at hlen hcell
        obtain ⟨xs, n', _, _, _, hxl, hf⟩ := DataW.trod_struct he hy
        refine ⟨cs', hlen, hcell, fun j f hj => ?_⟩
        have hlt : j < fs.size := (Array.getElem?_eq_some_iff.1 hj).1
        obtain ⟨ho, hc1⟩ := hone j f hj
        have g := hf j f hj
        rw [ho, hc1] at g
        rw [take1_drop cs' j undef (by omega), List.getElem?_eq_getElem (by omega)] at g
        exact ⟨n', _, g⟩
      obtain ⟨b, off, spot⟩ := a
      have hspot : spot = none := by
        obtain ⟨cs', hl, hc, _⟩ := key 0 h0
        have := hc 0 hpos
        rw [List.getElem?_eq_getElem (by omega)] at this
        simpa [Addr.add] using World.cell?_spot this
      subst hspot
      have hblk : b < w.heap.size := by
        obtain ⟨cs', hl, hc, _⟩ := key 0 h0
        have := hc 0 hpos
        rw [List.getElem?_eq_getElem (by omega)] at this
        simpa [Addr.add] using World.block_lt_of_cell? _ _ this
      have key2 : ∀ i, i < len → ∃ cs' : List Value, cs'.length = fs.size ∧ (∀ j, j < fs.size → w.cell? ⟨b, off + (i * fs.size + j), none⟩ = cs'[j]?) ∧ ∀ j f, fs[j]? = some f → ∃ m y, DataW.trod enc P w base spare held m f.type [cs'.getD j undef] = some y := by
        intro i hi
        obtain ⟨cs', hl, hc, ht⟩ := key i hi
        refine ⟨cs', hl, fun j hj => ?_, ht⟩
        have := hc j hj
        rw [add_flat, add_flat, Nat.add_assoc] at this
        exact this
      refine ⟨b, off, rfl, hblk, fun i j => if hi : i < len then (Classical.choose (key2 i hi)).getD j undef else undef, fun i hi j f hj => ?_⟩
      have hs := Classical.choose_spec (key2 i hi)
      have hlt : j < fs.size := (Array.getElem?_eq_some_iff.1 hj).1
      simp only [dif_pos hi]
      refine ⟨?_, hs.2.2 j f hj⟩
      rw [hs.2.1 j hlt, List.getD, List.getElem?_eq_getElem (by rw [hs.1]; exact hlt)]
      rfl
end
theorem trod_one {H : Type} {enc : TypeId × Value → H} {P : Program} {w : World} {base : Nat} {spare : Nat → Bool} {held : Bool} {t : TypeId} {k : IntKind} {fuel : Nat} {v : Value} {x : DataW H × List MemPlace} (ht : P.underlying t = some (.int k)) (h : DataW.trod enc P w base spare held fuel t [v] = some x) :
    ∃ a, v = .int k a ∧ (Lit.int k a).wf = true := by
  obtain ⟨a, e, _, hw⟩ := DataW.trod_int ht h
  simp at e
  exact ⟨a, e, hw⟩
structure Upd where
  n : Int
  i : Int
  s : Int
structure UpdOk (u : Upd) : Prop where
  n : (Lit.int .i64 u.n).wf = true
  i : (Lit.int .u64 u.i).wf = true
  s : (Lit.int .i64 u.s).wf = true
def Ru (v : Value) (l : List Upd) (w : World) : Prop :=
  ∃ a cap, v = .slice a l.length cap ∧ l.length ≤ cap ∧ cap ≤ maxLen ∧ (l.length = 0 ∨ ∃ g off, a = some ⟨g, off, none⟩ ∧ ∀ j (hj : j < l.length),
    w.cell? ⟨g, off + j * 3, none⟩ = some (.int .i64 l[j].n) ∧ w.cell? ⟨g, off + j * 3 + 1, none⟩ = some (.int .u64 l[j].i) ∧ w.cell? ⟨g, off + j * 3 + 2, none⟩ = some (.int .i64 l[j].s))
def IsUpds (w : World) (a : Option Addr) (len cap : Nat) (l : List Upd) : Prop := l.length = len ∧ Ru (.slice a len cap) l w ∧ ∀ u ∈ l, UpdOk u
set_option maxRecDepth 100000 in
theorem open_upds {H : Type} {enc : TypeId × Value → H} {W : World} {a : Option Addr} {len cap : Nat} {d : DataW H} {ps : List MemPlace} (h : DataW.Trod enc Tryz.prog W 0 (fun _ => true) true 35 (.slice a len cap) d ps) : ∃ l, IsUpds W a len cap l := by
  obtain ⟨fuel, hf⟩ := h
  obtain ⟨h1, h2, h3⟩ := open_structs (fs := _) Tryz.underlying35 Tryz.underlying39 (hone_of (by kernel_rfl)) (by kernel_rfl) (by decide) (fun _ => rfl) hf
  rcases h3 with h3 | ⟨b, off, ha, hb, V, hV⟩
  · subst h3
    exact ⟨[], rfl, ⟨a, cap, rfl, h1, h2, Or.inl rfl⟩, fun u hu => by cases hu⟩
  · have key : ∀ i, ∃ I : Upd, i < len → UpdOk I ∧ V i 0 = .int .i64 I.n ∧ V i 1 = .int .u64 I.i ∧ V i 2 = .int .i64 I.s := by
      intro i
      by_cases hi : i < len
      · obtain ⟨_, m0, y0, g0⟩ := hV i hi 0 _ rfl
        obtain ⟨_, m1, y1, g1⟩ := hV i hi 1 _ rfl
        obtain ⟨_, m2, y2, g2⟩ := hV i hi 2 _ rfl
        obtain ⟨x0, e0, w0⟩ := trod_one Tryz.underlying3 g0
        obtain ⟨x1, e1, w1⟩ := trod_one Tryz.underlying34 g1
        obtain ⟨x2, e2, w2⟩ := trod_one Tryz.underlying3 g2
        exact ⟨⟨x0, x1, x2⟩, fun _ => ⟨⟨w0, w1, w2⟩, e0, e1, e2⟩⟩
      · exact ⟨⟨0, 0, 0⟩, fun h => absurd h hi⟩
    refine ⟨(List.range len).map fun i => Classical.choose (key i), by simp, ⟨a, cap, by simp, by simpa using h1, h2, Or.inr ⟨b, off, ha, fun j hj => ?_⟩⟩, fun u hu => ?_⟩
    · simp at hj
      have hs := (Classical.choose_spec (key j) hj).2
      have c0 := (hV j hj 0 _ rfl).1
      have c1 := (hV j hj 1 _ rfl).1
      have c2 := (hV j hj 2 _ rfl).1
      rw [hs.1] at c0
      rw [hs.2.1] at c1
      rw [hs.2.2] at c2
      simp only [List.getElem_map, List.getElem_range, Nat.add_assoc]
      exact ⟨c0, c1, c2⟩
    · obtain ⟨j, hj, rfl⟩ := List.mem_map.1 hu
      exact (Classical.choose_spec (key j) (List.mem_range.1 hj)).1
end Go.Proofs.YtpoofjnfaijjjaaGreatDoor.Ro
