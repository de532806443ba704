/-
  Plain facts on worlds: a struct of one slice field behind a pointer that is appended to, and what such a step leaves as it was.
-/
import Derived.WalkKit
import Derived.WalkSpells
import Derived.Lib.AppendStr
import Derived.Laws.BytesArg
import Derived.Deep.LoopGhost
import Derived.Deep.QuietTactic
import Derived.BigQuiet
namespace Go.Proofs.Ytglpdchdkabajaa
open Go.RowKit

/-- Below block number B all is as it was, but for block p. -/
structure But (B p : Nat) (w w' : World) : Prop where
  os : w'.os = w.os
  tape : w'.tape = w.tape
  output : w'.output = w.output
  size : w.heap.size ≤ w'.heap.size
  block : ∀ k, k < B → k ≠ p → w'.heap[k]? = w.heap[k]?

theorem But.refl (B p : Nat) (w : World) : But B p w w := ⟨rfl, rfl, rfl, Nat.le_refl _, fun _ _ _ => rfl⟩
theorem But.trans {B p : Nat} {a b c : World} (h : But B p a b) (k : But B p b c) : But B p a c :=
  ⟨k.os.trans h.os, k.tape.trans h.tape, k.output.trans h.output, Nat.le_trans h.size k.size, fun i hi hp => (k.block i hi hp).trans (h.block i hi hp)⟩
theorem But.mono {B B' p : Nat} {w w' : World} (h : But B p w w') (hB : B' ≤ B) : But B' p w w' := ⟨h.os, h.tape, h.output, h.size, fun k hk hp => h.block k (Nat.lt_of_lt_of_le hk hB) hp⟩
theorem But.below {B p : Nat} {w w' : World} (h : But B p w w') (hp : B ≤ p) : Below B w w' := ⟨h.os, h.tape, h.output, h.size, fun k hk => h.block k hk (by omega)⟩
theorem But.belowAt {B p : Nat} {w w' : World} (h : But B p w w') {B' : Nat} (hp : B' ≤ p) (hB : B' ≤ B) : Below B' w w' := ⟨h.os, h.tape, h.output, h.size, fun k hk => h.block k (by omega) (by omega)⟩
theorem But.of {B p : Nat} {w w' : World} (h : Below B w w') : But B p w w' := ⟨h.os, h.tape, h.output, h.size, fun k hk _ => h.block k hk⟩
theorem But.cell {B p : Nat} {w w' : World} (h : But B p w w') {a : Addr} (ha : a.block < B) (hne : a.block ≠ p) : w'.cell? a = w.cell? a := World.cell?_of_block (w := w) (h.block a.block ha hne)
theorem But.frozen {B p : Nat} {w w' : World} (h : But B p w w') {a : Addr} (ha : a.block < B) (hne : a.block ≠ p) : w'.frozen? a = w.frozen? a := World.frozen?_of_block (w := w) (h.block a.block ha hne)
theorem But.alloc {B p : Nat} {a w : World} (h : But B p a w) (hB : B ≤ w.heap.size) (o : Obj) : But B p a (w.alloc o) :=
  h.trans ⟨rfl, rfl, rfl, by simp, fun k hk _ => Below.heap_alloc _ _ _ (by omega)⟩
theorem But.setCell {B p : Nat} {a w : World} (h : But B p a w) {q : Addr} (hq : q.block = p ∨ B ≤ q.block) (u : Value) : But B p a (w.setCell q u) :=
  h.trans ⟨rfl, rfl, rfl, by simp [World.setCell], fun k hk hp => Below.heap_setCell _ _ _ _ (by omega)⟩
theorem But.grown {B p : Nat} {a w w' : World} {row : Option Nat} (h : But B p a w) (hg : w.grownBy w' row) (hB : B ≤ w.heap.size) (hr : ∀ k, row = some k → B ≤ k) : But B p a w' :=
  h.trans ⟨hg.os, hg.tape, hg.output, hg.size, fun k hk _ => hg.block k (by omega) (fun e => by have := hr k e.symm; omega)⟩
theorem But.drew {B p : Nat} {a w : World} (h : But B p a w) : But B p a w.drew := ⟨h.os, h.tape, h.output, h.size, h.block⟩

theorem But.drewN {B p : Nat} {a w : World} (h : But B p a w) (n : Nat) : But B p a (w.drewN n) := ⟨h.os, h.tape, h.output, h.size, h.block⟩

/-- The struct at block p (its one field a slice of bytes, type T; bytes are of type E) holds the bytes l, in a row from block B on. -/
structure Wr (T E : TypeId) (B p : Nat) (v : Value) (l : List Int) (w : World) : Prop where
  at_ : w.heap[p]? = some (.cells #[v] T (0, 0))
  own : w.ownsRow B E 1 v l.length (l.map (Value.int .u8))
  lt : p < B
  le : B ≤ w.heap.size

variable {T E : TypeId} {B p : Nat} {v : Value} {l : List Int} {w w' : World}

theorem Wr.cell (h : Wr T E B p v l w) : w.cell? ⟨p, 0, none⟩ = some v := by simp [World.cell?, h.at_]
theorem Wr.frozen (h : Wr T E B p v l w) : w.frozen? ⟨p, 0, none⟩ = false := by simp [World.frozen?, h.at_]
theorem Wr.size (h : Wr T E B p v l w) : p < w.heap.size := Nat.lt_of_lt_of_le h.lt h.le
theorem Wr.drew (h : Wr T E B p v l w) : Wr T E B p v l w.drew := ⟨h.at_, h.own, h.lt, h.le⟩

/-- A new struct. -/
theorem Wr.new (T E : TypeId) (w : World) : Wr T E (w.heap.size + 1) w.heap.size (.slice none 0 0) [] (w.alloc (.cells #[.slice none 0 0] T)) :=
  ⟨by show (w.heap.push _)[w.heap.size]? = _; simp, World.ownsRow_nil _ _ _ _, by omega, by simp⟩

/-- One that holds nothing may take its base anew. -/
theorem Wr.rebase (h : Wr T E B p (.slice none 0 0) [] w) {B' : Nat} (h1 : p < B') (h2 : B' ≤ w.heap.size) : Wr T E B' p (.slice none 0 0) [] w :=
  ⟨h.at_, World.ownsRow_nil _ _ _ _, h1, h2⟩

/-- It stays while others are written. -/
theorem Wr.kept {B' q : Nat} (h : Wr T E B p v l w) (hb : But B' q w w') (hp : p < B') (hq : p ≠ q) (hr : ∀ k, v.ownBlock = some k → k < B' ∧ k ≠ q) : Wr T E B p v l w' := by
  refine ⟨(hb.block p hp hq).trans h.at_, ?_, h.lt, Nat.le_trans h.le hb.size⟩
  obtain ⟨h1, h2⟩ := h.own
  refine ⟨h1, ?_⟩
  rcases h2 with h2 | ⟨g, cap, cur, hv, hg, hh, r⟩
  · exact Or.inl h2
  · have := hr g (by simp [hv, Value.ownBlock])
    exact Or.inr ⟨g, cap, cur, hv, hg, (hb.block g this.1 this.2).trans hh, r⟩

theorem Wr.row_lt (h : Wr T E B p v l w) : ∀ k, v.ownBlock = some k → B ≤ k ∧ k < w.heap.size := h.own.lt

/-- The row of a struct that all lies below the present size stays whatever another one, all of whose row is new, does. -/
theorem Wr.keptNew {q : Nat} (h : Wr T E B p v l w) (hb : But w.heap.size q w w') (hq : p ≠ q) (hqB : q < B) : Wr T E B p v l w' :=
  h.kept hb h.size hq (fun k hk => by have := h.row_lt k hk; omega)

theorem Wr.alloc (h : Wr T E B p v l w) (o : Obj) : Wr T E B p v l (w.alloc o) :=
  ⟨(Below.heap_alloc _ _ _ h.size).trans h.at_, h.own.alloc o, h.lt, by have := h.le; simp; omega⟩

/-- What an append and the store of what it gives leave: of the world behind the append. -/
theorem Wr.grow {u : Int} {v' : Value} (h : Wr T E B p v l w) (o : Obj) (w1 : World) (hown : w1.ownsRow B E 1 v' (l.length + 1) (l.map (Value.int .u8) ++ [Value.int .u8 u])) (hg : (w.alloc o).grownBy w1 v.ownBlock) :
    Wr T E B p v' (l ++ [u]) (w1.setCell ⟨p, 0, none⟩ v') ∧ But B p w (w1.setCell ⟨p, 0, none⟩ v') ∧ w1.cell? ⟨p, 0, none⟩ = some v ∧ w1.frozen? ⟨p, 0, none⟩ = false ∧ p < w1.heap.size := by
  have hs := h.size
  have hne : some p ≠ v.ownBlock := fun e => by have := h.row_lt p e.symm; have := h.lt; omega
  have hblk : w1.heap[p]? = some (.cells #[v] T (0, 0)) := ((hg.block p (by simp; omega) hne).trans (Below.heap_alloc _ _ _ hs)).trans h.at_
  have hsz : w.heap.size + 1 ≤ w1.heap.size := by have := hg.size; simpa using this
  have hle := h.le
  refine ⟨⟨?_, ?_, h.lt, by simp [World.setCell]; omega⟩, ?_, by simp [World.cell?, hblk], by simp [World.frozen?, hblk], by omega⟩
  · simp [World.setCell, Array.getElem?_modify, hblk]
  · have := ownsRow_setCell_below hown (a := ⟨p, 0, none⟩) h.lt v'
    simpa using this
  · exact ((But.refl B p w).alloc hle o |>.grown hg (by simp; omega) (fun k hk => (h.row_lt k hk).1)).setCell (Or.inl rfl) _

/-- The same where a text's bytes are appended, with no block of its own for them. -/
theorem Wr.growText {v' : Value} (h : Wr T E B p v l w) (news : List Int) (w1 : World) (hown : w1.ownsRow B E 1 v' (l.length + news.length) (l.map (Value.int .u8) ++ news.map (Value.int .u8))) (hg : w.grownBy w1 v.ownBlock) :
    Wr T E B p v' (l ++ news) (w1.setCell ⟨p, 0, none⟩ v') ∧ But B p w (w1.setCell ⟨p, 0, none⟩ v') ∧ w1.cell? ⟨p, 0, none⟩ = some v ∧ w1.frozen? ⟨p, 0, none⟩ = false ∧ p < w1.heap.size := by
  have hs := h.size
  have hne : some p ≠ v.ownBlock := fun e => by have := h.row_lt p e.symm; have := h.lt; omega
  have hblk : w1.heap[p]? = some (.cells #[v] T (0, 0)) := (hg.block p hs hne).trans h.at_
  have hsz := hg.size
  have hle := h.le
  refine ⟨⟨?_, ?_, h.lt, by simp [World.setCell]; omega⟩, ?_, by simp [World.cell?, hblk], by simp [World.frozen?, hblk], by omega⟩
  · simp [World.setCell, Array.getElem?_modify, hblk]
  · have := ownsRow_setCell_below hown (a := ⟨p, 0, none⟩) h.lt v'
    simpa using this
  · exact ((But.refl B p w).grown hg hle (fun k hk => (h.row_lt k hk).1)).setCell (Or.inl rfl) _

/-- A text's bytes, as numbers. -/
def ints (s : ByteArray) : List Int := s.data.toList.map fun b => (b.toNat : Int)

theorem ints_length (s : ByteArray) : (ints s).length = s.size := by rw [ints, List.length_map, Array.length_toList]; rfl
theorem ints_cells (s : ByteArray) : (ints s).map (Value.int .u8) = Lib.strCells s := by simp [ints, Lib.strCells]
theorem strOfNums_ints (s : ByteArray) : strOfNums (ints s) = s := by
  cases s with
  | mk d =>
    simp only [strOfNums, ints, List.map_map]
    have : ((fun n : Int => UInt8.ofNat n.toNat) ∘ fun b : UInt8 => (b.toNat : Int)) = id := by
      funext b; simp
    simp [this]
theorem strOfNums_append (a b : List Int) : strOfNums (a ++ b) = strOfNums a ++ strOfNums b := by
  simp only [strOfNums, List.map_append]
  apply ByteArray.ext
  simp

/-- Of an owned row of at least one element the value shows its shape. -/
theorem ownsRow_shape {n : Nat} {xs : List Value} (h : w.ownsRow B E 1 v n xs) (hn : 0 < n) : ∃ g M cap, v = .slice (some ⟨g, 0, none⟩) M cap := by
  rcases h.2 with ⟨_, h⟩ | ⟨g, cap, _, h, _⟩
  · omega
  · exact ⟨g, n, cap, h⟩

end Go.Proofs.Ytglpdchdkabajaa
