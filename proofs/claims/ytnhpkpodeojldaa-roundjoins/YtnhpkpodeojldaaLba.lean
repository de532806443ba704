/-
  Plain facts on lots, and on worlds: slices of numbers that are read, rows that are written, lots behind a pointer.
-/
import Derived.Test.YtnhpkpodeojldaaProg
import Derived.WalkKit
import Derived.WalkSpells
import Derived.WalkLawsBesides
import Derived.Deep.LoopGhost
import Derived.Deep.QuietTactic
import Derived.BigQuiet
namespace Go.Proofs.Ytnhpkpodeojldaa
open Go.RowKit

/-! ## What is answered, as plain functions -/

/-- What Below(n) draws of the lots l, and what is left. -/
def belowS (l : List Int) (n : Int) : Int × List Int := if n < 2 then (0, l) else (l.headD 0 % n, l.tail)
/-- Places i and k exchanged. -/
def sw (s : List Int) (i k : Nat) : List Int := (s.set i (s.getD k 0)).set k (s.getD i 0)
/-- From place i down to 1. -/
def shufGo : Nat → List Int → List Int → List Int × List Int
  | 0, s, l => (s, l)
  | i + 1, s, l => shufGo i (sw s (i + 1) (belowS l (i + 2)).1.toNat) (belowS l (i + 2)).2
def shufS (s l : List Int) : List Int × List Int := shufGo (s.length - 1) s l
def someS (s l : List Int) (n : Int) : List Int × List Int := if n < 1 then ([], l) else ((shufS s l).1.take n.toNat, (shufS s l).2)

/-- Lots that may be. -/
def Ok (l : List Int) : Prop := ∀ x ∈ l, 0 ≤ x ∧ x < 18446744073709551616
theorem Ok.tail {l : List Int} (h : Ok l) : Ok l.tail := fun x hx => h x (List.mem_of_mem_tail hx)
theorem Ok.head {l : List Int} (h : Ok l) : 0 ≤ l.headD 0 ∧ l.headD 0 < 18446744073709551616 := by
  cases l with
  | nil => decide
  | cons x r => exact h x (by simp)
theorem Ok.below {l : List Int} (h : Ok l) (n : Int) : Ok (belowS l n).2 := by
  unfold belowS; split
  · exact h
  · exact h.tail
theorem belowS_range (l : List Int) (n : Int) : 0 ≤ (belowS l n).1 ∧ (2 ≤ n → (belowS l n).1 < n) := by
  unfold belowS; split
  · exact ⟨Int.le_refl _, fun _ => by simp; omega⟩
  · exact ⟨Int.emod_nonneg _ (by omega), fun _ => Int.emod_lt_of_pos _ (by omega)⟩
theorem sw_length (s : List Int) (i k : Nat) : (sw s i k).length = s.length := by simp [sw]
theorem shufGo_length (i : Nat) : ∀ s l, (shufGo i s l).1.length = s.length := by
  induction i with
  | zero => intro s l; rfl
  | succ i ih => intro s l; rw [shufGo, ih, sw_length]
theorem shufS_length (s l : List Int) : (shufS s l).1.length = s.length := shufGo_length _ _ _
theorem shufGo_ok (i : Nat) : ∀ s l, Ok l → Ok (shufGo i s l).2 := by
  induction i with
  | zero => intro s l h; exact h
  | succ i ih => intro s l h; rw [shufGo]; exact ih _ _ (h.below _)
theorem shufS_ok (s : List Int) {l : List Int} (h : Ok l) : Ok (shufS s l).2 := shufGo_ok _ _ _ h
theorem someS_ok (s : List Int) (n : Int) {l : List Int} (h : Ok l) : Ok (someS s l n).2 := by
  unfold someS; split
  · exact h
  · exact shufS_ok s h

/-! ## Worlds -/

/-- Below block number B all is as it was, but for block p. -/
structure But (B p : Nat) (w w' : World) : Prop where
  os : w'.os = w.os
  tape : w'.tape = w.tape
  output : w'.output = w.output
  size : w.heap.size ≤ w'.heap.size
  block : ∀ k, k < B → k ≠ p → w'.heap[k]? = w.heap[k]?

theorem But.refl (B p : Nat) (w : World) : But B p w w := ⟨rfl, rfl, rfl, Nat.le_refl _, fun _ _ _ => rfl⟩
theorem But.trans {B p : Nat} {a b c : World} (h : But B p a b) (k : But B p b c) : But B p a c :=
  ⟨k.os.trans h.os, k.tape.trans h.tape, k.output.trans h.output, Nat.le_trans h.size k.size, fun i hi hp => (k.block i hi hp).trans (h.block i hi hp)⟩
theorem But.mono {B B' p : Nat} {w w' : World} (h : But B p w w') (hB : B' ≤ B) : But B' p w w' := ⟨h.os, h.tape, h.output, h.size, fun k hk hp => h.block k (Nat.lt_of_lt_of_le hk hB) hp⟩
theorem But.belowAt {B p : Nat} {w w' : World} (h : But B p w w') {B' : Nat} (hp : B' ≤ p) (hB : B' ≤ B) : Below B' w w' := ⟨h.os, h.tape, h.output, h.size, fun k hk => h.block k (by omega) (by omega)⟩
theorem But.of {B p : Nat} {w w' : World} (h : Below B w w') : But B p w w' := ⟨h.os, h.tape, h.output, h.size, fun k hk _ => h.block k hk⟩
theorem But.setCell {B p : Nat} {a w : World} (h : But B p a w) {q : Addr} (hq : q.block = p ∨ B ≤ q.block) (u : Value) : But B p a (w.setCell q u) :=
  h.trans ⟨rfl, rfl, rfl, by simp [World.setCell], fun k hk hp => Below.heap_setCell _ _ _ _ (by omega)⟩
theorem But.drew {B p : Nat} {a w : World} (h : But B p a w) : But B p a w.drew := ⟨h.os, h.tape, h.output, h.size, h.block⟩

/-- The slice v reads as the numbers l, of kind k. -/
def Rd (k : IntKind) (v : Value) (l : List Int) (w : World) : Prop :=
  ∃ a cap, v = .slice a l.length cap ∧ l.length ≤ cap ∧ cap ≤ maxLen ∧ (a = none → cap = 0) ∧ (l.length = 0 ∨ ∃ g off, a = some ⟨g, off, none⟩ ∧ ∀ j (hj : j < l.length), w.cell? ⟨g, off + j, none⟩ = some (.int k l[j]))

theorem Rd.keep {k : IntKind} {v : Value} {l : List Int} {w w' : World} (h : Rd k v l w) (hw : ∀ g, v.ownBlock = some g → g < w.heap.size → w'.heap[g]? = w.heap[g]?) : Rd k v l w' := by
  obtain ⟨a, cap, rfl, h1, h2, h0, h3⟩ := h
  refine ⟨a, cap, rfl, h1, h2, h0, ?_⟩
  rcases h3 with h3 | ⟨g, off, rfl, h3⟩
  · exact Or.inl h3
  · refine Or.inr ⟨g, off, rfl, fun j hj => ?_⟩
    have hc := h3 j hj
    have hlt : g < w.heap.size := World.block_lt_of_cell? _ _ hc
    rw [← hc]
    exact World.cell?_of_block (w := w) (hw g rfl hlt)
theorem Rd.below {k : IntKind} {v : Value} {l : List Int} {w w' : World} (h : Rd k v l w) (hb : Below w.heap.size w w') : Rd k v l w' := h.keep fun g _ hg => hb.block g hg
theorem Rd.but {k : IntKind} {v : Value} {l : List Int} {w w' : World} {q : Nat} (h : Rd k v l w) (hb : But w.heap.size q w w') (hq : ∀ g, v.ownBlock = some g → g ≠ q) : Rd k v l w' := h.keep fun g hg hlt => hb.block g hlt (hq g hg)
theorem Rd.belowAt {k : IntKind} {v : Value} {l : List Int} {w w' : World} {B : Nat} (h : Rd k v l w) (hb : Below B w w') (hq : ∀ g, v.ownBlock = some g → g < B) : Rd k v l w' := h.keep fun g hg _ => hb.block g (hq g hg)
theorem Rd.drew {k : IntKind} {v : Value} {l : List Int} {w : World} (h : Rd k v l w) : Rd k v l w.drew := h.keep fun _ _ _ => rfl
theorem Rd.nil (k : IntKind) (w : World) : Rd k (.slice none 0 0) [] w := ⟨none, 0, rfl, Nat.le_refl _, by unfold maxLen; omega, fun _ => rfl, Or.inl rfl⟩
/-- The first n of them. -/
theorem Rd.take {k : IntKind} {a : Option Addr} {len cap : Nat} {l : List Int} {w : World} (h : Rd k (.slice a len cap) l w) (n : Nat) (hn : n ≤ l.length) : Rd k (.slice a n cap) (l.take n) w := by
  obtain ⟨a', cap', e, h1, h2, h0, h3⟩ := h
  cases e
  have hl : (l.take n).length = n := by rw [List.length_take]; omega
  refine ⟨a, cap, by rw [hl], by omega, h2, h0, ?_⟩
  rcases h3 with h3 | ⟨g, off, rfl, h3⟩
  · exact Or.inl (by omega)
  · refine Or.inr ⟨g, off, rfl, fun j hj => ?_⟩
    rw [h3 j (by omega), List.getElem_take]

/-- Block g holds the numbers l from its beginning on, and they may be written. -/
structure Wn (k : IntKind) (g : Nat) (l : List Int) (w : World) : Prop where
  cell : ∀ j (hj : j < l.length), w.cell? ⟨g, j, none⟩ = some (.int k l[j])
  free : ∀ j, j < l.length → w.frozen? ⟨g, j, none⟩ = false
theorem Wn.set {k : IntKind} {g : Nat} {l : List Int} {w : World} (h : Wn k g l w) (j : Nat) (hj : j < l.length) (x : Int) : Wn k g (l.set j x) (w.setCell ⟨g, j, none⟩ (.int k x)) := by
  refine ⟨fun i hi => ?_, fun i hi => ?_⟩
  · rw [List.length_set] at hi
    by_cases e : j = i
    · subst e
      rw [World.cell?_setCell_same _ _ _ (h.cell j hj)]
      simp
    · rw [World.cell?_setCell_other _ _ _ _ (by intro c; exact e (congrArg Addr.off c)), h.cell i hi]
      simp [List.getElem_set_ne e]
  · rw [List.length_set] at hi
    rw [World.frozen?_setCell]; exact h.free i hi
theorem Wn.drew {k : IntKind} {g : Nat} {l : List Int} {w : World} (h : Wn k g l w) : Wn k g l w.drew := ⟨fun j hj => by have := h.cell j hj; simpa using this, fun j hj => by have := h.free j hj; simpa using this⟩
theorem Wn.keep {k : IntKind} {g : Nat} {l : List Int} {w w' : World} (h : Wn k g l w) (e : w'.heap[g]? = w.heap[g]?) : Wn k g l w' :=
  ⟨fun j hj => (World.cell?_of_block (w := w) (a := ⟨g, j, none⟩) e).trans (h.cell j hj), fun j hj => (World.frozen?_of_block (w := w) (a := ⟨g, j, none⟩) e).trans (h.free j hj)⟩
theorem Wn.rd {k : IntKind} {g : Nat} {l : List Int} {w : World} (h : Wn k g l w) {cap : Nat} (h1 : l.length ≤ cap) (h2 : cap ≤ maxLen) : Rd k (.slice (some ⟨g, 0, none⟩) l.length cap) l w :=
  ⟨_, cap, rfl, h1, h2, (fun e => by cases e), Or.inr ⟨g, 0, rfl, fun j hj => by rw [Nat.zero_add]; exact h.cell j hj⟩⟩
/-- Of an owned row. -/
theorem Wn.of {k : IntKind} {E : TypeId} {B : Nat} {v : Value} {l : List Int} {w : World} (h : w.ownsRow B E 1 v l.length (l.map (Value.int k))) :
    (v = .slice none 0 0 ∧ l = []) ∨ ∃ g cap, v = .slice (some ⟨g, 0, none⟩) l.length cap ∧ B ≤ g ∧ g < w.heap.size ∧ l.length ≤ cap ∧ cap ≤ maxLen ∧ Wn k g l w := by
  rcases h.2 with ⟨hv, hn⟩ | ⟨g, cap, cur, hv, hg, hh, h1, h2, h3, h4⟩
  · exact Or.inl ⟨hv, List.length_eq_zero_iff.1 hn⟩
  · refine Or.inr ⟨g, cap, hv, hg, (Array.getElem?_eq_some_iff.1 hh).1, h1, h2, fun j hj => ?_, fun j _ => by simp [World.frozen?, hh]⟩
    have := World.ownsRow.cells h (g := g) (by rw [hv]; rfl) j (.int k l[j]) (by simp [List.getElem?_eq_getElem hj])
    rw [← this]
    unfold Addr.add; split <;> simp_all

/-- The lots behind the pointer to block p: l. All that they lie in is from block B on. -/
structure Lt (B p : Nat) (l : List Int) (w : World) : Prop where
  ex : ∃ v, w.heap[p]? = some (.cells #[v] 62 (0, 0)) ∧ Rd .u64 v l w ∧ ∀ g, v.ownBlock = some g → B ≤ g ∧ g < p
  le : B ≤ p
theorem Lt.lt {B p : Nat} {l : List Int} {w : World} (h : Lt B p l w) : p < w.heap.size := by
  obtain ⟨v, h1, _⟩ := h.ex
  exact (Array.getElem?_eq_some_iff.1 h1).1
theorem Lt.keep {B p : Nat} {l : List Int} {w w' : World} (h : Lt B p l w) (hw : ∀ g, B ≤ g → g ≤ p → w'.heap[g]? = w.heap[g]?) : Lt B p l w' := by
  obtain ⟨⟨v, h1, h2, h3⟩, hB⟩ := h
  exact ⟨⟨v, (hw p hB (Nat.le_refl _)).trans h1, h2.keep fun g hg _ => hw g (h3 g hg).1 (Nat.le_of_lt (h3 g hg).2), h3⟩, hB⟩
theorem Lt.below {B p : Nat} {l : List Int} {w w' : World} (h : Lt B p l w) (hb : Below w.heap.size w w') : Lt B p l w' := by
  have := h.lt
  exact h.keep fun g _ hg => hb.block g (by omega)
theorem Lt.but {B p : Nat} {l : List Int} {w w' : World} {q : Nat} (h : Lt B p l w) (hb : But w.heap.size q w w') (hq : q < B ∨ p < q) : Lt B p l w' := by
  have := h.lt
  exact h.keep fun g _ hg => hb.block g (by omega) (by omega)
theorem Lt.drew {B p : Nat} {l : List Int} {w : World} (h : Lt B p l w) : Lt B p l w.drew := h.keep fun _ _ _ => rfl

end Go.Proofs.Ytnhpkpodeojldaa
