/-
  Slices of spans: what they read as; rows of spans that are appended to.
-/
import Derived.Test.YtlbeincgknmijaaMrf
import Derived.Test.YtlbeincgknmijaaProg
import Derived.WalkKit
import Derived.WalkSpells
import Derived.WalkLawsBesides
import Derived.Deep.LoopGhost
import Derived.Deep.QuietTactic
import Derived.BigQuiet
import Derived.Maps.AppendAt
import Derived.OwnWalk
import Derived.KernelRfl
import Derived.Laws.AppendOwnNone
namespace Go.Proofs.Ytlbeincgknmijaa
open Go.RowKit

theorem below_drewN (B : Nat) (w : World) (n : Nat) : Below B w (w.drewN n) := ⟨rfl, rfl, rfl, Nat.le_refl _, fun _ _ => rfl⟩
theorem below_alloc (w : World) (b : Obj) : Below w.heap.size w (w.alloc b) := (Below.refl _ _).alloc (Nat.le_refl _) _

def Sn.cs (s : Sn) : List Value := [.int .u64 s.f, .int .u64 s.t]
def Sn.v (s : Sn) : Value := .agg #[.int .u64 s.f, .int .u64 s.t]
def flat : List Sn → List Value
  | [] => []
  | s :: r => s.cs ++ flat r
theorem flat_length (l : List Sn) : (flat l).length = l.length * 2 := by
  induction l with
  | nil => rfl
  | cons u r ih => simp [flat, Sn.cs, ih]; omega
theorem flat_append (l r : List Sn) : flat (l ++ r) = flat l ++ flat r := by
  induction l with
  | nil => rfl
  | cons u l ih => simp [flat, ih]
theorem flat_cell (l : List Sn) : ∀ v ∈ flat l, v.oneCell' = true := by
  induction l with
  | nil => intro v hv; cases hv
  | cons u r ih =>
    intro v hv
    simp only [flat, Sn.cs, List.cons_append, List.nil_append, List.mem_cons] at hv
    rcases hv with rfl | rfl | hv
    · rfl
    · rfl
    · exact ih v hv
theorem flat_get (l : List Sn) : ∀ j, j < l.length → (flat l)[j * 2]? = some (.int .u64 (el l j).f) ∧ (flat l)[j * 2 + 1]? = some (.int .u64 (el l j).t) := by
  induction l with
  | nil => intro j h; cases h
  | cons u r ih =>
    intro j h
    cases j with
    | zero => exact ⟨rfl, rfl⟩
    | succ j =>
      have h' : j < r.length := by simpa using h
      obtain ⟨a, b⟩ := ih j h'
      rw [el_succ]
      refine ⟨?_, ?_⟩
      · rw [show (j + 1) * 2 = j * 2 + 2 from by omega]; exact a
      · rw [show (j + 1) * 2 + 1 = j * 2 + 1 + 2 from by omega]; exact b
theorem add_off (g off j : Nat) : (⟨g, off, none⟩ : Addr).add j = ⟨g, off + j, none⟩ := by unfold Addr.add; split <;> simp_all

/-- The slice v reads as the spans l. -/
def Rs (v : Value) (l : List Sn) (w : World) : Prop :=
  (∃ a cap, v = .slice a l.length cap ∧ l.length ≤ cap ∧ cap ≤ maxLen ∧ (l.length = 0 ∨ ∃ g off, a = some ⟨g, off, none⟩ ∧ ∀ j, j < l.length →
    w.cell? ⟨g, off + j * 2, none⟩ = some (.int .u64 (el l j).f) ∧ w.cell? ⟨g, off + j * 2 + 1, none⟩ = some (.int .u64 (el l j).t))) ∧ ∀ s ∈ l, SnOk s

theorem Rs.keep {v : Value} {l : List Sn} {w w' : World} (h : Rs v l w) (hw : ∀ g, v.ownBlock = some g → g < w.heap.size → w'.heap[g]? = w.heap[g]?) : Rs v l w' := by
  obtain ⟨⟨a, cap, rfl, h1, h2, h3⟩, h4⟩ := h
  refine ⟨⟨a, cap, rfl, h1, h2, ?_⟩, h4⟩
  rcases h3 with h3 | ⟨g, off, rfl, h3⟩
  · exact Or.inl h3
  · refine Or.inr ⟨g, off, rfl, fun j hj => ?_⟩
    obtain ⟨c0, c1⟩ := h3 j hj
    have hlt : g < w.heap.size := World.block_lt_of_cell? _ _ c0
    have e := hw g rfl hlt
    exact ⟨(World.cell?_of_block (w := w) e).trans c0, (World.cell?_of_block (w := w) e).trans c1⟩
theorem Rs.below {v : Value} {l : List Sn} {w w' : World} (h : Rs v l w) (hb : Below w.heap.size w w') : Rs v l w' := h.keep fun g _ hg => hb.block g hg
theorem Rs.nil (w : World) : Rs (.slice none 0 0) [] w := ⟨⟨none, 0, rfl, Nat.le_refl _, by unfold maxLen; omega, Or.inl rfl⟩, fun s hs => by cases hs⟩
theorem Rs.at {g off : Nat} {n cap : Nat} {l : List Sn} {w : World} (h : Rs (.slice (some ⟨g, off, none⟩) n cap) l w) {j : Nat} (hj : j < l.length) :
    w.cell? ⟨g, off + j * 2, none⟩ = some (.int .u64 (el l j).f) ∧ w.cell? ⟨g, off + j * 2 + 1, none⟩ = some (.int .u64 (el l j).t) := by
  obtain ⟨⟨_, _, e, _, _, h3⟩, _⟩ := h
  cases e
  rcases h3 with h3 | ⟨g', off', e, h3⟩
  · omega
  · cases e; exact h3 j hj
/-- A slice that has something has a place. -/
theorem Rs.shape {v : Value} {l : List Sn} {w : World} (h : Rs v l w) : (l = [] ∧ ∃ a cap, v = .slice a 0 cap) ∨ ∃ g off cap, v = .slice (some ⟨g, off, none⟩) l.length cap := by
  obtain ⟨⟨a, cap, rfl, h1, h2, h3⟩, h4⟩ := h
  rcases h3 with h3 | ⟨g, off, rfl, h3⟩
  · obtain rfl := List.length_eq_zero_iff.1 h3
    exact Or.inl ⟨rfl, a, cap, rfl⟩
  · exact Or.inr ⟨g, off, cap, rfl⟩
theorem Rs.cells {g off : Nat} {cap : Nat} {l : List Sn} {w : World} (h : Rs (.slice (some ⟨g, off, none⟩) l.length cap) l w) : ∀ j u, (flat l)[j]? = some u → w.cell? ((⟨g, off, none⟩ : Addr).add j) = some u := by
  intro j u hu
  have hj : j < l.length * 2 := by
    rw [← flat_length]
    exact (List.getElem?_eq_some_iff.1 hu).1
  have hq : j / 2 < l.length := by omega
  obtain ⟨a, b⟩ := h.at hq
  obtain ⟨a', b'⟩ := flat_get l (j / 2) hq
  rw [add_off]
  have hr : j % 2 = 0 ∨ j % 2 = 1 := by omega
  rcases hr with hr | hr
  · have e : j = j / 2 * 2 := by omega
    rw [← e] at a a'
    rw [hu] at a'
    rw [a, ← a']
  · have e : j = j / 2 * 2 + 1 := by omega
    rw [← e] at b'
    rw [hu] at b'
    rw [Nat.add_assoc, ← e] at b
    rw [b, ← b']

/-- The row v, of a block from B on, holds the spans l, and may be appended to. -/
def Ow (B : Nat) (v : Value) (l : List Sn) (w : World) : Prop := w.ownsRow B 51 2 v l.length (flat l)
theorem Ow.rs {B : Nat} {v : Value} {l : List Sn} {w : World} (h : Ow B v l w) (hl : ∀ s ∈ l, SnOk s) : Rs v l w := by
  refine ⟨?_, hl⟩
  rcases h.2 with ⟨rfl, h0⟩ | ⟨g, cap, cur, rfl, hb, hg, h1, h2, h3, h4⟩
  · exact ⟨none, 0, by rw [h0], by omega, by unfold maxLen; omega, Or.inl h0⟩
  · refine ⟨_, cap, rfl, h1, h2, Or.inr ⟨g, 0, rfl, fun j hj => ?_⟩⟩
    obtain ⟨a, b⟩ := flat_get l j hj
    have k := World.ownsRow.cells h (g := g) rfl
    have a := k _ _ a
    have b := k _ _ b
    rw [add_off] at a b
    rw [Nat.add_assoc]
    exact ⟨a, b⟩
theorem Ow.keep {B : Nat} {v : Value} {l : List Sn} {w w' : World} (h : Ow B v l w) (e : ∀ g, v.ownBlock = some g → g < w.heap.size → w'.heap[g]? = w.heap[g]?) : Ow B v l w' := by
  refine ⟨h.1, ?_⟩
  rcases h.2 with hn | ⟨g, cap, cur, rfl, hb, hg, rest⟩
  · exact Or.inl hn
  · exact Or.inr ⟨g, cap, cur, rfl, hb, (e g rfl (Array.getElem?_eq_some_iff.1 hg).1).trans hg, rest⟩
theorem Ow.below {B : Nat} {v : Value} {l : List Sn} {w w' : World} (h : Ow B v l w) (b : Below w.heap.size w w') : Ow B v l w' := h.keep fun g _ hg => b.block g hg
theorem Ow.lt {B : Nat} {v : Value} {l : List Sn} {w : World} (h : Ow B v l w) : ∀ g, v.ownBlock = some g → B ≤ g ∧ g < w.heap.size := World.ownsRow.lt h
theorem Ow.len {B : Nat} {v : Value} {l : List Sn} {w : World} (h : Ow B v l w) : ∃ a cap, v = .slice a l.length cap := by
  rcases h.2 with ⟨e, h0⟩ | ⟨g, cap, cur, rfl, hb, hg, h1, h2, _⟩
  · exact ⟨none, 0, by rw [h0]; exact e⟩
  · exact ⟨_, cap, rfl⟩
theorem Ow.nil (B : Nat) (w : World) : Ow B (.slice none 0 0) [] w := World.ownsRow_nil _ _ _ _

theorem infoSpan : (Try.prog.info? 51).map (fun i => (i.zero, i.size, i.bytes)) = some (some (.agg #[.int .u64 0, .int .u64 0]), 2, 16) := by kernel_rfl

/-- A slice of spans is appended to such a row. -/
theorem wpList_appS {ops : Array Oper} {rest : List Oper} {o : Oper} {a : Go.Act} {Q : Exit → Go.Act → World → Prop} {w : World} (hgd : o.guard = none) (s x : Operand)
    (ho : o.op = .call { callee := .builtin .append, args := #[s, x], argTypes := #[23, 23] }) (v : Value) (B : Nat) (r : List Sn) (hs : a.eval s = v) (hown : Ow B v r w) (hB : B ≤ w.heap.size)
    (g off m cap : Nat) (l : List Sn) (hm : m = l.length) (hx : a.eval x = .slice (some ⟨g, off, none⟩) m cap) (hu : Rs (.slice (some ⟨g, off, none⟩) m cap) l w) (hl : r.length + l.length ≤ 1000000)
    (h : ∀ v' w', Ow B v' (r ++ l) w' → w.grownBy w' v.ownBlock → wpList Try.prog ops Q rest (a.put o.dst v') w') :
    wpList Try.prog ops Q (o :: rest) a w := by
  obtain ⟨i0, hi, hz0, hz1, hz2⟩ := info_parts infoSpan
  subst hm
  refine wpList_append_own w hgd s x 23 ho B 51 i0 (.agg #[.int .u64 0, .int .u64 0]) 2 16 Try.underlying23 hi hz0 hz1 hz2 rfl (by decide) v r.length _ hs hown ⟨g, off, none⟩ l.length cap (flat l) hx (flat_length l) hu.cells (flat_cell l) (by unfold maxLen; omega) (by omega) hB ?_
  intro v' w' hown' hgr _
  refine h v' w' ?_ hgr
  unfold Ow
  rw [flat_append, List.length_append]
  exact hown'
/-- What is appended has no place: it is empty. -/
theorem wpList_appN {ops : Array Oper} {rest : List Oper} {o : Oper} {a : Go.Act} {Q : Exit → Go.Act → World → Prop} {w : World} (hgd : o.guard = none) (s x : Operand)
    (ho : o.op = .call { callee := .builtin .append, args := #[s, x], argTypes := #[23, 23] }) (v : Value) (B : Nat) (r : List Sn) (hs : a.eval s = v) (hown : Ow B v r w)
    (hx : a.eval x = .slice none 0 0)
    (h : wpList Try.prog ops Q rest (a.put o.dst v) w) :
    wpList Try.prog ops Q (o :: rest) a w := by
  obtain ⟨i0, hi, hz0, hz1, hz2⟩ := info_parts infoSpan
  exact wpList_append_own_none hgd s x 23 ho B 51 i0 2 Try.underlying23 hi v r.length _ hs hown hx h

/-- Block g is a box of type T in which a span lies. -/
structure Bx (T : TypeId) (g : Nat) (f t : Int) (w : World) : Prop where
  heap : w.heap[g]? = some (.cells #[.int .u64 f, .int .u64 t] T (0, 0))
section
variable {T : TypeId} {g : Nat} {f t : Int} {w w' : World}
theorem Bx.new (T : TypeId) (f t : Int) (w : World) : Bx T w.heap.size f t (w.alloc (.cells #[.int .u64 f, .int .u64 t] T)) := ⟨heap_alloc_new w _⟩
theorem Bx.c0 (h : Bx T g f t w) : w.cell? ⟨g, 0, none⟩ = some (.int .u64 f) := by simp [World.cell?, h.heap]
theorem Bx.c1 (h : Bx T g f t w) : w.cell? ⟨g, 1, none⟩ = some (.int .u64 t) := by simp [World.cell?, h.heap]
theorem Bx.free (h : Bx T g f t w) (j : Nat) : w.frozen? ⟨g, j, none⟩ = false := by simp [World.frozen?, h.heap]
theorem Bx.lt (h : Bx T g f t w) : g < w.heap.size := (Array.getElem?_eq_some_iff.1 h.heap).1
theorem Bx.keep (h : Bx T g f t w) (e : w'.heap[g]? = w.heap[g]?) : Bx T g f t w' := ⟨e.trans h.heap⟩
theorem Bx.below (h : Bx T g f t w) (b : Below w.heap.size w w') : Bx T g f t w' := h.keep (b.block g h.lt)
theorem Bx.set1 (h : Bx T g f t w) (t' : Int) : Bx T g f t' (w.setCell ⟨g, 1, none⟩ (.int .u64 t')) := ⟨by simp [World.setCell, Array.getElem?_modify, h.heap]⟩
end
theorem Rs.one {T : TypeId} {g : Nat} {f t : Int} {w : World} (h : Bx T g f t w) (hs : SnOk ⟨f, t⟩) : Rs (.slice (some ⟨g, 0, none⟩) 1 1) [⟨f, t⟩] w :=
  ⟨⟨_, 1, rfl, Nat.le_refl _, by unfold maxLen; omega, Or.inr ⟨g, 0, rfl, fun j hj => by
    have hj' : j = 0 := by simpa using hj
    subst hj'
    exact ⟨h.c0, h.c1⟩⟩⟩, fun s hs' => by rw [List.mem_singleton] at hs'; subst hs'; exact hs⟩
theorem below_grown {B : Nat} {w0 w w' : World} {v : Value} {l : List Sn} (h : Below B w0 w) (hO : Ow B v l w) (hg : w.grownBy w' v.ownBlock) (hB : B ≤ w.heap.size) : Below B w0 w' :=
  h.trans ⟨hg.os, hg.tape, hg.output, hg.size, fun q hq => hg.block q (by omega) (fun e => by have := (hO.lt q e.symm).1; omega)⟩
theorem cell_below {p : Addr} {v : Value} {w w' : World} (h : w.cell? p = some v) (hb : Below w.heap.size w w') : w'.cell? p = some v :=
  (World.cell?_of_block (w := w) (hb.block _ (World.block_lt_of_cell? _ _ h))).trans h
theorem drop_el {l : List Sn} {k : Nat} (h : k < l.length) : l.drop k = el l k :: l.drop (k + 1) := by rw [el_get h]; exact List.drop_eq_getElem_cons h
end Go.Proofs.Ytlbeincgknmijaa
