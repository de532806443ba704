/-
  What is the best of what is told, as a plain function; the closure that keeps it.
-/
import Derived.Test.YtjhpbnijjdmclaaRfu
import Derived.Test.YtjhpbnijjdmclaaOpn
namespace Go.Proofs.Ytjhpbnijjdmclaa
open Go.RowKit

def mayU (u : Upd) : Bool := mayS u.n u.s
def newerU (u v : Upd) : Bool := newerS u.i u.s v.i v.s
def hearS (b : Upd) (f : Bool) (u : Upd) : Upd × Bool := if !f || ((u.n == b.n) && newerU u b) then (u, true) else (b, f)
def stepS (b : Upd × Bool) (u : Upd) : Upd × Bool := if mayU u then hearS b.1 b.2 u else b
def bestS (l : List Upd) : Upd × Bool := l.foldl stepS (⟨0, 0, 0⟩, false)

/-- Below block number B all is as it was, but for blocks p and q. -/
structure But2 (B p q : Nat) (w w' : World) : Prop where
  os : w'.os = w.os
  tape : w'.tape = w.tape
  output : w'.output = w.output
  size : w.heap.size ≤ w'.heap.size
  block : ∀ k, k < B → k ≠ p → k ≠ q → w'.heap[k]? = w.heap[k]?
theorem But2.of {B p q : Nat} {w w' : World} (h : Below B w w') : But2 B p q w w' := ⟨h.os, h.tape, h.output, h.size, fun k hk _ _ => h.block k hk⟩
theorem But2.setCell {B p q : Nat} {a w : World} (h : But2 B p q a w) {r : Addr} (hr : r.block = p ∨ r.block = q ∨ B ≤ r.block) (u : Value) : But2 B p q a (w.setCell r u) :=
  ⟨h.os, h.tape, h.output, by simpa [World.setCell] using h.size, fun k hk hp hq => (Below.heap_setCell _ _ _ _ (by omega)).trans (h.block k hk hp hq)⟩

/-- Block g is a box, in which a bool lies. -/
structure Fl (g : Nat) (f : Bool) (w : World) : Prop where
  heap : w.heap[g]? = some (.cells #[.bool f] 4 (0, 0))
section
variable {g : Nat} {f : Bool} {w w' : World}
theorem Fl.c (h : Fl g f w) : w.cell? ⟨g, 0, none⟩ = some (.bool f) := by simp [World.cell?, h.heap]
theorem Fl.free (h : Fl g f w) : w.frozen? ⟨g, 0, none⟩ = false := by simp [World.frozen?, h.heap]
theorem Fl.lt (h : Fl g f w) : g < w.heap.size := (Array.getElem?_eq_some_iff.1 h.heap).1
theorem Fl.keep (h : Fl g f w) (e : w'.heap[g]? = w.heap[g]?) : Fl g f w' := ⟨e.trans h.heap⟩
theorem Fl.below (h : Fl g f w) (b : Below w.heap.size w w') : Fl g f w' := h.keep (b.block g h.lt)
theorem Fl.set (h : Fl g f w) (f' : Bool) : Fl g f' (w.setCell ⟨g, 0, none⟩ (.bool f')) := ⟨by simp [World.setCell, Array.getElem?_modify, h.heap]⟩
theorem Fl.other (h : Fl g f w) {q : Addr} (hq : g ≠ q.block) (v : Value) : Fl g f (w.setCell q v) := h.keep (Below.heap_setCell _ _ _ _ hq)
end
section
variable {T : TypeId} {g : Nat} {n i s : Int} {w w' : World}
theorem Bx.free (h : Bx T g n i s w) (j : Nat) : w.frozen? ⟨g, j, none⟩ = false := by simp [World.frozen?, h.heap]
theorem Bx.other (h : Bx T g n i s w) {q : Addr} (hq : g ≠ q.block) (v : Value) : Bx T g n i s (w.setCell q v) := h.keep (Below.heap_setCell _ _ _ _ hq)
theorem Bx.set (h : Bx T g n i s w) (n' i' s' : Int) : Bx T g n' i' s' (((w.setCell ⟨g, 0, none⟩ (.int .i64 n')).setCell ⟨g, 1, none⟩ (.int .u64 i')).setCell ⟨g, 2, none⟩ (.int .i64 s')) :=
  ⟨by simp [World.setCell, Array.getElem?_modify, h.heap]⟩
end

set_option maxHeartbeats 1000000 in
theorem hear_any (u b : Upd) (f : Bool) (gf gb : Nat) (w : World) (hb : Bx 41 gb b.n b.i b.s w) (hf : Fl gf f w) (hne : gf ≠ gb) :
    Calls Try.prog 22 #[.agg #[.int .i64 u.n, .int .u64 u.i, .int .i64 u.s], .pointer (some ⟨gf, 0, none⟩), .pointer (some ⟨gb, 0, none⟩)] w fun e w' => e = .returned (.tuple #[]) ∧
      Bx 41 gb (hearS b f u).1.n (hearS b f u).1.i (hearS b f u).1.s w' ∧ Fl gf (hearS b f u).2 w' ∧ But2 w.heap.size gf gb w w' := by
  have h0 : Below w.heap.size w (w.alloc (.cells #[.int .i64 u.n, .int .u64 u.i, .int .i64 u.s] 41)) := (Below.refl _ _).alloc (Nat.le_refl _) _
  have hb1 := hb.below h0
  have hf1 := hf.below h0
  have x0 := hb1.c0
  have x1 := hb1.c1
  have x2 := hb1.c2
  have y0 := hb1.free 0
  have y1 := hb1.free 1
  have y2 := hb1.free 2
  have z0 := hf1.c
  have z1 := hf1.free
  have hsame : ∀ w1, Bx 41 gb b.n b.i b.s w1 → Fl gf f w1 → But2 w.heap.size gf gb w w1 → Bx 41 gb u.n u.i u.s (((w1.setCell ⟨gb, 0, none⟩ (.int .i64 u.n)).setCell ⟨gb, 1, none⟩ (.int .u64 u.i)).setCell ⟨gb, 2, none⟩ (.int .i64 u.s) |>.setCell ⟨gf, 0, none⟩ (.bool true)) ∧
      Fl gf true (((w1.setCell ⟨gb, 0, none⟩ (.int .i64 u.n)).setCell ⟨gb, 1, none⟩ (.int .u64 u.i)).setCell ⟨gb, 2, none⟩ (.int .i64 u.s) |>.setCell ⟨gf, 0, none⟩ (.bool true)) ∧
      But2 w.heap.size gf gb w (((w1.setCell ⟨gb, 0, none⟩ (.int .i64 u.n)).setCell ⟨gb, 1, none⟩ (.int .u64 u.i)).setCell ⟨gb, 2, none⟩ (.int .i64 u.s) |>.setCell ⟨gf, 0, none⟩ (.bool true)) :=
    fun w1 k1 k2 k3 => ⟨(k1.set u.n u.i u.s).other (Ne.symm hne) _, (((k2.other hne _).other hne _).other hne _).set true, (((k3.setCell (Or.inr (Or.inl rfl)) _).setCell (Or.inr (Or.inl rfl)) _).setCell (Or.inr (Or.inl rfl)) _).setCell (Or.inl rfl) _⟩
  have h0' := But2.of (p := gf) (q := gb) h0
  cases f
  case false =>
    have e : hearS b false u = (u, true) := by simp [hearS]
    rw [e]
    have hend := hsame _ hb1 hf1 h0'
    clear hsame
    go_enter Try.func22, Try.ntmps22
    go_wp2_with fail
    go_end0
    exact ⟨rfl, hend⟩
  case true =>
    cases hn : (u.n == b.n)
    case false =>
      have e : hearS b true u = (b, true) := by simp [hearS, hn]
      rw [e]
      clear hsame
      go_enter Try.func22, Try.ntmps22
      go_wp2_with fail
      go_end0
      exact ⟨rfl, hb1, hf1, h0'⟩
    case true =>
      cases hN : newerS u.i u.s b.i b.s
      case false =>
        have e : hearS b true u = (b, true) := by simp [hearS, hn, newerU, hN]
        rw [e]
        clear hsame
        go_enter Try.func22, Try.ntmps22
        go_wp2_with fail
        refine (upd_newer _ _ _ _ _ _ _).mono ?_
        rw [hN]
        rintro e w1 ⟨rfl, hw1⟩
        go_wp2_with fail
        go_end0
        exact ⟨rfl, hb1.below hw1, hf1.below hw1, But2.of (h0.trans (hw1.mono h0.size))⟩
      case true =>
        have e : hearS b true u = (u, true) := by simp [hearS, hn, newerU, hN]
        rw [e]
        have hu := Bx.new 41 u.n u.i u.s w
        go_enter Try.func22, Try.ntmps22
        go_wp2_with fail
        refine (upd_newer _ _ _ _ _ _ _).mono ?_
        rw [hN]
        rintro e w1 ⟨rfl, hw1⟩
        have hb2 := hb1.below hw1
        have hf2 := hf1.below hw1
        have hu2 := hu.below hw1
        have hend := hsame _ hb2 hf2 (But2.of (h0.trans (hw1.mono h0.size)))
        clear x0 x1 x2 y0 y1 y2 z0 z1 hsame
        have x0 := hb2.c0
        have x1 := hb2.c1
        have x2 := hb2.c2
        have y0 := hb2.free 0
        have y1 := hb2.free 1
        have y2 := hb2.free 2
        have z0 := hf2.c
        have z1 := hf2.free
        have u0 := hu2.c0
        have u1 := hu2.c1
        have u2 := hu2.c2
        go_wp2_with fail
        go_end0
        exact ⟨rfl, hend⟩
end Go.Proofs.Ytjhpbnijjdmclaa
