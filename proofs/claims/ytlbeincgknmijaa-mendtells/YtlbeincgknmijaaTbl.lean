/-
  A shelf's ring, its cells; a shelf behind a pointer; boxes of messages.
-/
import Derived.Test.YtlbeincgknmijaaBas
import Derived.Laws.ResultCell
import Derived.Deep.RegionWith
import Derived.Deep.RegionLaw
import Derived.Deep.RegionHeld3
import Derived.BigRegion
namespace Go.Proofs.Ytlbeincgknmijaa
open Go.RowKit

/-- A message; a place of the ring. -/
structure Ms where
  s : Int
  m : Int
  x : ByteArray
structure Pl where
  n : Int
  g : Ms
def zM : Ms := ⟨0, 0, ⟨#[]⟩⟩
def zP : Pl := ⟨0, zM⟩
def Ms.cs (g : Ms) : List Value := [.int .i64 g.s, .int .u64 g.m, .string g.x]
def Ms.v (g : Ms) : Value := .agg #[.int .i64 g.s, .int .u64 g.m, .string g.x]
abbrev Rng := Nat → Pl
def Rng.set (R : Rng) (k : Nat) (u : Pl) : Rng := fun j => if j = k then u else R j
theorem Rng.set_same (R : Rng) (k : Nat) (u : Pl) : R.set k u k = u := by simp [Rng.set]
theorem Rng.set_other (R : Rng) {k j : Nat} (u : Pl) (h : j ≠ k) : R.set k u j = R j := by simp [Rng.set, h]

def plC (u : Pl) : List Value := [.int .u64 u.n, .int .i64 u.g.s, .int .u64 u.g.m, .string u.g.x]
theorem plC_length (u : Pl) : (plC u).length = 4 := rfl
def plsN (R : Rng) : Nat → List Value
  | 0 => []
  | n + 1 => plsN R n ++ plC (R n)
theorem plsN_length (R : Rng) (n : Nat) : (plsN R n).length = n * 4 := by
  induction n with
  | zero => rfl
  | succ n ih => simp [plsN, ih, plC_length]; omega
theorem plsN_get (R : Rng) (n : Nat) : ∀ j c, j < n → c < 4 → (plsN R n)[j * 4 + c]? = (plC (R j))[c]? := by
  induction n with
  | zero => intro j c h; omega
  | succ n ih =>
    intro j c hj hc
    simp only [plsN]
    by_cases h : j < n
    · rw [List.getElem?_append_left (by rw [plsN_length]; omega)]
      exact ih j c h hc
    · obtain rfl : j = n := by omega
      rw [List.getElem?_append_right (by rw [plsN_length]; omega), plsN_length]
      congr 1; omega
theorem plsN_ext {R S : Rng} (h : ∀ j, j < 64 → R j = S j) : plsN R 64 = plsN S 64 := by
  have : ∀ n, n ≤ 64 → plsN R n = plsN S n := by
    intro n
    induction n with
    | zero => intro _; rfl
    | succ n ih => intro hn; simp only [plsN]; rw [ih (by omega), h n (by omega)]
  exact this 64 (Nat.le_refl _)
def shC (low : Int) (R : Rng) : List Value := plsN R 64 ++ [.int .u64 low]
theorem shC_length (low : Int) (R : Rng) : (shC low R).length = 257 := by simp [shC, plsN_length]
theorem shC_get (low : Int) (R : Rng) {j c : Nat} (hj : j < 64) (hc : c < 4) : (shC low R)[j * 4 + c]? = (plC (R j))[c]? := by
  rw [shC, List.getElem?_append_left (by rw [plsN_length]; omega), plsN_get R 64 j c hj hc]
theorem shC_low (low : Int) (R : Rng) : (shC low R)[256]? = some (.int .u64 low) := by
  rw [shC, List.getElem?_append_right (by rw [plsN_length]; omega), plsN_length]; rfl
theorem shC_set (low : Int) (R : Rng) {j : Nat} (hj : j < 64) (u : Pl) :
    ((((shC low R).set (j * 4) (.int .u64 u.n)).set (j * 4 + 1) (.int .i64 u.g.s)).set (j * 4 + 2) (.int .u64 u.g.m)).set (j * 4 + 3) (.string u.g.x) = shC low (R.set j u) := by
  refine List.ext_getElem? fun m => ?_
  have hl := shC_length low R
  by_cases hm : m < 256
  · obtain ⟨q, c, rfl, hq, hc⟩ : ∃ q c, m = q * 4 + c ∧ q < 64 ∧ c < 4 := ⟨m / 4, m % 4, by omega, by omega, by omega⟩
    rw [shC_get low _ hq hc]
    by_cases hqj : q = j
    · subst hqj
      rw [Rng.set_same]
      have hc' : c = 0 ∨ c = 1 ∨ c = 2 ∨ c = 3 := by omega
      rcases hc' with rfl | rfl | rfl | rfl
      · rw [List.getElem?_set_ne (by omega), List.getElem?_set_ne (by omega), List.getElem?_set_ne (by omega), Nat.add_zero, List.getElem?_set_self (by omega)]; rfl
      · rw [List.getElem?_set_ne (by omega), List.getElem?_set_ne (by omega), List.getElem?_set_self (by simp; omega)]; rfl
      · rw [List.getElem?_set_ne (by omega), List.getElem?_set_self (by simp; omega)]; rfl
      · rw [List.getElem?_set_self (by simp; omega)]; rfl
    · rw [Rng.set_other R u hqj, ← shC_get low R hq hc]
      rw [List.getElem?_set_ne (by omega), List.getElem?_set_ne (by omega), List.getElem?_set_ne (by omega), List.getElem?_set_ne (by omega)]
  · rw [List.getElem?_set_ne (by omega), List.getElem?_set_ne (by omega), List.getElem?_set_ne (by omega), List.getElem?_set_ne (by omega)]
    rw [shC, shC, List.getElem?_append_right (by rw [plsN_length]; omega), List.getElem?_append_right (by rw [plsN_length]; omega), plsN_length, plsN_length]
theorem shC_setlow (low low' : Int) (R : Rng) : (shC low R).set 256 (.int .u64 low') = shC low' R := by
  rw [shC, List.set_append_right _ _ (by rw [plsN_length]; omega), plsN_length]; rfl

/-- Block p is the shelf of low and R. -/
structure Sf (p : Nat) (low : Int) (R : Rng) (w : World) : Prop where
  heap : w.heap[p]? = some (.cells (shC low R).toArray 61 (0, 0))
section
variable {p : Nat} {low : Int} {R : Rng} {w w' : World}
theorem Sf.cell (h : Sf p low R w) (m : Nat) : w.cell? ⟨p, m, none⟩ = (shC low R)[m]? := by simp [World.cell?, h.heap]
theorem Sf.clow (h : Sf p low R w) : w.cell? ⟨p, 256, none⟩ = some (.int .u64 low) := by rw [h.cell, shC_low]
theorem Sf.at (h : Sf p low R w) {j c : Nat} (hj : j < 64) (hc : c < 4) : w.cell? ⟨p, j * 4 + c, none⟩ = (plC (R j))[c]? := by rw [h.cell, shC_get low R hj hc]
theorem Sf.c0 (h : Sf p low R w) {j : Nat} (hj : j < 64) : w.cell? ⟨p, j * 4, none⟩ = some (.int .u64 (R j).n) := h.at hj (c := 0) (by omega)
theorem Sf.c1 (h : Sf p low R w) {j : Nat} (hj : j < 64) : w.cell? ⟨p, j * 4 + 1, none⟩ = some (.int .i64 (R j).g.s) := h.at hj (c := 1) (by omega)
theorem Sf.c2 (h : Sf p low R w) {j : Nat} (hj : j < 64) : w.cell? ⟨p, j * 4 + 2, none⟩ = some (.int .u64 (R j).g.m) := h.at hj (c := 2) (by omega)
theorem Sf.c3 (h : Sf p low R w) {j : Nat} (hj : j < 64) : w.cell? ⟨p, j * 4 + 3, none⟩ = some (.string (R j).g.x) := h.at hj (c := 3) (by omega)
theorem Sf.free (h : Sf p low R w) (m : Nat) : w.frozen? ⟨p, m, none⟩ = false := by simp [World.frozen?, h.heap]
theorem Sf.lt (h : Sf p low R w) : p < w.heap.size := (Array.getElem?_eq_some_iff.1 h.heap).1
theorem Sf.keep (h : Sf p low R w) (e : w'.heap[p]? = w.heap[p]?) : Sf p low R w' := ⟨e.trans h.heap⟩
theorem Sf.below (h : Sf p low R w) (b : Below w.heap.size w w') : Sf p low R w' := h.keep (b.block p h.lt)
theorem Sf.drew (h : Sf p low R w) : Sf p low R w.drew := ⟨h.heap⟩
theorem Sf.drewN (h : Sf p low R w) (n : Nat) : Sf p low R (w.drewN n) := ⟨h.heap⟩
theorem Sf.other (h : Sf p low R w) {q : Addr} (hq : p ≠ q.block) (v : Value) : Sf p low R (w.setCell q v) := h.keep (Below.heap_setCell _ _ _ _ hq)
theorem Sf.put (h : Sf p low R w) {j : Nat} (hj : j < 64) (u : Pl) :
    Sf p low (R.set j u) ((((w.setCell ⟨p, j * 4, none⟩ (.int .u64 u.n)).setCell ⟨p, j * 4 + 1, none⟩ (.int .i64 u.g.s)).setCell ⟨p, j * 4 + 2, none⟩ (.int .u64 u.g.m)).setCell ⟨p, j * 4 + 3, none⟩ (.string u.g.x)) := by
  refine ⟨?_⟩
  rw [← shC_set low R hj u]
  simp [World.setCell, Array.getElem?_modify, h.heap]
theorem Sf.setlow (h : Sf p low R w) (low' : Int) : Sf p low' R (w.setCell ⟨p, 256, none⟩ (.int .u64 low')) := by
  refine ⟨?_⟩
  rw [← shC_setlow low low' R]
  simp [World.setCell, Array.getElem?_modify, h.heap]
theorem Sf.ext (h : Sf p low R w) {S : Rng} (e : ∀ j, j < 64 → R j = S j) : Sf p low S w := ⟨by rw [h.heap, shC, shC, plsN_ext e]⟩
end

/-- Below block number B all is as it was, but for block p. -/
structure But (B p : Nat) (w w' : World) : Prop where
  os : w'.os = w.os
  tape : w'.tape = w.tape
  output : w'.output = w.output
  size : w.heap.size ≤ w'.heap.size
  block : ∀ k, k < B → k ≠ p → w'.heap[k]? = w.heap[k]?
theorem But.of {B p : Nat} {w w' : World} (h : Below B w w') : But B p w w' := ⟨h.os, h.tape, h.output, h.size, fun k hk _ => h.block k hk⟩
theorem But.refl (B p : Nat) (w : World) : But B p w w := ⟨rfl, rfl, rfl, Nat.le_refl _, fun _ _ _ => rfl⟩
theorem But.setCell {B p : Nat} {a w : World} (h : But B p a w) {r : Addr} (hr : r.block = p ∨ B ≤ r.block) (u : Value) : But B p a (w.setCell r u) :=
  ⟨h.os, h.tape, h.output, by simpa [World.setCell] using h.size, fun k hk hp => (Below.heap_setCell _ _ _ _ (by omega)).trans (h.block k hk hp)⟩
theorem But.trans {B p : Nat} {a w w' : World} (h : But B p a w) (k : But B p w w') : But B p a w' :=
  ⟨k.os.trans h.os, k.tape.trans h.tape, k.output.trans h.output, Nat.le_trans h.size k.size, fun i hi hp => (k.block i hi hp).trans (h.block i hi hp)⟩
theorem But.mono {B C p : Nat} {w w' : World} (h : But C p w w') (hB : B ≤ C) : But B p w w' := ⟨h.os, h.tape, h.output, h.size, fun i hi hp => h.block i (by omega) hp⟩
theorem But.drew {B p : Nat} {a w : World} (h : But B p a w) : But B p a w.drew := ⟨h.os, h.tape, h.output, h.size, fun i hi hp => h.block i hi hp⟩
theorem But.drewN {B p : Nat} {a w : World} (h : But B p a w) (n : Nat) : But B p a (w.drewN n) := ⟨h.os, h.tape, h.output, h.size, fun i hi hp => h.block i hi hp⟩
/-- Where p is not below B, all below B is as it was. -/
theorem But.to {B p : Nat} {w w' : World} (h : But B p w w') (hp : B ≤ p) : Below B w w' := ⟨h.os, h.tape, h.output, h.size, fun i hi => h.block i hi (by omega)⟩
theorem But.set4 {B p : Nat} {a w : World} (h : But B p a w) (i j k l : Nat) (x y z v : Value) : But B p a ((((w.setCell ⟨p, i, none⟩ x).setCell ⟨p, j, none⟩ y).setCell ⟨p, k, none⟩ z).setCell ⟨p, l, none⟩ v) :=
  (((h.setCell (r := ⟨p, i, none⟩) (Or.inl rfl) _).setCell (r := ⟨p, j, none⟩) (Or.inl rfl) _).setCell (r := ⟨p, k, none⟩) (Or.inl rfl) _).setCell (r := ⟨p, l, none⟩) (Or.inl rfl) _
theorem Below.drew' {B : Nat} {a w : World} (h : Below B a w) : Below B a w.drew := ⟨h.os, h.tape, h.output, h.size, fun i hi => h.block i hi⟩

/-- Block b holds a message. -/
structure Bm (b : Nat) (g : Ms) (w : World) : Prop where
  heap : w.heap[b]? = some (.cells #[.int .i64 g.s, .int .u64 g.m, .string g.x] 28 (0, 0))
section
variable {b : Nat} {g : Ms} {w w' : World}
theorem Bm.new (g : Ms) (w : World) : Bm w.heap.size g (w.alloc (.cells #[.int .i64 g.s, .int .u64 g.m, .string g.x] 28)) := ⟨heap_alloc_new w _⟩
theorem Bm.c0 (h : Bm b g w) : w.cell? ⟨b, 0, none⟩ = some (.int .i64 g.s) := by simp [World.cell?, h.heap]
theorem Bm.c1 (h : Bm b g w) : w.cell? ⟨b, 1, none⟩ = some (.int .u64 g.m) := by simp [World.cell?, h.heap]
theorem Bm.c2 (h : Bm b g w) : w.cell? ⟨b, 2, none⟩ = some (.string g.x) := by simp [World.cell?, h.heap]
theorem Bm.free (h : Bm b g w) (j : Nat) : w.frozen? ⟨b, j, none⟩ = false := by simp [World.frozen?, h.heap]
theorem Bm.lt (h : Bm b g w) : b < w.heap.size := (Array.getElem?_eq_some_iff.1 h.heap).1
theorem Bm.keep (h : Bm b g w) (e : w'.heap[b]? = w.heap[b]?) : Bm b g w' := ⟨e.trans h.heap⟩
theorem Bm.below (h : Bm b g w) (k : Below w.heap.size w w') : Bm b g w' := h.keep (k.block b h.lt)
theorem Bm.but {p : Nat} (h : Bm b g w) (k : But w.heap.size p w w') (hp : b ≠ p) : Bm b g w' := h.keep (k.block b h.lt hp)
theorem Bm.set (h : Bm b g w) (u : Ms) : Bm b u (((w.setCell ⟨b, 0, none⟩ (.int .i64 u.s)).setCell ⟨b, 1, none⟩ (.int .u64 u.m)).setCell ⟨b, 2, none⟩ (.string u.x)) :=
  ⟨by simp [World.setCell, Array.getElem?_modify, h.heap]⟩
end
theorem Sf.but {p q : Nat} {low : Int} {R : Rng} {w w' : World} (h : Sf q low R w) (k : But w.heap.size p w w') (hp : q ≠ p) : Sf q low R w' := h.keep (k.block q h.lt hp)
theorem below_set3 {B g : Nat} {a w : World} (h : Below B a w) (hg : B ≤ g) (x y z : Value) : Below B a (((w.setCell ⟨g, 0, none⟩ x).setCell ⟨g, 1, none⟩ y).setCell ⟨g, 2, none⟩ z) :=
  ((h.setCell (p := ⟨g, 0, none⟩) hg _).setCell (p := ⟨g, 1, none⟩) hg _).setCell (p := ⟨g, 2, none⟩) hg _

/-- Whether n is there. -/
def hasR (low : Int) (R : Rng) (n : Int) : Bool := decide (low < n) && decide ((R (n % 64).toNat).n = n)
/-- What the ring may hold. -/
def RI (low : Int) (R : Rng) : Prop := ∀ j, j < 64 → R j = zP ∨ (low < (R j).n ∧ (R j).n ≤ low + 64 ∧ (R j).n % 64 = j)
theorem RI.zero : RI 0 (fun _ => zP) := fun _ _ => Or.inl rfl
theorem RI.has {low : Int} {R : Rng} (h : RI low R) (l0 : 0 ≤ low) {n : Int} (hn : hasR low R n = true) : low < n ∧ n ≤ low + 64 := by
  simp only [hasR, Bool.and_eq_true, decide_eq_true_eq] at hn
  have hj := h (n % 64).toNat (by omega)
  rcases hj with hj | hj
  · have := hn.2; rw [hj] at this; simp only [zP] at this; omega
  · omega
end Go.Proofs.Ytlbeincgknmijaa
