/-
  What a roll holds, as a function of the node; its cells; a roll behind a pointer.
-/
import Derived.Test.YtkodeahhckibmaaDoorRfu
import Derived.Test.YtkodeahhckibmaaDoorOpn
import Derived.Deep.MidRow
namespace Go.Proofs.YtkodeahhckibmaaDoor
open Go.RowKit

/-- What is known of each node. -/
abbrev Tab := Nat → Option Upd
def Tab.set (f : Tab) (k : Nat) (u : Upd) : Tab := fun j => if j = k then some u else f j
theorem Tab.set_same (f : Tab) (k : Nat) (u : Upd) : f.set k u k = some u := by simp [Tab.set]
theorem Tab.set_other (f : Tab) {k j : Nat} (u : Upd) (h : j ≠ k) : f.set k u j = f j := by simp [Tab.set, h]
def ud (o : Option Upd) : Upd := o.getD ⟨0, 0, 0⟩

def entC (o : Option Upd) : List Value := [.bool o.isSome, .int .i64 (ud o).n, .int .u64 (ud o).i, .int .i64 (ud o).s]
theorem entC_length (o : Option Upd) : (entC o).length = 4 := rfl
def entsN (f : Tab) : Nat → List Value
  | 0 => []
  | n + 1 => entsN f n ++ entC (f n)
theorem entsN_length (f : Tab) (n : Nat) : (entsN f n).length = n * 4 := by
  induction n with
  | zero => rfl
  | succ n ih => simp [entsN, ih, entC_length]; omega
theorem entsN_get (f : Tab) (n : Nat) : ∀ j c, j < n → c < 4 → (entsN f n)[j * 4 + c]? = (entC (f j))[c]? := by
  induction n with
  | zero => intro j c h; omega
  | succ n ih =>
    intro j c hj hc
    simp only [entsN]
    by_cases h : j < n
    · rw [List.getElem?_append_left (by rw [entsN_length]; omega)]
      exact ih j c h hc
    · obtain rfl : j = n := by omega
      rw [List.getElem?_append_right (by rw [entsN_length]; omega), entsN_length]
      congr 1; omega
theorem entsN_one (f : Tab) (n : Nat) : ∀ v ∈ entsN f n, v.oneCell' = true := by
  induction n with
  | zero => intro v hv; cases hv
  | succ n ih =>
    intro v hv
    simp only [entsN, List.mem_append] at hv
    rcases hv with hv | hv
    · exact ih v hv
    · simp only [entC, List.mem_cons, List.not_mem_nil, or_false] at hv
      rcases hv with rfl | rfl | rfl | rfl <;> rfl
/-- The entries' cells. -/
def entsC (f : Tab) : List Value := entsN f 64
theorem entsC_length (f : Tab) : (entsC f).length = 256 := entsN_length f 64
theorem entsC_get (f : Tab) {j c : Nat} (hj : j < 64) (hc : c < 4) : (entsC f)[j * 4 + c]? = (entC (f j))[c]? := entsN_get f 64 j c hj hc
theorem entsC_one (f : Tab) : ∀ v ∈ entsC f, v.oneCell' = true := entsN_one f 64
theorem entsC_ext {f g : Tab} (h : ∀ j, j < 64 → f j = g j) : entsC f = entsC g := by
  unfold entsC
  have : ∀ n, n ≤ 64 → entsN f n = entsN g n := by
    intro n
    induction n with
    | zero => intro _; rfl
    | succ n ih => intro hn; simp only [entsN]; rw [ih (by omega), h n (by omega)]
  exact this 64 (Nat.le_refl _)
def rollC (me : Int) (f : Tab) : List Value := .int .i64 me :: entsC f
theorem rollC_length (me : Int) (f : Tab) : (rollC me f).length = 257 := by simp [rollC, entsC_length]
theorem rollC_get (me : Int) (f : Tab) {j c : Nat} (hj : j < 64) (hc : c < 4) : (rollC me f)[1 + (j * 4 + c)]? = (entC (f j))[c]? := by
  rw [rollC, Nat.add_comm, List.getElem?_cons_succ, entsC_get f hj hc]
theorem rollC_set (me : Int) (f : Tab) {j : Nat} (hj : j < 64) (u : Upd) :
    ((((rollC me f).set (1 + (j * 4)) (.bool true)).set (1 + (j * 4 + 1)) (.int .i64 u.n)).set (1 + (j * 4 + 2)) (.int .u64 u.i)).set (1 + (j * 4 + 3)) (.int .i64 u.s) = rollC me (f.set j u) := by
  refine List.ext_getElem? fun m => ?_
  have hl := rollC_length me f
  rcases Nat.eq_zero_or_pos m with rfl | hm
  · rw [List.getElem?_set_ne (by omega), List.getElem?_set_ne (by omega), List.getElem?_set_ne (by omega), List.getElem?_set_ne (by omega)]
    simp only [rollC, List.getElem?_cons_zero]
  · by_cases hm' : m < 257
    · obtain ⟨q, c, rfl, hq, hc⟩ : ∃ q c, m = 1 + (q * 4 + c) ∧ q < 64 ∧ c < 4 := ⟨(m - 1) / 4, (m - 1) % 4, by omega, by omega, by omega⟩
      rw [rollC_get me _ hq hc]
      by_cases hqj : q = j
      · subst hqj
        rw [Tab.set_same]
        have hc' : c = 0 ∨ c = 1 ∨ c = 2 ∨ c = 3 := by omega
        rcases hc' with rfl | rfl | rfl | rfl
        · rw [List.getElem?_set_ne (by omega), List.getElem?_set_ne (by omega), List.getElem?_set_ne (by omega), Nat.add_zero, List.getElem?_set_self (by omega)]; rfl
        · rw [List.getElem?_set_ne (by omega), List.getElem?_set_ne (by omega), List.getElem?_set_self (by simp; omega)]; rfl
        · rw [List.getElem?_set_ne (by omega), List.getElem?_set_self (by simp; omega)]; rfl
        · rw [List.getElem?_set_self (by simp; omega)]; rfl
      · rw [Tab.set_other f u hqj, ← rollC_get me f hq hc]
        rw [List.getElem?_set_ne (by omega), List.getElem?_set_ne (by omega), List.getElem?_set_ne (by omega), List.getElem?_set_ne (by omega)]
    · rw [List.getElem?_eq_none (by simp; omega), List.getElem?_eq_none (by rw [rollC_length]; omega)]

/-- Block p is the roll of me, that knows f. -/
structure Rl (p : Nat) (me : Int) (f : Tab) (w : World) : Prop where
  heap : w.heap[p]? = some (.cells (rollC me f).toArray 53 (0, 0))
section
variable {p : Nat} {me : Int} {f : Tab} {w w' : World}
theorem Rl.cell (h : Rl p me f w) (m : Nat) : w.cell? ⟨p, m, none⟩ = (rollC me f)[m]? := by simp [World.cell?, h.heap]
theorem Rl.cme (h : Rl p me f w) : w.cell? ⟨p, 0, none⟩ = some (.int .i64 me) := by rw [h.cell, rollC, List.getElem?_cons_zero]
theorem Rl.ent (h : Rl p me f w) {j c : Nat} (hj : j < 64) (hc : c < 4) : w.cell? ⟨p, 1 + (j * 4 + c), none⟩ = (entC (f j))[c]? := by rw [h.cell, rollC_get me f hj hc]
theorem Rl.c0 (h : Rl p me f w) {j : Nat} (hj : j < 64) : w.cell? ⟨p, 1 + j * 4, none⟩ = some (.bool (f j).isSome) := h.ent hj (c := 0) (by omega)
theorem Rl.c1 (h : Rl p me f w) {j : Nat} (hj : j < 64) : w.cell? ⟨p, 1 + j * 4 + 1, none⟩ = some (.int .i64 (ud (f j)).n) := h.ent hj (c := 1) (by omega)
theorem Rl.c2 (h : Rl p me f w) {j : Nat} (hj : j < 64) : w.cell? ⟨p, 1 + j * 4 + 2, none⟩ = some (.int .u64 (ud (f j)).i) := h.ent hj (c := 2) (by omega)
theorem Rl.c3 (h : Rl p me f w) {j : Nat} (hj : j < 64) : w.cell? ⟨p, 1 + j * 4 + 3, none⟩ = some (.int .i64 (ud (f j)).s) := h.ent hj (c := 3) (by omega)
theorem Rl.free (h : Rl p me f w) (m : Nat) : w.frozen? ⟨p, m, none⟩ = false := by simp [World.frozen?, h.heap]
theorem Rl.lt (h : Rl p me f w) : p < w.heap.size := (Array.getElem?_eq_some_iff.1 h.heap).1
theorem Rl.keep (h : Rl p me f w) (e : w'.heap[p]? = w.heap[p]?) : Rl p me f w' := ⟨e.trans h.heap⟩
theorem Rl.below (h : Rl p me f w) (b : Below w.heap.size w w') : Rl p me f w' := h.keep (b.block p h.lt)
theorem Rl.drew (h : Rl p me f w) : Rl p me f w.drew := ⟨h.heap⟩
theorem Rl.other (h : Rl p me f w) {q : Addr} (hq : p ≠ q.block) (v : Value) : Rl p me f (w.setCell q v) := h.keep (Below.heap_setCell _ _ _ _ hq)
theorem Rl.put (h : Rl p me f w) {j : Nat} (hj : j < 64) (u : Upd) :
    Rl p me (f.set j u) ((((w.setCell ⟨p, 1 + j * 4, none⟩ (.bool true)).setCell ⟨p, 1 + j * 4 + 1, none⟩ (.int .i64 u.n)).setCell ⟨p, 1 + j * 4 + 2, none⟩ (.int .u64 u.i)).setCell ⟨p, 1 + j * 4 + 3, none⟩ (.int .i64 u.s)) := by
  refine ⟨?_⟩
  rw [← rollC_set me f hj u]
  simp [World.setCell, Array.getElem?_modify, h.heap, Nat.add_assoc]
theorem Rl.range (h : Rl p me f w) : w.rangeAt p 1 (entsC f) := fun j v hv => by
  rw [h.cell, rollC, Nat.add_comm, List.getElem?_cons_succ]; exact hv
theorem Rl.ext (h : Rl p me f w) {g : Tab} (e : ∀ j, j < 64 → f j = g j) : Rl p me g w := ⟨by rw [h.heap, rollC, rollC, entsC_ext e]⟩
end

/-- Below block number B all is as it was, but for block p. -/
structure But (B p : Nat) (w w' : World) : Prop where
  os : w'.os = w.os
  tape : w'.tape = w.tape
  output : w'.output = w.output
  size : w.heap.size ≤ w'.heap.size
  block : ∀ k, k < B → k ≠ p → w'.heap[k]? = w.heap[k]?
theorem But.of {B p : Nat} {w w' : World} (h : Below B w w') : But B p w w' := ⟨h.os, h.tape, h.output, h.size, fun k hk _ => h.block k hk⟩
theorem But.refl (B p : Nat) (w : World) : But B p w w := ⟨rfl, rfl, rfl, Nat.le_refl _, fun _ _ _ => rfl⟩
theorem But.setCell {B p : Nat} {a w : World} (h : But B p a w) {r : Addr} (hr : r.block = p ∨ B ≤ r.block) (u : Value) : But B p a (w.setCell r u) :=
  ⟨h.os, h.tape, h.output, by simpa [World.setCell] using h.size, fun k hk hp => (Below.heap_setCell _ _ _ _ (by omega)).trans (h.block k hk hp)⟩
theorem But.trans {B p : Nat} {a w w' : World} (h : But B p a w) (k : But B p w w') : But B p a w' :=
  ⟨k.os.trans h.os, k.tape.trans h.tape, k.output.trans h.output, Nat.le_trans h.size k.size, fun i hi hp => (k.block i hi hp).trans (h.block i hi hp)⟩
theorem But.mono {B C p : Nat} {w w' : World} (h : But C p w w') (hB : B ≤ C) : But B p w w' := ⟨h.os, h.tape, h.output, h.size, fun i hi hp => h.block i (by omega) hp⟩
theorem But.drew {B p : Nat} {a w : World} (h : But B p a w) : But B p a w.drew := ⟨h.os, h.tape, h.output, h.size, fun i hi hp => h.block i hi hp⟩
/-- Where p is not below B, all below B is as it was. -/
theorem But.to {B p : Nat} {w w' : World} (h : But B p w w') (hp : B ≤ p) : Below B w w' := ⟨h.os, h.tape, h.output, h.size, fun i hi => h.block i hi (by omega)⟩
theorem Below.drew' {B : Nat} {a w : World} (h : Below B a w) : Below B a w.drew := ⟨h.os, h.tape, h.output, h.size, fun i hi => h.block i hi⟩
end Go.Proofs.YtkodeahhckibmaaDoor
