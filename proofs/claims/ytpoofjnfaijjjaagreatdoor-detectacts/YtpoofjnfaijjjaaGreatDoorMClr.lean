/-
  What a roll holds, as a function of the node; its cells; a roll behind a pointer. The roll's leaves: keep, Mine, Get, the two closures. Updates and entries that are compared. Rows of updates: cells; a row that is appended to. list: what is known of the nodes that are wanted. Rows of things of some cells each, that are appended to; what reads as such a row. Cells of a row that are written: one thing put in the place of another one, what is behind cleared.
-/
import Derived.Test.YtpoofjnfaijjjaaGreatDoorMRRfr
import Derived.Test.YtpoofjnfaijjjaaGreatDoorMROpn
import Derived.Deep.MidRow
import Derived.Laws.ResultCell
import Derived.Laws.StructEq
import Derived.Maps.AppendAt
import Derived.OwnWalk
import Derived.KernelRfl
import Derived.Lib.SliceRun
namespace Go.Proofs.YtpoofjnfaijjjaaGreatDoor.Ro
open Go.RowKit
abbrev Tab := Nat → Option Upd
def Tab.set (f : Tab) (k : Nat) (u : Upd) : Tab := fun j => if j = k then some u else f j
theorem Tab.set_same (f : Tab) (k : Nat) (u : Upd) : f.set k u k = some u := by simp [Tab.set]
theorem Tab.set_other (f : Tab) {k j : Nat} (u : Upd) (h : j ≠ k) : f.set k u j = f j := by simp [Tab.set, h]
def ud (o : Option Upd) : Upd := o.getD ⟨0, 0, 0⟩
def entC (o : Option Upd) : List Value := [.bool o.isSome, .int .i64 (ud o).n, .int .u64 (ud o).i, .int .i64 (ud o).s]
theorem entC_length (o : Option Upd) : (entC o).length = 4 := rfl
def entsN (f : Tab) : Nat → List Value
  | 0 => []
  | n + 1 => entsN f n ++ entC (f n)
theorem entsN_length (f : Tab) (n : Nat) : (entsN f n).length = n * 4 := by
  induction n with
  | zero => rfl
  | succ n ih => simp [entsN, ih, entC_length]; omega
theorem entsN_get (f : Tab) (n : Nat) : ∀ j c, j < n → c < 4 → (entsN f n)[j * 4 + c]? = (entC (f j))[c]? := by
  induction n with
  | zero => intro j c h; omega
  | succ n ih =>
    intro j c hj hc
    simp only [entsN]
    by_cases h : j < n
    · rw [List.getElem?_append_left (by rw [entsN_length]; omega)]
      exact ih j c h hc
    · obtain rfl : j = n := by omega
      rw [List.getElem?_append_right (by rw [entsN_length]; omega), entsN_length]
      congr 1; omega
def entsC (f : Tab) : List Value := entsN f 64
theorem entsC_length (f : Tab) : (entsC f).length = 256 := entsN_length f 64
theorem entsC_get (f : Tab) {j c : Nat} (hj : j < 64) (hc : c < 4) : (entsC f)[j * 4 + c]? = (entC (f j))[c]? := entsN_get f 64 j c hj hc
def rollC (me : Int) (f : Tab) : List Value := .int .i64 me :: entsC f
theorem rollC_length (me : Int) (f : Tab) : (rollC me f).length = 257 := by simp [rollC, entsC_length]
theorem rollC_get (me : Int) (f : Tab) {j c : Nat} (hj : j < 64) (hc : c < 4) : (rollC me f)[1 + (j * 4 + c)]? = (entC (f j))[c]? := by
  rw [rollC, Nat.add_comm, List.getElem?_cons_succ, entsC_get f hj hc]
theorem rollC_set (me : Int) (f : Tab) {j : Nat} (hj : j < 64) (u : Upd) :
    ((((rollC me f).set (1 + (j * 4)) (.bool true)).set (1 + (j * 4 + 1)) (.int .i64 u.n)).set (1 + (j * 4 + 2)) (.int .u64 u.i)).set (1 + (j * 4 + 3)) (.int .i64 u.s) = rollC me (f.set j u) := by
  refine List.ext_getElem? fun m => ?_
  have hl := rollC_length me f
  rcases Nat.eq_zero_or_pos m with rfl | hm
  · rw [List.getElem?_set_ne (by omega), List.getElem?_set_ne (by omega), List.getElem?_set_ne (by omega), List.getElem?_set_ne (by omega)]
    simp only [rollC, List.getElem?_cons_zero]
  · by_cases hm' : m < 257
    · obtain ⟨q, c, rfl, hq, hc⟩ : ∃ q c, m = 1 + (q * 4 + c) ∧ q < 64 ∧ c < 4 := ⟨(m - 1) / 4, (m - 1) % 4, by omega, by omega, by omega⟩
      rw [rollC_get me _ hq hc]
      by_cases hqj : q = j
      · subst hqj
        rw [Tab.set_same]
        have hc' : c = 0 ∨ c = 1 ∨ c = 2 ∨ c = 3 := by omega
        rcases hc' with rfl | rfl | rfl | rfl
        · rw [List.getElem?_set_ne (by omega), List.getElem?_set_ne (by omega), List.getElem?_set_ne (by omega), Nat.add_zero, List.getElem?_set_self (by omega)]; rfl
        · rw [List.getElem?_set_ne (by omega), List.getElem?_set_ne (by omega), List.getElem?_set_self (by simp; omega)]; rfl
        · rw [List.getElem?_set_ne (by omega), List.getElem?_set_self (by simp; omega)]; rfl
        · rw [List.getElem?_set_self (by simp; omega)]; rfl
      · rw [Tab.set_other f u hqj, ← rollC_get me f hq hc]
        rw [List.getElem?_set_ne (by omega), List.getElem?_set_ne (by omega), List.getElem?_set_ne (by omega), List.getElem?_set_ne (by omega)]
    · rw [List.getElem?_eq_none (by simp; omega), List.getElem?_eq_none (by rw [rollC_length]; omega)]
structure Rl (p : Nat) (me : Int) (f : Tab) (w : World) : Prop where
  heap : w.heap[p]? = some (.cells (rollC me f).toArray 141 (0, 0))
section
variable {p : Nat} {me : Int} {f : Tab} {w w' : World}
theorem Rl.cell (h : Rl p me f w) (m : Nat) : w.cell? ⟨p, m, none⟩ = (rollC me f)[m]? := by simp [World.cell?, h.heap]
theorem Rl.cme (h : Rl p me f w) : w.cell? ⟨p, 0, none⟩ = some (.int .i64 me) := by rw [h.cell, rollC, List.getElem?_cons_zero]
theorem Rl.ent (h : Rl p me f w) {j c : Nat} (hj : j < 64) (hc : c < 4) : w.cell? ⟨p, 1 + (j * 4 + c), none⟩ = (entC (f j))[c]? := by rw [h.cell, rollC_get me f hj hc]
theorem Rl.c0 (h : Rl p me f w) {j : Nat} (hj : j < 64) : w.cell? ⟨p, 1 + j * 4, none⟩ = some (.bool (f j).isSome) := h.ent hj (c := 0) (by omega)
theorem Rl.c1 (h : Rl p me f w) {j : Nat} (hj : j < 64) : w.cell? ⟨p, 1 + j * 4 + 1, none⟩ = some (.int .i64 (ud (f j)).n) := h.ent hj (c := 1) (by omega)
theorem Rl.c2 (h : Rl p me f w) {j : Nat} (hj : j < 64) : w.cell? ⟨p, 1 + j * 4 + 2, none⟩ = some (.int .u64 (ud (f j)).i) := h.ent hj (c := 2) (by omega)
theorem Rl.c3 (h : Rl p me f w) {j : Nat} (hj : j < 64) : w.cell? ⟨p, 1 + j * 4 + 3, none⟩ = some (.int .i64 (ud (f j)).s) := h.ent hj (c := 3) (by omega)
theorem Rl.free (h : Rl p me f w) (m : Nat) : w.frozen? ⟨p, m, none⟩ = false := by simp [World.frozen?, h.heap]
theorem Rl.lt (h : Rl p me f w) : p < w.heap.size := (Array.getElem?_eq_some_iff.1 h.heap).1
theorem Rl.keep (h : Rl p me f w) (e : w'.heap[p]? = w.heap[p]?) : Rl p me f w' := ⟨e.trans h.heap⟩
theorem Rl.below (h : Rl p me f w) (b : Below w.heap.size w w') : Rl p me f w' := h.keep (b.block p h.lt)
theorem Rl.drew (h : Rl p me f w) : Rl p me f w.drew := ⟨h.heap⟩
theorem Rl.put (h : Rl p me f w) {j : Nat} (hj : j < 64) (u : Upd) :
    Rl p me (f.set j u) ((((w.setCell ⟨p, 1 + j * 4, none⟩ (.bool true)).setCell ⟨p, 1 + j * 4 + 1, none⟩ (.int .i64 u.n)).setCell ⟨p, 1 + j * 4 + 2, none⟩ (.int .u64 u.i)).setCell ⟨p, 1 + j * 4 + 3, none⟩ (.int .i64 u.s)) := by
  refine ⟨?_⟩
  rw [← rollC_set me f hj u]
  simp [World.setCell, Array.getElem?_modify, h.heap, Nat.add_assoc]
theorem Rl.range (h : Rl p me f w) : w.rangeAt p 1 (entsC f) := fun j v hv => by
  rw [h.cell, rollC, Nat.add_comm, List.getElem?_cons_succ]; exact hv
end
structure But (B p : Nat) (w w' : World) : Prop where
  os : w'.os = w.os
  tape : w'.tape = w.tape
  output : w'.output = w.output
  size : w.heap.size ≤ w'.heap.size
  block : ∀ k, k < B → k ≠ p → w'.heap[k]? = w.heap[k]?
theorem But.of {B p : Nat} {w w' : World} (h : Below B w w') : But B p w w' := ⟨h.os, h.tape, h.output, h.size, fun k hk _ => h.block k hk⟩
theorem But.setCell {B p : Nat} {a w : World} (h : But B p a w) {r : Addr} (hr : r.block = p ∨ B ≤ r.block) (u : Value) : But B p a (w.setCell r u) :=
  ⟨h.os, h.tape, h.output, by simpa [World.setCell] using h.size, fun k hk hp => (Below.heap_setCell _ _ _ _ (by omega)).trans (h.block k hk hp)⟩
theorem But.trans {B p : Nat} {a w w' : World} (h : But B p a w) (k : But B p w w') : But B p a w' :=
  ⟨k.os.trans h.os, k.tape.trans h.tape, k.output.trans h.output, Nat.le_trans h.size k.size, fun i hi hp => (k.block i hi hp).trans (h.block i hi hp)⟩
theorem But.mono {B C p : Nat} {w w' : World} (h : But C p w w') (hB : B ≤ C) : But B p w w' := ⟨h.os, h.tape, h.output, h.size, fun i hi hp => h.block i (by omega) hp⟩
theorem But.drew {B p : Nat} {a w : World} (h : But B p a w) : But B p a w.drew := ⟨h.os, h.tape, h.output, h.size, fun i hi hp => h.block i hi hp⟩
theorem But.to {B p : Nat} {w w' : World} (h : But B p w w') (hp : B ≤ p) : Below B w w' := ⟨h.os, h.tape, h.output, h.size, fun i hi => h.block i hi (by omega)⟩
theorem Below.drew' {B : Nat} {a w : World} (h : Below B a w) : Below B a w.drew := ⟨h.os, h.tape, h.output, h.size, fun i hi => h.block i hi⟩
theorem But.set4 {B p : Nat} {a w : World} (h : But B p a w) (i j k l : Nat) (x y z v : Value) : But B p a ((((w.setCell ⟨p, i, none⟩ x).setCell ⟨p, j, none⟩ y).setCell ⟨p, k, none⟩ z).setCell ⟨p, l, none⟩ v) :=
  (((h.setCell (r := ⟨p, i, none⟩) (Or.inl rfl) _).setCell (r := ⟨p, j, none⟩) (Or.inl rfl) _).setCell (r := ⟨p, k, none⟩) (Or.inl rfl) _).setCell (r := ⟨p, l, none⟩) (Or.inl rfl) _
set_option maxHeartbeats 1000000 in
theorem keep_any (p : Nat) (me : Int) (f : Tab) (j : Nat) (u : Upd) (hn : u.n = j) (hj : j < 64) (w : World) (hR : Rl p me f w) :
    Calls Tryz.prog 68 #[.pointer (some ⟨p, 0, none⟩), .agg #[.int .i64 u.n, .int .u64 u.i, .int .i64 u.s]] w fun e w' => e = .returned (.tuple #[]) ∧ Rl p me (f.set j u) w' ∧ But w.heap.size p w w' := by
  have hB := Bx.new 39 u.n u.i u.s w
  have hb0 : Below w.heap.size w (w.alloc (.cells #[.int .i64 u.n, .int .u64 u.i, .int .i64 u.s] 39)) := (Below.refl _ _).alloc (Nat.le_refl _) _
  have hR1 := hR.below hb0
  have k0 : (0 : Int) ≤ j := by omega
  have k1 : (j : Int) < 64 := by omega
  obtain ⟨n, i, s⟩ := u
  obtain rfl : n = j := hn
  have x0 := hR1.c0 hj
  have x1 := hR1.c1 hj
  have x2 := hR1.c2 hj
  have x3 := hR1.c3 hj
  have y0 := hR1.free (1 + j * 4)
  have y1 := hR1.free (1 + j * 4 + 1)
  have y2 := hR1.free (1 + j * 4 + 2)
  have y3 := hR1.free (1 + j * 4 + 3)
  go_enter Tryz.func68, Tryz.ntmps68
  go_wp2_with fail
  go_region
  go_wp2_with fail
  go_end0
  exact ⟨rfl, (hR1.put hj ⟨j, i, s⟩).drew, But.drew (But.set4 (But.of hb0) _ _ _ _ _ _ _ _)⟩
section
variable {T : TypeId} {g : Nat} {n i s : Int} {w w' : World}
theorem Bx.free (h : Bx T g n i s w) (j : Nat) : w.frozen? ⟨g, j, none⟩ = false := by simp [World.frozen?, h.heap]
theorem Bx.drew (h : Bx T g n i s w) : Bx T g n i s w.drew := ⟨h.heap⟩
theorem Bx.set (h : Bx T g n i s w) (n' i' s' : Int) : Bx T g n' i' s' (((w.setCell ⟨g, 0, none⟩ (.int .i64 n')).setCell ⟨g, 1, none⟩ (.int .u64 i')).setCell ⟨g, 2, none⟩ (.int .i64 s')) :=
  ⟨by simp [World.setCell, Array.getElem?_modify, h.heap]⟩
end
theorem below_set3 {B g : Nat} {a w : World} (h : Below B a w) (hg : B ≤ g) (x y z : Value) : Below B a (((w.setCell ⟨g, 0, none⟩ x).setCell ⟨g, 1, none⟩ y).setCell ⟨g, 2, none⟩ z) :=
  ((h.setCell (p := ⟨g, 0, none⟩) hg _).setCell (p := ⟨g, 1, none⟩) hg _).setCell (p := ⟨g, 2, none⟩) hg _
theorem results_cell {fn : Func} {p : Tmp} {ty : TypeId} (h : fn.results = #[.cell p ty]) (tmps : Array Value) (P : Program) (w : World) :
    (results fn tmps).run P w = ((asAddr (tmps.getD p undef)).run P w).andThen fun a w₁ => (loadVar ty a).run P w₁ := by
  simp only [results, h]
  simp [Sem.run_bind, Result.andThen]
set_option maxHeartbeats 1000000 in
theorem mine_any (p k : Nat) (f : Tab) (hk : k < 64) (w : World) (hR : Rl p k f w) :
    Calls Tryz.prog 33 #[.pointer (some ⟨p, 0, none⟩)] w fun e w' => e = .returned (.agg #[.int .i64 (ud (f k)).n, .int .u64 (ud (f k)).i, .int .i64 (ud (f k)).s]) ∧ Below w.heap.size w w' := by
  have hB := Bx.new 39 0 0 0 w
  have hb0 : Below w.heap.size w (w.alloc (.cells #[.int .i64 0, .int .u64 0, .int .i64 0] 39)) := (Below.refl _ _).alloc (Nat.le_refl _) _
  have hR1 := hR.below hb0
  have k0 : (0 : Int) ≤ k := by omega
  have k1 : (k : Int) < 64 := by omega
  have x := hR1.cme
  have x1 := hR1.c1 hk
  have x2 := hR1.c2 hk
  have x3 := hR1.c3 hk
  have y0 := hB.free 0
  have y1 := hB.free 1
  have y2 := hB.free 2
  have hend := (Bx.new 39 (ud (f k)).n (ud (f k)).i (ud (f k)).s w).drew
  have hbl : Below w.heap.size w (w.alloc (.cells #[.int .i64 (ud (f k)).n, .int .u64 (ud (f k)).i, .int .i64 (ud (f k)).s] 39)).drew := Below.drew' ((Below.refl _ _).alloc (Nat.le_refl _) _)
  generalize ud (f k) = u at *
  go_enter Tryz.func33, Tryz.ntmps33
  go_wp2_with fail
  go_region
  generalize World.drew _ = w7 at *
  clear x x1 x2 x3 y0 y1 y2 hB hb0 hR1
  have r0 := hend.c0
  have r1 := hend.c1
  have r2 := hend.c2
  go_wp2_with fail
  refine bodyPost_ret (v := .agg #[.int .i64 u.n, .int .u64 u.i, .int .i64 u.s]) ?_ rfl ⟨rfl, hbl⟩
  rw [results_cell rfl]
  go_simp
def getS (f : Tab) (n : Int) : Option Upd := if 0 ≤ n ∧ n < 64 then f n.toNat else none
set_option maxHeartbeats 1000000 in
theorem get_any (p : Nat) (me n : Int) (f : Tab) (w : World) (hR : Rl p me f w) :
    Calls Tryz.prog 102 #[.pointer (some ⟨p, 0, none⟩), .int .i64 n] w fun e w' => e = .returned (.tuple #[.agg #[.int .i64 (ud (getS f n)).n, .int .u64 (ud (getS f n)).i, .int .i64 (ud (getS f n)).s], .bool (getS f n).isSome]) ∧ Below w.heap.size w w' := by
  have hB := Bx.new 39 0 0 0 w
  have hb0 : Below w.heap.size w (w.alloc (.cells #[.int .i64 0, .int .u64 0, .int .i64 0] 39)) := (Below.refl _ _).alloc (Nat.le_refl _) _
  have hR1 := hR.below hb0
  have y0 := hB.free 0
  have y1 := hB.free 1
  have y2 := hB.free 2
  by_cases h0 : n < 0 ∨ 64 ≤ n
  · have e : getS f n = none := by unfold getS; rw [if_neg (by omega)]
    rw [e]
    by_cases h1 : n < 0
    · go_enter Tryz.func102, Tryz.ntmps102
      go_wp2_with fail
      refine bodyPost_ret (v := .tuple #[.agg #[.int .i64 0, .int .u64 0, .int .i64 0], .bool false]) ?_ rfl ⟨rfl, hb0⟩
      rw [results_cell_tmp rfl]
      go_simp
    · have h2 : 64 ≤ n := by omega
      go_enter Tryz.func102, Tryz.ntmps102
      go_wp2_with fail
      refine bodyPost_ret (v := .tuple #[.agg #[.int .i64 0, .int .u64 0, .int .i64 0], .bool false]) ?_ rfl ⟨rfl, hb0⟩
      rw [results_cell_tmp rfl]
      go_simp
  · have h1 : 0 ≤ n := by omega
    have h2 : n < 64 := by omega
    obtain ⟨j, rfl⟩ : ∃ j : Nat, n = j := ⟨n.toNat, by omega⟩
    have hj : j < 64 := by omega
    have e : getS f j = f j := by unfold getS; rw [if_pos ⟨h1, h2⟩]; rfl
    rw [e]
    clear e h0
    have x0 := hR1.c0 hj
    have x1 := hR1.c1 hj
    have x2 := hR1.c2 hj
    have x3 := hR1.c3 hj
    generalize ud (f j) = u at *
    generalize (f j).isSome = b at *
    go_enter Tryz.func102, Tryz.ntmps102
    go_wp2_with fail
    go_region
    have hend : Bx 39 w.heap.size u.n u.i u.s ((w.alloc (.cells #[.int .i64 u.n, .int .u64 u.i, .int .i64 u.s] 39)).alloc (.cells #[.bool b, .int .i64 u.n, .int .u64 u.i, .int .i64 u.s] 138)).drew :=
      (Bx.below (Bx.new 39 u.n u.i u.s w) ((Below.refl _ _).alloc (Nat.le_refl _) _)).drew
    have hbl : Below w.heap.size w ((w.alloc (.cells #[.int .i64 u.n, .int .u64 u.i, .int .i64 u.s] 39)).alloc (.cells #[.bool b, .int .i64 u.n, .int .u64 u.i, .int .i64 u.s] 138)).drew :=
      Below.drew' (((Below.refl _ _).alloc (Nat.le_refl _) _).alloc (by simp) _)
    generalize World.drew _ = w7 at *
    clear x0 x1 x2 x3 y0 y1 y2 hB hb0 hR1
    have r0 := hend.c0
    have r1 := hend.c1
    have r2 := hend.c2
    go_wp2_with fail
    refine bodyPost_ret (v := .tuple #[.agg #[.int .i64 u.n, .int .u64 u.i, .int .i64 u.s], .bool b]) ?_ rfl ⟨rfl, hbl⟩
    rw [results_cell_tmp rfl]
    go_simp
structure Pt (b p : Nat) (w : World) : Prop where
  heap : w.heap[b]? = some (.cells #[.pointer (some ⟨p, 0, none⟩)] 80 (0, 0))
section
variable {b p : Nat} {w w' : World}
theorem Pt.c (h : Pt b p w) : w.cell? ⟨b, 0, none⟩ = some (.pointer (some ⟨p, 0, none⟩)) := by simp [World.cell?, h.heap]
theorem Pt.lt (h : Pt b p w) : b < w.heap.size := (Array.getElem?_eq_some_iff.1 h.heap).1
theorem Pt.keep (h : Pt b p w) (e : w'.heap[b]? = w.heap[b]?) : Pt b p w' := ⟨e.trans h.heap⟩
theorem Pt.below (h : Pt b p w) (k : Below w.heap.size w w') : Pt b p w' := h.keep (k.block b h.lt)
theorem Pt.new (p : Nat) (w : World) : Pt w.heap.size p (w.alloc (.cells #[.pointer (some ⟨p, 0, none⟩)] 80)) := ⟨heap_alloc_new w _⟩
end
section
variable {q : Nat} {g : Tab} {w w' : World}
end
set_option maxHeartbeats 1000000 in
theorem known_any (b p : Nat) (me : Int) (f : Tab) (j : Nat) (hj : j < 64) (w : World) (hP : Pt b p w) (hR : Rl p me f w) :
    Calls Tryz.prog 113 #[.int .i64 j, .pointer (some ⟨b, 0, none⟩)] w fun e w' => e = .returned (.bool (f j).isSome) ∧ w' = w := by
  have k0 : (0 : Int) ≤ j := by omega
  have k1 : (j : Int) < 64 := by omega
  have x := hP.c
  have x0 := hR.c0 hj
  generalize (f j).isSome = c at *
  go_enter Tryz.func113, Tryz.ntmps113
  go_wp2_with fail
  go_ret
  exact ⟨rfl, rfl⟩
theorem below_drewN (B : Nat) (w : World) (n : Nat) : Below B w (w.drewN n) := ⟨rfl, rfl, rfl, Nat.le_refl _, fun _ _ => rfl⟩
def eqU (u v : Upd) : Bool := (u.n == v.n) && ((u.i == v.i) && (u.s == v.s))
theorem run_eqU_in (d : Nat) (u v : Upd) (w : World) : (Op.equalIn (d + 1 + 1) 39 (.agg #[.int .i64 u.n, .int .u64 u.i, .int .i64 u.s]) (.agg #[.int .i64 v.n, .int .u64 v.i, .int .i64 v.s])).run Tryz.prog w = .ok (eqU u v) w := by
  rw [run_equalIn_struct w (d + 1) 39 _ _ (by kernel_rfl) (by kernel_rfl)]
  unfold eqU
  cases h1 : (u.n == v.n) <;> cases h2 : (u.i == v.i) <;> cases h3 : (u.s == v.s) <;> simp [Program.fieldsOf, go_sem, h1, h2, h3]
theorem run_eqlU (u v : Upd) (w : World) : (binOp .eql 39 (.agg #[.int .i64 u.n, .int .u64 u.i, .int .i64 u.s]) (.agg #[.int .i64 v.n, .int .u64 v.i, .int .i64 v.s])).run Tryz.prog w = .ok (.bool (eqU u v)) w := by
  have h := run_eqU_in 9998 u v w
  simp [binOp, Op.equal, Op.maxDepth, h]
theorem run_neqU (u v : Upd) (w : World) : (binOp .neq 39 (.agg #[.int .i64 u.n, .int .u64 u.i, .int .i64 u.s]) (.agg #[.int .i64 v.n, .int .u64 v.i, .int .i64 v.s])).run Tryz.prog w = .ok (.bool (!eqU u v)) w := by
  have h := run_eqU_in 9998 u v w
  simp [binOp, Op.equal, Op.maxDepth, h]
theorem Ru.keep {v : Value} {l : List Upd} {w w' : World} (h : Ru v l w) (hw : ∀ g, v.ownBlock = some g → g < w.heap.size → w'.heap[g]? = w.heap[g]?) : Ru v l w' := by
  obtain ⟨a, cap, rfl, h1, h2, h3⟩ := h
  refine ⟨a, cap, rfl, h1, h2, ?_⟩
  rcases h3 with h3 | ⟨g, off, rfl, h3⟩
  · exact Or.inl h3
  · refine Or.inr ⟨g, off, rfl, fun j hj => ?_⟩
    obtain ⟨c0, c1, c2⟩ := h3 j hj
    have hlt : g < w.heap.size := World.block_lt_of_cell? _ _ c0
    have e := hw g rfl hlt
    exact ⟨(World.cell?_of_block (w := w) e).trans c0, (World.cell?_of_block (w := w) e).trans c1, (World.cell?_of_block (w := w) e).trans c2⟩
theorem Ru.below {v : Value} {l : List Upd} {w w' : World} (h : Ru v l w) (hb : Below w.heap.size w w') : Ru v l w' := h.keep fun g _ hg => hb.block g hg
def Upd.cs (u : Upd) : List Value := [.int .i64 u.n, .int .u64 u.i, .int .i64 u.s]
def flat : List Upd → List Value
  | [] => []
  | u :: r => u.cs ++ flat r
theorem flat_length (l : List Upd) : (flat l).length = l.length * 3 := by
  induction l with
  | nil => rfl
  | cons u r ih => simp [flat, Upd.cs, ih]; omega
theorem flat_append (l r : List Upd) : flat (l ++ r) = flat l ++ flat r := by
  induction l with
  | nil => rfl
  | cons u l ih => simp [flat, ih]
theorem flat_cell (l : List Upd) : ∀ v ∈ flat l, v.oneCell' = true := by
  induction l with
  | nil => intro v hv; cases hv
  | cons u r ih =>
    intro v hv
    simp only [flat, Upd.cs, List.cons_append, List.nil_append, List.mem_cons] at hv
    rcases hv with rfl | rfl | rfl | hv
    · rfl
    · rfl
    · rfl
    · exact ih v hv
theorem flat_get (l : List Upd) : ∀ j (h : j < l.length), (flat l)[j * 3]? = some (.int .i64 l[j].n) ∧ (flat l)[j * 3 + 1]? = some (.int .u64 l[j].i) ∧ (flat l)[j * 3 + 2]? = some (.int .i64 l[j].s) := by
  induction l with
  | nil => intro j h; cases h
  | cons u r ih =>
    intro j h
    cases j with
    | zero => exact ⟨rfl, rfl, rfl⟩
    | succ j =>
      have h' : j < r.length := by simpa using h
      obtain ⟨a, b, c⟩ := ih j h'
      refine ⟨?_, ?_, ?_⟩
      · rw [show (j + 1) * 3 = j * 3 + 3 from by omega]; exact a
      · rw [show (j + 1) * 3 + 1 = j * 3 + 1 + 3 from by omega]; exact b
      · rw [show (j + 1) * 3 + 2 = j * 3 + 2 + 3 from by omega]; exact c
theorem add_off (g off j : Nat) : (⟨g, off, none⟩ : Addr).add j = ⟨g, off + j, none⟩ := by unfold Addr.add; split <;> simp_all
theorem Ru.cells {g off : Nat} {cap : Nat} {l : List Upd} {w : World} (h : Ru (.slice (some ⟨g, off, none⟩) l.length cap) l w) : ∀ j u, (flat l)[j]? = some u → w.cell? ((⟨g, off, none⟩ : Addr).add j) = some u := by
  intro j u hu
  obtain ⟨_, _, e, _, _, h3⟩ := h
  cases e
  have hj : j < l.length * 3 := by
    rw [← flat_length]
    exact (List.getElem?_eq_some_iff.1 hu).1
  have hq : j / 3 < l.length := by omega
  rcases h3 with h3 | ⟨g', off', e, h3⟩
  · omega
  · cases e
    obtain ⟨a, b, c⟩ := h3 (j / 3) hq
    obtain ⟨a', b', c'⟩ := flat_get l (j / 3) hq
    rw [add_off]
    have hr : j % 3 = 0 ∨ j % 3 = 1 ∨ j % 3 = 2 := by omega
    rcases hr with hr | hr | hr
    · have e : j = j / 3 * 3 := by omega
      rw [← e] at a a'
      rw [hu] at a'
      rw [a, ← a']
    · have e : j = j / 3 * 3 + 1 := by omega
      rw [← e] at b'
      rw [hu] at b'
      rw [Nat.add_assoc, ← e] at b
      rw [b, ← b']
    · have e : j = j / 3 * 3 + 2 := by omega
      rw [← e] at c'
      rw [hu] at c'
      rw [Nat.add_assoc, ← e] at c
      rw [c, ← c']
def Own (B : Nat) (v : Value) (l : List Upd) (w : World) : Prop := w.ownsRow B 39 3 v l.length (flat l)
theorem Own.ru {B : Nat} {v : Value} {l : List Upd} {w : World} (h : Own B v l w) : Ru v l w := by
  rcases h.2 with ⟨rfl, h0⟩ | ⟨g, cap, cur, rfl, hb, hg, h1, h2, h3, h4⟩
  · exact ⟨none, 0, by rw [h0], by omega, by unfold maxLen; omega, Or.inl h0⟩
  · refine ⟨_, cap, rfl, h1, h2, Or.inr ⟨g, 0, rfl, fun j hj => ?_⟩⟩
    obtain ⟨a, b, c⟩ := flat_get l j hj
    have k := World.ownsRow.cells h (g := g) rfl
    have a := k _ _ a
    have b := k _ _ b
    have c := k _ _ c
    rw [add_off] at a b c
    rw [Nat.add_assoc, Nat.add_assoc]
    exact ⟨a, b, c⟩
theorem Own.keep {B : Nat} {v : Value} {l : List Upd} {w w' : World} (h : Own B v l w) (e : ∀ g, v.ownBlock = some g → g < w.heap.size → w'.heap[g]? = w.heap[g]?) : Own B v l w' := by
  refine ⟨h.1, ?_⟩
  rcases h.2 with hn | ⟨g, cap, cur, rfl, hb, hg, rest⟩
  · exact Or.inl hn
  · exact Or.inr ⟨g, cap, cur, rfl, hb, (e g rfl (Array.getElem?_eq_some_iff.1 hg).1).trans hg, rest⟩
theorem Own.below {B : Nat} {v : Value} {l : List Upd} {w w' : World} (h : Own B v l w) (b : Below w.heap.size w w') : Own B v l w' := h.keep fun g _ hg => b.block g hg
theorem Own.lt {B : Nat} {v : Value} {l : List Upd} {w : World} (h : Own B v l w) : ∀ g, v.ownBlock = some g → B ≤ g ∧ g < w.heap.size := World.ownsRow.lt h
theorem Own.empty {B g : Nat} {w : World} (h : w.heap[g]? = some (.cells #[] 39 (0, 0))) (hB : B ≤ g) : Own B (.slice (some ⟨g, 0, none⟩) 0 0) [] w :=
  ⟨rfl, Or.inr ⟨g, 0, #[], rfl, hB, h, Nat.le_refl _, Nat.zero_le _, rfl, rfl⟩⟩
theorem Own.nil (B : Nat) (w : World) : Own B (.slice none 0 0) [] w := ⟨rfl, Or.inl ⟨rfl, rfl⟩⟩
theorem Ru.one {T : TypeId} {g : Nat} {u : Upd} {w : World} (h : Bx T g u.n u.i u.s w) : Ru (.slice (some ⟨g, 0, none⟩) 1 1) [u] w :=
  ⟨_, 1, rfl, Nat.le_refl _, by unfold maxLen; omega, Or.inr ⟨g, 0, rfl, fun j hj => by
    have : j = 0 := by simpa using hj
    subst this
    exact ⟨h.c0, h.c1, h.c2⟩⟩⟩
theorem infoU : (Tryz.prog.info? 39).map (fun i => (i.zero, i.size, i.bytes)) = some (some (.agg #[.int .i64 0, .int .u64 0, .int .i64 0]), 3, 24) := by kernel_rfl
theorem wp_app {o : Oper} {a : Act} {K : Act → World → Prop} {Q : Exit → Act → World → Prop} (w : World) (s x : Operand)
    (ho : o.op = .call { callee := .builtin .append, args := #[s, x], argTypes := #[35, 35] }) (B : Nat) (v : Value) (l : List Upd) (hs : a.eval s = v) (hown : Own B v l w) (hB : B ≤ w.heap.size)
    (g off c : Nat) (r : List Upd) (m : Nat) (hm : m = r.length) (hx : a.eval x = .slice (some ⟨g, off, none⟩) m c) (hu : Ru (.slice (some ⟨g, off, none⟩) m c) r w) (hl : l.length + r.length ≤ 1000000)
    (h : ∀ v' w', Own B v' (l ++ r) w' → w.grownBy w' v.ownBlock → (v'.ownBlock = v.ownBlock ∨ v'.ownBlock = some w.heap.size) → K (a.put o.dst v') w') : o.wp Tryz.prog a w K Q := by
  obtain ⟨i0, hi, hz0, hz1, hz2⟩ := info_parts infoU
  subst hm
  obtain ⟨v', w', hr, h2, h3, _, h5⟩ := run_append_own_at (P := Tryz.prog) w B 35 o.type 39 i0 _ 3 24 Tryz.underlying35 hi hz0 hz1 hz2 rfl (by decide) v l.length (flat l) hown ⟨g, off, none⟩ r.length c (flat r) (flat_length r) hu.cells (flat_cell r) (by unfold maxLen; omega) (by omega) hB
  unfold Oper.wp execOp
  simp only [ho, resolve, invoke, builtin, Sem.run_bind, Sem.run_pure, Result.andThen_ok, List.map_toArray, List.map_cons, List.map_nil, hs, hx, hr]
  refine h v' w' ?_ h3 h5
  unfold Own
  rw [flat_append, List.length_append]
  exact h2
theorem wpList_app {ops : Array Oper} {rest : List Oper} {o : Oper} {a : Act} {Q : Exit → Act → World → Prop} (w : World) (hgd : o.guard = none) (s x : Operand)
    (ho : o.op = .call { callee := .builtin .append, args := #[s, x], argTypes := #[35, 35] }) (B : Nat) (v : Value) (l : List Upd) (hs : a.eval s = v) (hown : Own B v l w) (hB : B ≤ w.heap.size)
    (g off c : Nat) (r : List Upd) (m : Nat) (hm : m = r.length) (hx : a.eval x = .slice (some ⟨g, off, none⟩) m c) (hu : Ru (.slice (some ⟨g, off, none⟩) m c) r w) (hl : l.length + r.length ≤ 1000000)
    (h : ∀ v' w', Own B v' (l ++ r) w' → w.grownBy w' v.ownBlock → (v'.ownBlock = v.ownBlock ∨ v'.ownBlock = some w.heap.size) → wpList Tryz.prog ops Q rest (a.put o.dst v') w') : wpList Tryz.prog ops Q (o :: rest) a w :=
  wpList_plain hgd fun _ hK => wp_app w s x ho B v l hs hown hB g off c r m hm hx hu hl fun v' w' h2 h3 h4 => hK _ _ (h v' w' h2 h3 h4)
theorem step_app {ops : Array Oper} {o : Oper} {a : Act} {K : Act → World → Prop} {Q : Exit → Act → World → Prop} {E : Prop} (w : World) (hgd : o.guard = none) (s x : Operand)
    (ho : o.op = .call { callee := .builtin .append, args := #[s, x], argTypes := #[35, 35] }) (B : Nat) (v : Value) (l : List Upd) (hs : a.eval s = v) (hown : Own B v l w) (hB : B ≤ w.heap.size)
    (g off c : Nat) (r : List Upd) (m : Nat) (hm : m = r.length) (hx : a.eval x = .slice (some ⟨g, off, none⟩) m c) (hu : Ru (.slice (some ⟨g, off, none⟩) m c) r w) (hl : l.length + r.length ≤ 1000000)
    (h : ∀ v' w', Own B v' (l ++ r) w' → w.grownBy w' v.ownBlock → (v'.ownBlock = v.ownBlock ∨ v'.ownBlock = some w.heap.size) → K (a.put o.dst v') w') :
    if Region.wanted o (yielded ops a.tmps) = true then Oper.wp Tryz.prog o a w K Q else E := by
  have hw : Region.wanted o (yielded ops a.tmps) = true := by simp [Region.wanted, hgd]
  rw [if_pos hw]
  exact wp_app w s x ho B v l hs hown hB g off c r m hm hx hu hl h
theorem Tryz.sizeEs : (Tryz.prog.info? 139).map (·.size) = some 256 := by kernel_rfl
theorem below_alloc (w : World) (o : Obj) : Below w.heap.size w (w.alloc o) := (Below.refl _ _).alloc (Nat.le_refl _) _
theorem part4 (f : Tab) {j : Nat} (hj : j < 64) : (entsC f).toArray.extract (j * 4) (j * 4 + 4) = #[.bool (f j).isSome, .int .i64 (ud (f j)).n, .int .u64 (ud (f j)).i, .int .i64 (ud (f j)).s] := by
  refine Array.ext_getElem? fun c => ?_
  simp only [Array.getElem?_extract, List.getElem?_toArray, List.size_toArray, entsC_length]
  by_cases hc : c < 4
  · rw [if_pos (by omega), entsC_get f hj hc]
    simp [entC]
  · rw [if_neg (by omega)]
    rw [List.getElem?_eq_none (by simp; omega)]
theorem run_index_ents (f : Tab) {j : Nat} (hj : j < 64) (w : World) : (Instr.index 139 (.agg (entsC f).toArray) (.int .i64 j)).run Tryz.prog w = .ok (.agg #[.bool (f j).isSome, .int .i64 (ud (f j)).n, .int .u64 (ud (f j)).i, .int .i64 (ud (f j)).s]) w := by
  have h0 : (0 : Int) ≤ j ∧ (j : Int) < 64 := by omega
  have h1 := part4 f hj
  have h2 : (entsC f).toArray.size = 256 := by simp [entsC_length]
  generalize (entsC f).toArray = A at *
  simp [Instr.index, go_sem, h0, hj, h1]
def pickN (f : Tab) (b : Nat → Bool) : Nat → List Upd
  | 0 => []
  | n + 1 => pickN f b n ++ if b n then [ud (f n)] else []
theorem pickN_length (f : Tab) (b : Nat → Bool) (n : Nat) : (pickN f b n).length ≤ n := by
  induction n with
  | zero => exact Nat.le_refl _
  | succ n ih => simp only [pickN, List.length_append]; split <;> simp <;> omega
set_option maxRecDepth 100000 in
set_option maxHeartbeats 1000000 in
theorem list_any (p : Nat) (me : Int) (f : Tab) (F : FuncId) (caps : Array Value) (b : Nat → Bool) (w : World) (hR : Rl p me f w) (hF : ∀ args w', (callFunc F args).run Tryz.prog w' = .ok (.enter F args) w')
    (hcl : ∀ (j : Nat) (w' : World), j < 64 → Below w.heap.size w w' → Calls Tryz.prog F (#[.int .i64 j] ++ caps) w' fun e w'' => e = .returned (.bool (b j)) ∧ Below w'.heap.size w' w'') :
    Calls Tryz.prog 112 #[.pointer (some ⟨p, 0, none⟩), .func (.func F) #[] caps] w fun e w' => (∃ v, e = .returned v ∧ Own w.heap.size v (pickN f b 64) w') ∧ Below w.heap.size w w' := by
  have hix := fun {j : Nat} (hj : j < 64) (w' : World) => run_index_ents f hj w'
  go_enter Tryz.func112, Tryz.ntmps112
  go_wp2_with fail
  refine wp_load_mid 139 (.tmp 10) rfl p 1 rfl (entsC f) _ hR.range Tryz.underlying139 rfl (by rw [Tryz.sizeEs, entsC_length]) ?_
  generalize (entsC f).toArray = A at *
  go_wp2_with fail
  go_loopg [5, 12] 64 (fun gk t5 t12 wr => ∃ k : Nat, k + gk = 64 ∧ t12 = .int .i64 k ∧ Own w.heap.size t5 (pickN f b k) wr ∧ Below w.heap.size w wr)
  case atStart => exact ⟨0, by omega, rfl, Own.nil _ _, Below.refl _ _⟩
  case round =>
    obtain ⟨k, hk, rfl, hO, hB⟩ := hrel
    by_cases hlt : (k : Int) < 64
    · have hk' : k < 64 := by omega
      have k0 : (0 : Int) ≤ k := by omega
      have hix' := hix hk'
      clear hix
      have hE : ∀ z, b k = z → Hid (pickN f b (k + 1) = pickN f b k ++ (if z then [ud (f k)] else [])) := fun z e => by subst e; rfl
      have hl := pickN_length f b k
      generalize pickN f b k = M at *
      generalize (f k).isSome = c at *
      generalize ud (f k) = u at *
      have ba := below_alloc wr (.cells #[.bool c, .int .i64 u.n, .int .u64 u.i, .int .i64 u.s] 138)
      have hB1 := hB.trans (ba.mono hB.size)
      have hO1 := hO.below ba
      have hb := hcl k _ hk' hB1
      clear hcl
      have hX : ∃ w1, w1 = wr.alloc (.cells #[.bool c, .int .i64 u.n, .int .u64 u.i, .int .i64 u.s] 138) ∧ w1.heap[wr.heap.size]? = some (.cells #[.bool c, .int .i64 u.n, .int .u64 u.i, .int .i64 u.s] 138 (0, 0)) := ⟨_, rfl, heap_alloc_new _ _⟩
      cases hbk : b k
      case false =>
        have hE := hE _ hbk
        rw [hbk] at hb
        go_wp2_with fail
        refine hb.mono ?_
        rintro e w2 ⟨rfl, hb2⟩
        have hB2 := hB1.trans (hb2.mono hB1.size)
        have hO2 := hO1.below hb2
        go_wp2_with fail
        go_roundg (gk - 1)
        case rel => exact ⟨k + 1, by omega, by go_num, by rw [hE.out]; simpa using hO2, hB2⟩
        case measure => omega
      case true =>
        have hE := hE _ hbk
        rw [hbk] at hb
        obtain ⟨w1, e1, hX⟩ := hX
        rw [← e1] at hb hB1 hO1 ba
        go_wp2_with fail
        rw [← e1]
        refine hb.mono ?_
        rintro e w2 ⟨rfl, hb2⟩
        have hB2 := hB1.trans (hb2.mono hB1.size)
        have hO2 := hO1.below hb2
        have hlt1 : wr.heap.size < w1.heap.size := (Array.getElem?_eq_some_iff.1 hX).1
        have hX2 : w2.heap[wr.heap.size]? = some (.cells #[.bool c, .int .i64 u.n, .int .u64 u.i, .int .i64 u.s] 138 (0, 0)) := (hb2.block _ hlt1).trans hX
        have x1 : w2.cell? ⟨wr.heap.size, 1, none⟩ = some (.int .i64 u.n) := by simp [World.cell?, hX2]
        have x2 : w2.cell? ⟨wr.heap.size, 2, none⟩ = some (.int .u64 u.i) := by simp [World.cell?, hX2]
        have x3 : w2.cell? ⟨wr.heap.size, 3, none⟩ = some (.int .i64 u.s) := by simp [World.cell?, hX2]
        have bc := below_alloc w2 (.cells #[.int .i64 u.n, .int .u64 u.i, .int .i64 u.s] 39)
        have hB3 := hB2.trans (bc.mono hB2.size)
        have hO3 := hO2.below bc
        have hY := Bx.new 39 u.n u.i u.s w2
        have hU := Ru.one (u := u) hY
        have hz3 := hB3.size
        clear hb hb2 hX hX2 e1 ba hB1 hO1 hB2 hO2 bc hY hO hB
        go_wp2_with (at_builtin; refine wpList_app _ rfl (.tmp 19) (.tmp 22) rfl w.heap.size _ M rfl hO3 hz3 w2.heap.size 0 1 [u] 1 rfl rfl hU (by simp; omega) ?_; intro v' w' h1 h3 h4)
        have hB4 : Below w.heap.size w w' := hB3.trans ⟨h3.os, h3.tape, h3.output, h3.size, fun q hq => h3.block q (by omega) (fun e => by have := (hO3.lt q e.symm).1; omega)⟩
        clear h3 h4 hU hO3 hB3
        go_roundg (gk - 1)
        case rel => exact ⟨k + 1, by omega, by go_num, by rw [hE.out]; simpa using h1, hB4⟩
        case measure => omega
    · obtain rfl : k = 64 := by omega
      go_wp2_with fail
      go_ret
      exact ⟨⟨_, rfl, hO⟩, hB⟩
end Go.Proofs.YtpoofjnfaijjjaaGreatDoor.Ro
namespace Go.Proofs.YtpoofjnfaijjjaaGreatDoor
open Go.RowKit
structure Enc (α : Type) where
  sz : Nat
  enc : α → List Value
  len : ∀ x, (enc x).length = sz
  one : ∀ x, ∀ v ∈ enc x, v.oneCell' = true
  pos : 0 < sz
section
variable {α : Type} (E : Enc α)
def Enc.flat : List α → List Value
  | [] => []
  | x :: r => E.enc x ++ Enc.flat r
theorem Enc.flat_length (l : List α) : (E.flat l).length = l.length * E.sz := by
  induction l with
  | nil => simp [Enc.flat]
  | cons u r ih => simp [Enc.flat, ih, E.len, Nat.succ_mul]; omega
theorem Enc.flat_append (l r : List α) : E.flat (l ++ r) = E.flat l ++ E.flat r := by
  induction l with
  | nil => rfl
  | cons u l ih => simp [Enc.flat, ih]
theorem Enc.flat_cell (l : List α) : ∀ v ∈ E.flat l, v.oneCell' = true := by
  induction l with
  | nil => intro v hv; cases hv
  | cons u r ih =>
    intro v hv
    rcases List.mem_append.1 hv with hv | hv
    · exact E.one u v hv
    · exact ih v hv
theorem Enc.flat_get (l : List α) : ∀ j c (h : j < l.length), c < E.sz → (E.flat l)[j * E.sz + c]? = (E.enc l[j])[c]? := by
  induction l with
  | nil => intro j c h; cases h
  | cons u r ih =>
    intro j c h hc
    cases j with
    | zero =>
      rw [Nat.zero_mul, Nat.zero_add, Enc.flat, List.getElem?_append_left (by rw [E.len]; exact hc)]
      rfl
    | succ j =>
      have h' : j < r.length := by simpa using h
      rw [Enc.flat, List.getElem?_append_right (by rw [E.len, Nat.succ_mul]; omega), E.len]
      rw [show (j + 1) * E.sz + c - E.sz = j * E.sz + c from by rw [Nat.succ_mul]; omega]
      exact ih j c h' hc
theorem Enc.flat_take (l : List α) : ∀ n, (E.flat l).take (n * E.sz) = E.flat (l.take n) := by
  induction l with
  | nil => intro n; simp [Enc.flat]
  | cons u r ih =>
    intro n
    cases n with
    | zero => simp [Enc.flat]
    | succ n =>
      rw [List.take_succ_cons, Enc.flat, Enc.flat, List.take_append, E.len, Nat.succ_mul, List.take_of_length_le (by rw [E.len]; omega)]
      rw [show n * E.sz + E.sz - E.sz = n * E.sz from by omega, ih]
end
def RdE {α : Type} (E : Enc α) (v : Value) (l : List α) (w : World) : Prop :=
  ∃ a cap, v = .slice a l.length cap ∧ l.length ≤ cap ∧ cap ≤ maxLen ∧ (l.length = 0 ∨ ∃ g off, a = some ⟨g, off, none⟩ ∧ ∀ j c (hj : j < l.length), c < E.sz → w.cell? ⟨g, off + (j * E.sz + c), none⟩ = (E.enc l[j])[c]?)
def OwE {α : Type} (E : Enc α) (T : TypeId) (B : Nat) (v : Value) (l : List α) (w : World) : Prop := w.ownsRow B T E.sz v l.length (E.flat l)
section
variable {α : Type} {E : Enc α} {T : TypeId} {B : Nat} {v : Value} {l : List α} {w w' : World}
theorem RdE.keep (h : RdE E v l w) (hw : ∀ g, v.ownBlock = some g → g < w.heap.size → w'.heap[g]? = w.heap[g]?) : RdE E v l w' := by
  obtain ⟨a, cap, rfl, h1, h2, h3⟩ := h
  refine ⟨a, cap, rfl, h1, h2, ?_⟩
  rcases h3 with h3 | ⟨g, off, rfl, h3⟩
  · exact Or.inl h3
  · refine Or.inr ⟨g, off, rfl, fun j c hj hc => ?_⟩
    have c0 := h3 j c hj hc
    have hlt : g < w.heap.size := by
      obtain ⟨x, hx⟩ : ∃ x, (E.enc l[j])[c]? = some x := ⟨_, List.getElem?_eq_getElem (by rw [E.len l[j]]; exact hc)⟩
      rw [hx] at c0
      exact World.block_lt_of_cell? _ _ c0
    exact (World.cell?_of_block (w := w) (hw g rfl hlt)).trans c0
theorem RdE.below (h : RdE E v l w) (hb : Below w.heap.size w w') : RdE E v l w' := h.keep fun g _ hg => hb.block g hg
theorem OwE.keep (h : OwE E T B v l w) (e : ∀ g, v.ownBlock = some g → g < w.heap.size → w'.heap[g]? = w.heap[g]?) : OwE E T B v l w' := by
  refine ⟨h.1, ?_⟩
  rcases h.2 with hn | ⟨g, cap, cur, rfl, hb, hg, rest⟩
  · exact Or.inl hn
  · exact Or.inr ⟨g, cap, cur, rfl, hb, (e g rfl (Array.getElem?_eq_some_iff.1 hg).1).trans hg, rest⟩
theorem OwE.below (h : OwE E T B v l w) (b : Below w.heap.size w w') : OwE E T B v l w' := h.keep fun g _ hg => b.block g hg
theorem OwE.lt (h : OwE E T B v l w) : ∀ g, v.ownBlock = some g → B ≤ g ∧ g < w.heap.size := World.ownsRow.lt h
theorem OwE.nil (E : Enc α) (T : TypeId) (B : Nat) (w : World) : OwE E T B (.slice none 0 0) [] w := ⟨by simp [Enc.flat], Or.inl ⟨rfl, rfl⟩⟩
theorem OwE.mono {C : Nat} (h : OwE E T C v l w) (hB : B ≤ C) : OwE E T B v l w := by
  refine ⟨h.1, ?_⟩
  rcases h.2 with hn | ⟨g, cap, cur, rfl, hb, rest⟩
  · exact Or.inl hn
  · exact Or.inr ⟨g, cap, cur, rfl, Nat.le_trans hB hb, rest⟩
theorem OwE.len (h : OwE E T B v l w) : ∃ a cap, v = .slice a l.length cap ∧ l.length ≤ cap ∧ cap ≤ maxLen := by
  rcases h.2 with ⟨rfl, h0⟩ | ⟨g, cap, cur, rfl, hb, hg, h1, h2, _⟩
  · exact ⟨none, 0, by rw [h0], by omega, Nat.zero_le _⟩
  · exact ⟨_, cap, rfl, h1, h2⟩
theorem OwE.rd (h : OwE E T B v l w) : RdE E v l w := by
  rcases h.2 with ⟨rfl, h0⟩ | ⟨g, cap, cur, rfl, hb, hg, h1, h2, h3, h4⟩
  · exact ⟨none, 0, by rw [h0], by omega, Nat.zero_le _, Or.inl h0⟩
  · refine ⟨_, cap, rfl, h1, h2, Or.inr ⟨g, 0, rfl, fun j c hj hc => ?_⟩⟩
    have hx := E.flat_get l j c hj hc
    obtain ⟨x, hx'⟩ : ∃ x, (E.enc l[j])[c]? = some x := ⟨_, List.getElem?_eq_getElem (by rw [E.len l[j]]; exact hc)⟩
    rw [hx'] at hx ⊢
    have k := World.ownsRow.cells h (g := g) rfl _ _ hx
    rw [Ro.add_off] at k
    exact k
theorem RdE.cells {g off : Nat} {cap : Nat} (h : RdE E (.slice (some ⟨g, off, none⟩) l.length cap) l w) : ∀ j u, (E.flat l)[j]? = some u → w.cell? ((⟨g, off, none⟩ : Addr).add j) = some u := by
  intro j u hu
  obtain ⟨_, _, e, _, _, h3⟩ := h
  cases e
  have hj : j < l.length * E.sz := by
    rw [← E.flat_length]
    exact (List.getElem?_eq_some_iff.1 hu).1
  have hq : j / E.sz < l.length := (Nat.div_lt_iff_lt_mul E.pos).2 hj
  rcases h3 with h3 | ⟨g', off', e, h3⟩
  · rw [h3] at hq; cases hq
  · cases e
    have hc := Nat.mod_lt j E.pos
    have k := h3 (j / E.sz) (j % E.sz) hq hc
    have f := E.flat_get l (j / E.sz) (j % E.sz) hq hc
    have e : j / E.sz * E.sz + j % E.sz = j := by rw [Nat.mul_comm]; exact Nat.div_add_mod j E.sz
    rw [e] at k f
    rw [Ro.add_off, k, ← f, hu]
theorem wp_appE {o : Oper} {a : Act} {K : Act → World → Prop} {Q : Exit → Act → World → Prop} {ST : TypeId} {z : Value} {bytes : Nat} (hST : Tryz.prog.underlying ST = some (.slice T)) (hinfo : (Tryz.prog.info? T).map (fun i => (i.zero, i.size, i.bytes)) = some (some z, E.sz, bytes)) (hz : z.cells.size = E.sz) (hby : bytes ≤ 1000) (w : World) (s x : Operand)
    (ho : o.op = .call { callee := .builtin .append, args := #[s, x], argTypes := #[ST, ST] }) (B : Nat) (v : Value) (l : List α) (hs : a.eval s = v) (hown : OwE E T B v l w) (hB : B ≤ w.heap.size)
    (g off c : Nat) (r : List α) (m : Nat) (hm : m = r.length) (hx : a.eval x = .slice (some ⟨g, off, none⟩) m c) (hu : RdE E (.slice (some ⟨g, off, none⟩) m c) r w) (hl : l.length + r.length ≤ 1000000)
    (h : ∀ v' w', OwE E T B v' (l ++ r) w' → w.grownBy w' v.ownBlock → (v'.ownBlock = v.ownBlock ∨ v'.ownBlock = some w.heap.size) → K (a.put o.dst v') w') : o.wp Tryz.prog a w K Q := by
  obtain ⟨i0, hi, hz0, hz1, hz2⟩ := info_parts hinfo
  subst hm
  obtain ⟨v', w', hr, h2, h3, _, h5⟩ := run_append_own_at (P := Tryz.prog) w B ST o.type T i0 z E.sz bytes hST hi hz0 hz1 hz2 hz E.pos v l.length (E.flat l) hown ⟨g, off, none⟩ r.length c (E.flat r) (E.flat_length r) hu.cells (E.flat_cell r) (by unfold maxLen; omega) (Nat.le_trans (Nat.mul_le_mul hl hby) (by decide)) hB
  unfold Oper.wp execOp
  simp only [ho, resolve, invoke, builtin, Sem.run_bind, Sem.run_pure, Result.andThen_ok, List.map_toArray, List.map_cons, List.map_nil, hs, hx, hr]
  refine h v' w' ?_ h3 h5
  unfold OwE
  rw [E.flat_append, List.length_append]
  exact h2
theorem wpList_appE {ops : Array Oper} {rest : List Oper} {o : Oper} {a : Act} {Q : Exit → Act → World → Prop} {ST : TypeId} {z : Value} {bytes : Nat} (hST : Tryz.prog.underlying ST = some (.slice T)) (hinfo : (Tryz.prog.info? T).map (fun i => (i.zero, i.size, i.bytes)) = some (some z, E.sz, bytes)) (hz : z.cells.size = E.sz) (hby : bytes ≤ 1000) (w : World) (hgd : o.guard = none) (s x : Operand)
    (ho : o.op = .call { callee := .builtin .append, args := #[s, x], argTypes := #[ST, ST] }) (B : Nat) (v : Value) (l : List α) (hs : a.eval s = v) (hown : OwE E T B v l w) (hB : B ≤ w.heap.size)
    (g off c : Nat) (r : List α) (m : Nat) (hm : m = r.length) (hx : a.eval x = .slice (some ⟨g, off, none⟩) m c) (hu : RdE E (.slice (some ⟨g, off, none⟩) m c) r w) (hl : l.length + r.length ≤ 1000000)
    (h : ∀ v' w', OwE E T B v' (l ++ r) w' → w.grownBy w' v.ownBlock → (v'.ownBlock = v.ownBlock ∨ v'.ownBlock = some w.heap.size) → wpList Tryz.prog ops Q rest (a.put o.dst v') w') : wpList Tryz.prog ops Q (o :: rest) a w :=
  wpList_plain hgd fun _ hK => wp_appE hST hinfo hz hby w s x ho B v l hs hown hB g off c r m hm hx hu hl fun v' w' h2 h3 h4 => hK _ _ (h v' w' h2 h3 h4)
theorem step_appE {ops : Array Oper} {o : Oper} {a : Act} {K : Act → World → Prop} {Q : Exit → Act → World → Prop} {F : Prop} {ST : TypeId} {z : Value} {bytes : Nat} (hST : Tryz.prog.underlying ST = some (.slice T)) (hinfo : (Tryz.prog.info? T).map (fun i => (i.zero, i.size, i.bytes)) = some (some z, E.sz, bytes)) (hz : z.cells.size = E.sz) (hby : bytes ≤ 1000) (w : World) (hgd : o.guard = none) (s x : Operand)
    (ho : o.op = .call { callee := .builtin .append, args := #[s, x], argTypes := #[ST, ST] }) (B : Nat) (v : Value) (l : List α) (hs : a.eval s = v) (hown : OwE E T B v l w) (hB : B ≤ w.heap.size)
    (g off c : Nat) (r : List α) (m : Nat) (hm : m = r.length) (hx : a.eval x = .slice (some ⟨g, off, none⟩) m c) (hu : RdE E (.slice (some ⟨g, off, none⟩) m c) r w) (hl : l.length + r.length ≤ 1000000)
    (h : ∀ v' w', OwE E T B v' (l ++ r) w' → w.grownBy w' v.ownBlock → (v'.ownBlock = v.ownBlock ∨ v'.ownBlock = some w.heap.size) → K (a.put o.dst v') w') :
    if Region.wanted o (yielded ops a.tmps) = true then Oper.wp Tryz.prog o a w K Q else F := by
  have hw : Region.wanted o (yielded ops a.tmps) = true := by simp [Region.wanted, hgd]
  rw [if_pos hw]
  exact wp_appE hST hinfo hz hby w s x ho B v l hs hown hB g off c r m hm hx hu hl h
end
structure DelG {α : Type} (b : α → Bool) (s r : List α) (i j : Nat) : Prop where
  len : r.length = s.length
  lt : i < j
  le : j ≤ s.length
  done : r.take i = (s.take j).filter (fun x => !b x)
  rest : r.drop j = s.drop j
section
variable {α : Type} {b : α → Bool} {s r : List α}
theorem DelG.start {n : Nat} (h : n < s.length) (hb : b s[n] = true) (hx : ∀ x ∈ s.take n, b x = false) : DelG b s s n (n + 1) := by
  refine ⟨rfl, Nat.lt_succ_self _, h, ?_, rfl⟩
  rw [List.take_add_one, List.getElem?_eq_getElem h, List.filter_append, List.filter_eq_self.2 (fun x hm => by rw [hx x hm]; rfl)]
  simp [hb]
theorem DelG.at {i j : Nat} (h : DelG b s r i j) (hj : j < s.length) : r[j]'(by rw [h.len]; exact hj) = s[j] := by
  have := congrArg (fun l => l[0]?) h.rest
  simp only [List.getElem?_drop, Nat.add_zero] at this
  rw [List.getElem?_eq_getElem hj, List.getElem?_eq_getElem (by rw [h.len]; exact hj)] at this
  exact Option.some.inj this
theorem DelG.skip {i j : Nat} (h : DelG b s r i j) (hj : j < s.length) (hb : b s[j] = true) : DelG b s r i (j + 1) := by
  refine ⟨h.len, by have := h.lt; omega, hj, ?_, ?_⟩
  · rw [h.done, List.take_add_one, List.getElem?_eq_getElem hj, List.filter_append]
    simp [hb]
  · have := congrArg (List.drop 1) h.rest
    simpa [List.drop_drop, Nat.add_comm] using this
theorem DelG.put {i j : Nat} (h : DelG b s r i j) (hj : j < s.length) (hb : b s[j] = false) : DelG b s (r.set i s[j]) (i + 1) (j + 1) := by
  have h1 := h.lt
  have hl := h.len
  refine ⟨by rw [List.length_set]; exact hl, by omega, hj, ?_, ?_⟩
  · rw [List.take_add_one (l := s), List.getElem?_eq_getElem hj, List.filter_append, ← h.done, List.take_add_one, List.take_set_of_le (Nat.le_refl _)]
    rw [List.getElem?_eq_getElem (by rw [List.length_set]; omega)]
    simp [hb]
  · have := congrArg (List.drop 1) h.rest
    rw [List.drop_set_of_lt (by omega)]
    simpa [List.drop_drop, Nat.add_comm] using this
end
theorem heap_setCells (b : Nat) (e : TypeId) (fz : Nat × Nat) : ∀ (vs : List Value) (o : Nat) (w : World) (cur : Array Value), w.heap[b]? = some (.cells cur e fz) →
    ∃ cur', (w.setCells b o vs).heap[b]? = some (.cells cur' e fz) ∧ cur'.size = cur.size ∧ ∀ m, cur'[m]? = if o ≤ m ∧ m < o + vs.length ∧ m < cur.size then vs[m - o]? else cur[m]?
  | [], o, w, cur, h => ⟨cur, h, rfl, fun m => by rw [if_neg (by simp; omega)]⟩
  | v :: r, o, w, cur, h => by
    have h1 : (w.setCell ⟨b, o, none⟩ v).heap[b]? = some (.cells (cur.setIfInBounds o v) e fz) := by simp [World.setCell, Array.getElem?_modify, h]
    obtain ⟨cur', h2, h3, h4⟩ := heap_setCells b e fz r (o + 1) _ _ h1
    refine ⟨cur', h2, by rw [h3, Array.size_setIfInBounds], fun m => ?_⟩
    rw [h4 m, Array.size_setIfInBounds, Array.getElem?_setIfInBounds]
    by_cases e1 : m = o
    · subst e1
      rw [if_neg (by omega), if_pos rfl]
      by_cases e2 : m < cur.size
      · rw [if_pos e2, if_pos ⟨Nat.le_refl _, by simp, e2⟩, Nat.sub_self]; rfl
      · rw [if_neg e2, if_neg (by omega)]
        exact (Array.getElem?_eq_none (by omega)).symm
    · rw [if_neg (Ne.symm e1)]
      by_cases e2 : o + 1 ≤ m ∧ m < o + 1 + r.length ∧ m < cur.size
      · rw [if_pos e2, if_pos ⟨by omega, by simp; omega, e2.2.2⟩]
        rw [show m - o = (m - (o + 1)) + 1 from by omega, List.getElem?_cons_succ]
      · rw [if_neg e2, if_neg (by simp; omega)]
theorem but_setCells {B b : Nat} {a : World} : ∀ (vs : List Value) (o : Nat) (w : World), Ro.But B b a w → Ro.But B b a (w.setCells b o vs)
  | [], _, _, h => h
  | v :: r, o, w, h => by
    rw [World.setCells]
    exact but_setCells r (o + 1) _ (Ro.But.setCell h (r := ⟨b, o, none⟩) (Or.inl rfl) v)
section
variable {α : Type} {E : Enc α} {T : TypeId} {B : Nat} {l : List α} {w : World} {g cap : Nat}
theorem OwE.block {n : Nat} {v : Value} (h : OwE E T B v l w) (hv : v = .slice (some ⟨g, 0, none⟩) n cap) : ∃ cur, w.heap[g]? = some (.cells cur T (0, 0)) ∧ n = l.length ∧ l.length ≤ cap ∧ cap ≤ maxLen ∧ B ≤ g ∧ cur.size = cap * E.sz ∧ cur.toList.take (l.length * E.sz) = E.flat l := by
  rcases h.2 with ⟨e, _⟩ | ⟨g', cap', cur, e, hb, hg, h1, h2, h3, h4⟩
  · rw [hv] at e; cases e
  · rw [hv] at e; cases e
    exact ⟨cur, hg, rfl, h1, h2, hb, h3, h4⟩
theorem OwE.free {n : Nat} {v : Value} (h : OwE E T B v l w) (hv : v = .slice (some ⟨g, 0, none⟩) n cap) (j : Nat) : w.frozen? ⟨g, j, none⟩ = false := by
  obtain ⟨cur, hg, _⟩ := h.block hv
  simp [World.frozen?, hg]
theorem OwE.some_ {n : Nat} {v : Value} (h : OwE E T B v l w) (hv : v = .slice (some ⟨g, 0, none⟩) n cap) (j : Nat) (hj : j < cap * E.sz) : (w.cell? ⟨g, j, none⟩).isSome = true := by
  obtain ⟨cur, hg, _, _, _, _, h3, _⟩ := h.block hv
  simp [World.cell?, hg, h3, hj]
theorem OwE.set {v : Value} (h : OwE E T B v l w) (hv : v = .slice (some ⟨g, 0, none⟩) l.length cap) (i : Nat) (hi : i < l.length) (x : α) : OwE E T B v (l.set i x) (w.setCells g (i * E.sz) (E.enc x)) := by
  obtain ⟨cur, hg, _, h1, h2, hb, h3, h4⟩ := h.block hv
  obtain ⟨cur', hg', hs, hc⟩ := heap_setCells g T (0, 0) (E.enc x) (i * E.sz) w cur hg
  refine ⟨by rw [E.flat_length], Or.inr ⟨g, cap, cur', by rw [List.length_set, hv], hb, hg', by rw [List.length_set]; exact h1, h2, by rw [hs, h3], ?_⟩⟩
  rw [List.length_set]
  apply List.ext_getElem?
  intro m
  have hp := E.pos
  by_cases hm : m < l.length * E.sz
  · have hq : m / E.sz < l.length := (Nat.div_lt_iff_lt_mul hp).2 hm
    have hr := Nat.mod_lt m hp
    have e : m / E.sz * E.sz + m % E.sz = m := by rw [Nat.mul_comm]; exact Nat.div_add_mod m E.sz
    have hcs : m < cur.size := by rw [h3]; exact Nat.lt_of_lt_of_le hm (Nat.mul_le_mul_right _ h1)
    have hf := E.flat_get (l.set i x) (m / E.sz) (m % E.sz) (by rw [List.length_set]; exact hq) hr
    rw [e] at hf
    have hf0 := E.flat_get l (m / E.sz) (m % E.sz) hq hr
    rw [e, ← h4, List.getElem?_take, if_pos hm, Array.getElem?_toList] at hf0
    rw [hf, List.getElem?_take, if_pos hm, Array.getElem?_toList, hc, E.len]
    by_cases ei : m / E.sz = i
    · subst ei
      rw [if_pos ⟨by omega, by omega, hcs⟩, List.getElem_set_self]
      congr 1
      omega
    · rw [if_neg ?_, List.getElem_set_ne (Ne.symm ei), hf0]
      rintro ⟨a, b, _⟩
      apply ei
      have h5 : i ≤ m / E.sz := (Nat.le_div_iff_mul_le hp).2 a
      have h6 : m / E.sz < i + 1 := (Nat.div_lt_iff_lt_mul hp).2 (by rw [Nat.succ_mul]; exact b)
      omega
  · rw [List.getElem?_take, if_neg hm, List.getElem?_eq_none (by rw [E.flat_length, List.length_set]; omega)]
theorem OwE.cut {v : Value} (h : OwE E T B v l w) (hv : v = .slice (some ⟨g, 0, none⟩) l.length cap) (i : Nat) (hi : i ≤ l.length) (o : Nat) (ho : i * E.sz ≤ o) (vs : List Value) : OwE E T B (.slice (some ⟨g, 0, none⟩) i cap) (l.take i) (w.setCells g o vs) := by
  obtain ⟨cur, hg, _, h1, h2, hb, h3, h4⟩ := h.block hv
  obtain ⟨cur', hg', hs, hc⟩ := heap_setCells g T (0, 0) vs o w cur hg
  have hl : (l.take i).length = i := by rw [List.length_take]; omega
  refine ⟨by rw [E.flat_length], Or.inr ⟨g, cap, cur', by rw [hl], hb, hg', by omega, h2, by rw [hs, h3], ?_⟩⟩
  rw [hl, ← E.flat_take, ← h4, List.take_take, Nat.min_eq_left (Nat.mul_le_mul_right _ hi)]
  apply List.ext_getElem?
  intro m
  rw [List.getElem?_take, List.getElem?_take]
  by_cases hm : m < i * E.sz
  · rw [if_pos hm, if_pos hm, Array.getElem?_toList, Array.getElem?_toList, hc, if_neg (by omega)]
  · rw [if_neg hm, if_neg hm]
theorem OwE.take {v : Value} (h : OwE E T B v l w) (hv : v = .slice (some ⟨g, 0, none⟩) l.length cap) (i : Nat) (hi : i ≤ l.length) : OwE E T B (.slice (some ⟨g, 0, none⟩) i cap) (l.take i) w := h.cut hv i hi _ (Nat.le_refl _) []
end
theorem run_clear_rows {P : Program} (w : World) (t e ty : TypeId) (z : Value) (ht : P.underlying t = some (.slice e)) (hv : ∀ w, (zeroValue e).run P w = .ok z w) (h1 : ∀ v ∈ z.cells.toList, v.oneCell' = true) (b o n c : Nat) (hn : 0 < n)
    (hc : ∀ j, j < n * z.cells.size → (w.cell? ⟨b, o + j, none⟩).isSome = true) (hf : ∀ j, j < n * z.cells.size → w.frozen? ⟨b, o + j, none⟩ = false) :
    (Builtin.clear_ #[t] ty #[.slice (some ⟨b, o, none⟩) n c]).run P w = .ok (.tuple #[]) (w.setCells b o (Builtin.zeroCells z.cells n).toList) := by
  have hlen : (Builtin.zeroCells z.cells n).toList.length = n * z.cells.size := by simp [Builtin.zeroCells]
  have hst := run_storeCells_cells (P := P) b o (Builtin.zeroCells z.cells n).toList 0 w (by rw [hlen]; simpa using hc) (by rw [hlen]; simpa using hf) (by
    intro v hv'
    simp only [Builtin.zeroCells, Array.toList_map, List.mem_map, Array.toList_range, List.mem_range] at hv'
    obtain ⟨i, hi, rfl⟩ := hv'
    have hp : 0 < z.cells.size := by
      rcases Nat.eq_zero_or_pos z.cells.size with e | e
      · rw [e, Nat.mul_zero] at hi; cases hi
      · exact e
    have hm := Nat.mod_lt i hp
    rw [getElem!_pos z.cells (i % z.cells.size) hm]
    exact h1 _ (by simp))
  simp only [Nat.add_zero] at hst
  obtain ⟨m, rfl⟩ : ∃ m, n = m + 1 := ⟨n - 1, by omega⟩
  simp [Builtin.clear_, run_underlying ht, hv, hst]
end Go.Proofs.YtpoofjnfaijjjaaGreatDoor
