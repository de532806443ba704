/-
  What a roll holds, as a function of the node; its cells; a roll behind a pointer. The roll's leaves: keep, Mine, Get, the two closures. Updates and entries that are compared.
-/
import Derived.Test.YtpoofjnfaijjjaaGreatDoorMRRfu
import Derived.Test.YtpoofjnfaijjjaaGreatDoorMROpn
import Derived.Deep.MidRow
import Derived.Laws.ResultCell
import Derived.Laws.StructEq
namespace Go.Proofs.YtpoofjnfaijjjaaGreatDoor.Ro
open Go.RowKit

/-- What is known of each node. -/
abbrev Tab := Nat → Option Upd
def Tab.set (f : Tab) (k : Nat) (u : Upd) : Tab := fun j => if j = k then some u else f j
theorem Tab.set_same (f : Tab) (k : Nat) (u : Upd) : f.set k u k = some u := by simp [Tab.set]
theorem Tab.set_other (f : Tab) {k j : Nat} (u : Upd) (h : j ≠ k) : f.set k u j = f j := by simp [Tab.set, h]
def ud (o : Option Upd) : Upd := o.getD ⟨0, 0, 0⟩

def entC (o : Option Upd) : List Value := [.bool o.isSome, .int .i64 (ud o).n, .int .u64 (ud o).i, .int .i64 (ud o).s]
theorem entC_length (o : Option Upd) : (entC o).length = 4 := rfl
def entsN (f : Tab) : Nat → List Value
  | 0 => []
  | n + 1 => entsN f n ++ entC (f n)
theorem entsN_length (f : Tab) (n : Nat) : (entsN f n).length = n * 4 := by
  induction n with
  | zero => rfl
  | succ n ih => simp [entsN, ih, entC_length]; omega
theorem entsN_get (f : Tab) (n : Nat) : ∀ j c, j < n → c < 4 → (entsN f n)[j * 4 + c]? = (entC (f j))[c]? := by
  induction n with
  | zero => intro j c h; omega
  | succ n ih =>
    intro j c hj hc
    simp only [entsN]
    by_cases h : j < n
    · rw [List.getElem?_append_left (by rw [entsN_length]; omega)]
      exact ih j c h hc
    · obtain rfl : j = n := by omega
      rw [List.getElem?_append_right (by rw [entsN_length]; omega), entsN_length]
      congr 1; omega
theorem entsN_one (f : Tab) (n : Nat) : ∀ v ∈ entsN f n, v.oneCell' = true := by
  induction n with
  | zero => intro v hv; cases hv
  | succ n ih =>
    intro v hv
    simp only [entsN, List.mem_append] at hv
    rcases hv with hv | hv
    · exact ih v hv
    · simp only [entC, List.mem_cons, List.not_mem_nil, or_false] at hv
      rcases hv with rfl | rfl | rfl | rfl <;> rfl
/-- The entries' cells. -/
def entsC (f : Tab) : List Value := entsN f 64
theorem entsC_length (f : Tab) : (entsC f).length = 256 := entsN_length f 64
theorem entsC_get (f : Tab) {j c : Nat} (hj : j < 64) (hc : c < 4) : (entsC f)[j * 4 + c]? = (entC (f j))[c]? := entsN_get f 64 j c hj hc
theorem entsC_one (f : Tab) : ∀ v ∈ entsC f, v.oneCell' = true := entsN_one f 64
theorem entsC_ext {f g : Tab} (h : ∀ j, j < 64 → f j = g j) : entsC f = entsC g := by
  unfold entsC
  have : ∀ n, n ≤ 64 → entsN f n = entsN g n := by
    intro n
    induction n with
    | zero => intro _; rfl
    | succ n ih => intro hn; simp only [entsN]; rw [ih (by omega), h n (by omega)]
  exact this 64 (Nat.le_refl _)
def rollC (me : Int) (f : Tab) : List Value := .int .i64 me :: entsC f
theorem rollC_length (me : Int) (f : Tab) : (rollC me f).length = 257 := by simp [rollC, entsC_length]
theorem rollC_get (me : Int) (f : Tab) {j c : Nat} (hj : j < 64) (hc : c < 4) : (rollC me f)[1 + (j * 4 + c)]? = (entC (f j))[c]? := by
  rw [rollC, Nat.add_comm, List.getElem?_cons_succ, entsC_get f hj hc]
theorem rollC_set (me : Int) (f : Tab) {j : Nat} (hj : j < 64) (u : Upd) :
    ((((rollC me f).set (1 + (j * 4)) (.bool true)).set (1 + (j * 4 + 1)) (.int .i64 u.n)).set (1 + (j * 4 + 2)) (.int .u64 u.i)).set (1 + (j * 4 + 3)) (.int .i64 u.s) = rollC me (f.set j u) := by
  refine List.ext_getElem? fun m => ?_
  have hl := rollC_length me f
  rcases Nat.eq_zero_or_pos m with rfl | hm
  · rw [List.getElem?_set_ne (by omega), List.getElem?_set_ne (by omega), List.getElem?_set_ne (by omega), List.getElem?_set_ne (by omega)]
    simp only [rollC, List.getElem?_cons_zero]
  · by_cases hm' : m < 257
    · obtain ⟨q, c, rfl, hq, hc⟩ : ∃ q c, m = 1 + (q * 4 + c) ∧ q < 64 ∧ c < 4 := ⟨(m - 1) / 4, (m - 1) % 4, by omega, by omega, by omega⟩
      rw [rollC_get me _ hq hc]
      by_cases hqj : q = j
      · subst hqj
        rw [Tab.set_same]
        have hc' : c = 0 ∨ c = 1 ∨ c = 2 ∨ c = 3 := by omega
        rcases hc' with rfl | rfl | rfl | rfl
        · rw [List.getElem?_set_ne (by omega), List.getElem?_set_ne (by omega), List.getElem?_set_ne (by omega), Nat.add_zero, List.getElem?_set_self (by omega)]; rfl
        · rw [List.getElem?_set_ne (by omega), List.getElem?_set_ne (by omega), List.getElem?_set_self (by simp; omega)]; rfl
        · rw [List.getElem?_set_ne (by omega), List.getElem?_set_self (by simp; omega)]; rfl
        · rw [List.getElem?_set_self (by simp; omega)]; rfl
      · rw [Tab.set_other f u hqj, ← rollC_get me f hq hc]
        rw [List.getElem?_set_ne (by omega), List.getElem?_set_ne (by omega), List.getElem?_set_ne (by omega), List.getElem?_set_ne (by omega)]
    · rw [List.getElem?_eq_none (by simp; omega), List.getElem?_eq_none (by rw [rollC_length]; omega)]

/-- Block p is the roll of me, that knows f. -/
structure Rl (p : Nat) (me : Int) (f : Tab) (w : World) : Prop where
  heap : w.heap[p]? = some (.cells (rollC me f).toArray 141 (0, 0))
section
variable {p : Nat} {me : Int} {f : Tab} {w w' : World}
theorem Rl.cell (h : Rl p me f w) (m : Nat) : w.cell? ⟨p, m, none⟩ = (rollC me f)[m]? := by simp [World.cell?, h.heap]
theorem Rl.cme (h : Rl p me f w) : w.cell? ⟨p, 0, none⟩ = some (.int .i64 me) := by rw [h.cell, rollC, List.getElem?_cons_zero]
theorem Rl.ent (h : Rl p me f w) {j c : Nat} (hj : j < 64) (hc : c < 4) : w.cell? ⟨p, 1 + (j * 4 + c), none⟩ = (entC (f j))[c]? := by rw [h.cell, rollC_get me f hj hc]
theorem Rl.c0 (h : Rl p me f w) {j : Nat} (hj : j < 64) : w.cell? ⟨p, 1 + j * 4, none⟩ = some (.bool (f j).isSome) := h.ent hj (c := 0) (by omega)
theorem Rl.c1 (h : Rl p me f w) {j : Nat} (hj : j < 64) : w.cell? ⟨p, 1 + j * 4 + 1, none⟩ = some (.int .i64 (ud (f j)).n) := h.ent hj (c := 1) (by omega)
theorem Rl.c2 (h : Rl p me f w) {j : Nat} (hj : j < 64) : w.cell? ⟨p, 1 + j * 4 + 2, none⟩ = some (.int .u64 (ud (f j)).i) := h.ent hj (c := 2) (by omega)
theorem Rl.c3 (h : Rl p me f w) {j : Nat} (hj : j < 64) : w.cell? ⟨p, 1 + j * 4 + 3, none⟩ = some (.int .i64 (ud (f j)).s) := h.ent hj (c := 3) (by omega)
theorem Rl.free (h : Rl p me f w) (m : Nat) : w.frozen? ⟨p, m, none⟩ = false := by simp [World.frozen?, h.heap]
theorem Rl.lt (h : Rl p me f w) : p < w.heap.size := (Array.getElem?_eq_some_iff.1 h.heap).1
theorem Rl.keep (h : Rl p me f w) (e : w'.heap[p]? = w.heap[p]?) : Rl p me f w' := ⟨e.trans h.heap⟩
theorem Rl.below (h : Rl p me f w) (b : Below w.heap.size w w') : Rl p me f w' := h.keep (b.block p h.lt)
theorem Rl.drew (h : Rl p me f w) : Rl p me f w.drew := ⟨h.heap⟩
theorem Rl.other (h : Rl p me f w) {q : Addr} (hq : p ≠ q.block) (v : Value) : Rl p me f (w.setCell q v) := h.keep (Below.heap_setCell _ _ _ _ hq)
theorem Rl.put (h : Rl p me f w) {j : Nat} (hj : j < 64) (u : Upd) :
    Rl p me (f.set j u) ((((w.setCell ⟨p, 1 + j * 4, none⟩ (.bool true)).setCell ⟨p, 1 + j * 4 + 1, none⟩ (.int .i64 u.n)).setCell ⟨p, 1 + j * 4 + 2, none⟩ (.int .u64 u.i)).setCell ⟨p, 1 + j * 4 + 3, none⟩ (.int .i64 u.s)) := by
  refine ⟨?_⟩
  rw [← rollC_set me f hj u]
  simp [World.setCell, Array.getElem?_modify, h.heap, Nat.add_assoc]
theorem Rl.range (h : Rl p me f w) : w.rangeAt p 1 (entsC f) := fun j v hv => by
  rw [h.cell, rollC, Nat.add_comm, List.getElem?_cons_succ]; exact hv
theorem Rl.ext (h : Rl p me f w) {g : Tab} (e : ∀ j, j < 64 → f j = g j) : Rl p me g w := ⟨by rw [h.heap, rollC, rollC, entsC_ext e]⟩
end

/-- Below block number B all is as it was, but for block p. -/
structure But (B p : Nat) (w w' : World) : Prop where
  os : w'.os = w.os
  tape : w'.tape = w.tape
  output : w'.output = w.output
  size : w.heap.size ≤ w'.heap.size
  block : ∀ k, k < B → k ≠ p → w'.heap[k]? = w.heap[k]?
theorem But.of {B p : Nat} {w w' : World} (h : Below B w w') : But B p w w' := ⟨h.os, h.tape, h.output, h.size, fun k hk _ => h.block k hk⟩
theorem But.refl (B p : Nat) (w : World) : But B p w w := ⟨rfl, rfl, rfl, Nat.le_refl _, fun _ _ _ => rfl⟩
theorem But.setCell {B p : Nat} {a w : World} (h : But B p a w) {r : Addr} (hr : r.block = p ∨ B ≤ r.block) (u : Value) : But B p a (w.setCell r u) :=
  ⟨h.os, h.tape, h.output, by simpa [World.setCell] using h.size, fun k hk hp => (Below.heap_setCell _ _ _ _ (by omega)).trans (h.block k hk hp)⟩
theorem But.trans {B p : Nat} {a w w' : World} (h : But B p a w) (k : But B p w w') : But B p a w' :=
  ⟨k.os.trans h.os, k.tape.trans h.tape, k.output.trans h.output, Nat.le_trans h.size k.size, fun i hi hp => (k.block i hi hp).trans (h.block i hi hp)⟩
theorem But.mono {B C p : Nat} {w w' : World} (h : But C p w w') (hB : B ≤ C) : But B p w w' := ⟨h.os, h.tape, h.output, h.size, fun i hi hp => h.block i (by omega) hp⟩
theorem But.drew {B p : Nat} {a w : World} (h : But B p a w) : But B p a w.drew := ⟨h.os, h.tape, h.output, h.size, fun i hi hp => h.block i hi hp⟩
/-- Where p is not below B, all below B is as it was. -/
theorem But.to {B p : Nat} {w w' : World} (h : But B p w w') (hp : B ≤ p) : Below B w w' := ⟨h.os, h.tape, h.output, h.size, fun i hi => h.block i hi (by omega)⟩
theorem Below.drew' {B : Nat} {a w : World} (h : Below B a w) : Below B a w.drew := ⟨h.os, h.tape, h.output, h.size, fun i hi => h.block i hi⟩
end Go.Proofs.YtpoofjnfaijjjaaGreatDoor.Ro
namespace Go.Proofs.YtpoofjnfaijjjaaGreatDoor.Ro
open Go.RowKit

theorem But.set4 {B p : Nat} {a w : World} (h : But B p a w) (i j k l : Nat) (x y z v : Value) : But B p a ((((w.setCell ⟨p, i, none⟩ x).setCell ⟨p, j, none⟩ y).setCell ⟨p, k, none⟩ z).setCell ⟨p, l, none⟩ v) :=
  (((h.setCell (r := ⟨p, i, none⟩) (Or.inl rfl) _).setCell (r := ⟨p, j, none⟩) (Or.inl rfl) _).setCell (r := ⟨p, k, none⟩) (Or.inl rfl) _).setCell (r := ⟨p, l, none⟩) (Or.inl rfl) _

set_option maxHeartbeats 1000000 in
theorem keep_any (p : Nat) (me : Int) (f : Tab) (j : Nat) (u : Upd) (hn : u.n = j) (hj : j < 64) (w : World) (hR : Rl p me f w) :
    Calls Tryz.prog 68 #[.pointer (some ⟨p, 0, none⟩), .agg #[.int .i64 u.n, .int .u64 u.i, .int .i64 u.s]] w fun e w' => e = .returned (.tuple #[]) ∧ Rl p me (f.set j u) w' ∧ But w.heap.size p w w' := by
  have hB := Bx.new 39 u.n u.i u.s w
  have hb0 : Below w.heap.size w (w.alloc (.cells #[.int .i64 u.n, .int .u64 u.i, .int .i64 u.s] 39)) := (Below.refl _ _).alloc (Nat.le_refl _) _
  have hR1 := hR.below hb0
  have k0 : (0 : Int) ≤ j := by omega
  have k1 : (j : Int) < 64 := by omega
  obtain ⟨n, i, s⟩ := u
  obtain rfl : n = j := hn
  have x0 := hR1.c0 hj
  have x1 := hR1.c1 hj
  have x2 := hR1.c2 hj
  have x3 := hR1.c3 hj
  have y0 := hR1.free (1 + j * 4)
  have y1 := hR1.free (1 + j * 4 + 1)
  have y2 := hR1.free (1 + j * 4 + 2)
  have y3 := hR1.free (1 + j * 4 + 3)
  go_enter Tryz.func68, Tryz.ntmps68
  go_wp2_with fail
  go_region
  go_wp2_with fail
  go_end0
  exact ⟨rfl, (hR1.put hj ⟨j, i, s⟩).drew, But.drew (But.set4 (But.of hb0) _ _ _ _ _ _ _ _)⟩

section
variable {T : TypeId} {g : Nat} {n i s : Int} {w w' : World}
theorem Bx.free (h : Bx T g n i s w) (j : Nat) : w.frozen? ⟨g, j, none⟩ = false := by simp [World.frozen?, h.heap]
theorem Bx.other (h : Bx T g n i s w) {q : Addr} (hq : g ≠ q.block) (v : Value) : Bx T g n i s (w.setCell q v) := h.keep (Below.heap_setCell _ _ _ _ hq)
theorem Bx.drew (h : Bx T g n i s w) : Bx T g n i s w.drew := ⟨h.heap⟩
theorem Bx.set (h : Bx T g n i s w) (n' i' s' : Int) : Bx T g n' i' s' (((w.setCell ⟨g, 0, none⟩ (.int .i64 n')).setCell ⟨g, 1, none⟩ (.int .u64 i')).setCell ⟨g, 2, none⟩ (.int .i64 s')) :=
  ⟨by simp [World.setCell, Array.getElem?_modify, h.heap]⟩
end
theorem below_set3 {B g : Nat} {a w : World} (h : Below B a w) (hg : B ≤ g) (x y z : Value) : Below B a (((w.setCell ⟨g, 0, none⟩ x).setCell ⟨g, 1, none⟩ y).setCell ⟨g, 2, none⟩ z) :=
  ((h.setCell (p := ⟨g, 0, none⟩) hg _).setCell (p := ⟨g, 1, none⟩) hg _).setCell (p := ⟨g, 2, none⟩) hg _
theorem results_cell {fn : Func} {p : Tmp} {ty : TypeId} (h : fn.results = #[.cell p ty]) (tmps : Array Value) (P : Program) (w : World) :
    (results fn tmps).run P w = ((asAddr (tmps.getD p undef)).run P w).andThen fun a w₁ => (loadVar ty a).run P w₁ := by
  simp only [results, h]
  simp [Sem.run_bind, Result.andThen]

set_option maxHeartbeats 1000000 in
theorem mine_any (p k : Nat) (f : Tab) (hk : k < 64) (w : World) (hR : Rl p k f w) :
    Calls Tryz.prog 33 #[.pointer (some ⟨p, 0, none⟩)] w fun e w' => e = .returned (.agg #[.int .i64 (ud (f k)).n, .int .u64 (ud (f k)).i, .int .i64 (ud (f k)).s]) ∧ Below w.heap.size w w' := by
  have hB := Bx.new 39 0 0 0 w
  have hb0 : Below w.heap.size w (w.alloc (.cells #[.int .i64 0, .int .u64 0, .int .i64 0] 39)) := (Below.refl _ _).alloc (Nat.le_refl _) _
  have hR1 := hR.below hb0
  have k0 : (0 : Int) ≤ k := by omega
  have k1 : (k : Int) < 64 := by omega
  have x := hR1.cme
  have x1 := hR1.c1 hk
  have x2 := hR1.c2 hk
  have x3 := hR1.c3 hk
  have y0 := hB.free 0
  have y1 := hB.free 1
  have y2 := hB.free 2
  have hend := (Bx.new 39 (ud (f k)).n (ud (f k)).i (ud (f k)).s w).drew
  have hbl : Below w.heap.size w (w.alloc (.cells #[.int .i64 (ud (f k)).n, .int .u64 (ud (f k)).i, .int .i64 (ud (f k)).s] 39)).drew := Below.drew' ((Below.refl _ _).alloc (Nat.le_refl _) _)
  generalize ud (f k) = u at *
  go_enter Tryz.func33, Tryz.ntmps33
  go_wp2_with fail
  go_region
  generalize World.drew _ = w7 at *
  clear x x1 x2 x3 y0 y1 y2 hB hb0 hR1
  have r0 := hend.c0
  have r1 := hend.c1
  have r2 := hend.c2
  go_wp2_with fail
  refine bodyPost_ret (v := .agg #[.int .i64 u.n, .int .u64 u.i, .int .i64 u.s]) ?_ rfl ⟨rfl, hbl⟩
  rw [results_cell rfl]
  go_simp

/-- What is known of the node n, if it is one. -/
def getS (f : Tab) (n : Int) : Option Upd := if 0 ≤ n ∧ n < 64 then f n.toNat else none

theorem isSome_ud (o : Option Upd) : (o = none ∧ o.isSome = false ∧ ud o = ⟨0, 0, 0⟩) ∨ ∃ u, o = some u ∧ o.isSome = true ∧ ud o = u := by cases o <;> simp [ud]

set_option maxHeartbeats 1000000 in
theorem get_any (p : Nat) (me n : Int) (f : Tab) (w : World) (hR : Rl p me f w) :
    Calls Tryz.prog 102 #[.pointer (some ⟨p, 0, none⟩), .int .i64 n] w fun e w' => e = .returned (.tuple #[.agg #[.int .i64 (ud (getS f n)).n, .int .u64 (ud (getS f n)).i, .int .i64 (ud (getS f n)).s], .bool (getS f n).isSome]) ∧ Below w.heap.size w w' := by
  have hB := Bx.new 39 0 0 0 w
  have hb0 : Below w.heap.size w (w.alloc (.cells #[.int .i64 0, .int .u64 0, .int .i64 0] 39)) := (Below.refl _ _).alloc (Nat.le_refl _) _
  have hR1 := hR.below hb0
  have y0 := hB.free 0
  have y1 := hB.free 1
  have y2 := hB.free 2
  by_cases h0 : n < 0 ∨ 64 ≤ n
  · have e : getS f n = none := by unfold getS; rw [if_neg (by omega)]
    rw [e]
    by_cases h1 : n < 0
    · go_enter Tryz.func102, Tryz.ntmps102
      go_wp2_with fail
      refine bodyPost_ret (v := .tuple #[.agg #[.int .i64 0, .int .u64 0, .int .i64 0], .bool false]) ?_ rfl ⟨rfl, hb0⟩
      rw [results_cell_tmp rfl]
      go_simp
    · have h2 : 64 ≤ n := by omega
      go_enter Tryz.func102, Tryz.ntmps102
      go_wp2_with fail
      refine bodyPost_ret (v := .tuple #[.agg #[.int .i64 0, .int .u64 0, .int .i64 0], .bool false]) ?_ rfl ⟨rfl, hb0⟩
      rw [results_cell_tmp rfl]
      go_simp
  · have h1 : 0 ≤ n := by omega
    have h2 : n < 64 := by omega
    obtain ⟨j, rfl⟩ : ∃ j : Nat, n = j := ⟨n.toNat, by omega⟩
    have hj : j < 64 := by omega
    have e : getS f j = f j := by unfold getS; rw [if_pos ⟨h1, h2⟩]; rfl
    rw [e]
    clear e h0
    have x0 := hR1.c0 hj
    have x1 := hR1.c1 hj
    have x2 := hR1.c2 hj
    have x3 := hR1.c3 hj
    generalize ud (f j) = u at *
    generalize (f j).isSome = b at *
    go_enter Tryz.func102, Tryz.ntmps102
    go_wp2_with fail
    go_region
    have hend : Bx 39 w.heap.size u.n u.i u.s ((w.alloc (.cells #[.int .i64 u.n, .int .u64 u.i, .int .i64 u.s] 39)).alloc (.cells #[.bool b, .int .i64 u.n, .int .u64 u.i, .int .i64 u.s] 138)).drew :=
      (Bx.below (Bx.new 39 u.n u.i u.s w) ((Below.refl _ _).alloc (Nat.le_refl _) _)).drew
    have hbl : Below w.heap.size w ((w.alloc (.cells #[.int .i64 u.n, .int .u64 u.i, .int .i64 u.s] 39)).alloc (.cells #[.bool b, .int .i64 u.n, .int .u64 u.i, .int .i64 u.s] 138)).drew :=
      Below.drew' (((Below.refl _ _).alloc (Nat.le_refl _) _).alloc (by simp) _)
    generalize World.drew _ = w7 at *
    clear x0 x1 x2 x3 y0 y1 y2 hB hb0 hR1
    have r0 := hend.c0
    have r1 := hend.c1
    have r2 := hend.c2
    go_wp2_with fail
    refine bodyPost_ret (v := .tuple #[.agg #[.int .i64 u.n, .int .u64 u.i, .int .i64 u.s], .bool b]) ?_ rfl ⟨rfl, hbl⟩
    rw [results_cell_tmp rfl]
    go_simp

/-- Block b holds the pointer to block p. -/
structure Pt (b p : Nat) (w : World) : Prop where
  heap : w.heap[b]? = some (.cells #[.pointer (some ⟨p, 0, none⟩)] 80 (0, 0))
section
variable {b p : Nat} {w w' : World}
theorem Pt.c (h : Pt b p w) : w.cell? ⟨b, 0, none⟩ = some (.pointer (some ⟨p, 0, none⟩)) := by simp [World.cell?, h.heap]
theorem Pt.lt (h : Pt b p w) : b < w.heap.size := (Array.getElem?_eq_some_iff.1 h.heap).1
theorem Pt.keep (h : Pt b p w) (e : w'.heap[b]? = w.heap[b]?) : Pt b p w' := ⟨e.trans h.heap⟩
theorem Pt.below (h : Pt b p w) (k : Below w.heap.size w w') : Pt b p w' := h.keep (k.block b h.lt)
theorem Pt.new (p : Nat) (w : World) : Pt w.heap.size p (w.alloc (.cells #[.pointer (some ⟨p, 0, none⟩)] 80)) := ⟨heap_alloc_new w _⟩
end

/-- Block q holds the entries g. -/
structure En (q : Nat) (g : Tab) (w : World) : Prop where
  heap : w.heap[q]? = some (.cells (entsC g).toArray 139 (0, 0))
section
variable {q : Nat} {g : Tab} {w w' : World}
theorem En.cell (h : En q g w) (m : Nat) : w.cell? ⟨q, m, none⟩ = (entsC g)[m]? := by simp [World.cell?, h.heap]
theorem En.c0 (h : En q g w) {j : Nat} (hj : j < 64) : w.cell? ⟨q, j * 4, none⟩ = some (.bool (g j).isSome) := by rw [h.cell]; exact entsC_get g hj (c := 0) (by omega)
theorem En.c1 (h : En q g w) {j : Nat} (hj : j < 64) : w.cell? ⟨q, j * 4 + 1, none⟩ = some (.int .i64 (ud (g j)).n) := by rw [h.cell]; exact entsC_get g hj (c := 1) (by omega)
theorem En.c2 (h : En q g w) {j : Nat} (hj : j < 64) : w.cell? ⟨q, j * 4 + 2, none⟩ = some (.int .u64 (ud (g j)).i) := by rw [h.cell]; exact entsC_get g hj (c := 2) (by omega)
theorem En.c3 (h : En q g w) {j : Nat} (hj : j < 64) : w.cell? ⟨q, j * 4 + 3, none⟩ = some (.int .i64 (ud (g j)).s) := by rw [h.cell]; exact entsC_get g hj (c := 3) (by omega)
theorem En.lt (h : En q g w) : q < w.heap.size := (Array.getElem?_eq_some_iff.1 h.heap).1
theorem En.keep (h : En q g w) (e : w'.heap[q]? = w.heap[q]?) : En q g w' := ⟨e.trans h.heap⟩
theorem En.below (h : En q g w) (k : Below w.heap.size w w') : En q g w' := h.keep (k.block q h.lt)
end

set_option maxHeartbeats 1000000 in
theorem known_any (b p : Nat) (me : Int) (f : Tab) (j : Nat) (hj : j < 64) (w : World) (hP : Pt b p w) (hR : Rl p me f w) :
    Calls Tryz.prog 113 #[.int .i64 j, .pointer (some ⟨b, 0, none⟩)] w fun e w' => e = .returned (.bool (f j).isSome) ∧ w' = w := by
  have k0 : (0 : Int) ≤ j := by omega
  have k1 : (j : Int) < 64 := by omega
  have x := hP.c
  have x0 := hR.c0 hj
  generalize (f j).isSome = c at *
  go_enter Tryz.func113, Tryz.ntmps113
  go_wp2_with fail
  go_ret
  exact ⟨rfl, rfl⟩

end Go.Proofs.YtpoofjnfaijjjaaGreatDoor.Ro
namespace Go.Proofs.YtpoofjnfaijjjaaGreatDoor.Ro
open Go.RowKit

theorem below_drewN (B : Nat) (w : World) (n : Nat) : Below B w (w.drewN n) := ⟨rfl, rfl, rfl, Nat.le_refl _, fun _ _ => rfl⟩

def eqU (u v : Upd) : Bool := (u.n == v.n) && ((u.i == v.i) && (u.s == v.s))
theorem run_eqU_in (d : Nat) (u v : Upd) (w : World) : (Op.equalIn (d + 1 + 1) 39 (.agg #[.int .i64 u.n, .int .u64 u.i, .int .i64 u.s]) (.agg #[.int .i64 v.n, .int .u64 v.i, .int .i64 v.s])).run Tryz.prog w = .ok (eqU u v) w := by
  rw [run_equalIn_struct w (d + 1) 39 _ _ (by kernel_rfl) (by kernel_rfl)]
  unfold eqU
  cases h1 : (u.n == v.n) <;> cases h2 : (u.i == v.i) <;> cases h3 : (u.s == v.s) <;> simp [Program.fieldsOf, go_sem, h1, h2, h3]
theorem run_eqE_in (d : Nat) (b c : Bool) (u v : Upd) (w : World) : (Op.equalIn (d + 1 + 1 + 1) 138 (.agg #[.bool b, .int .i64 u.n, .int .u64 u.i, .int .i64 u.s]) (.agg #[.bool c, .int .i64 v.n, .int .u64 v.i, .int .i64 v.s])).run Tryz.prog w = .ok ((b == c) && eqU u v) w := by
  rw [run_equalIn_struct w (d + 1 + 1) 138 _ _ (by kernel_rfl) (by kernel_rfl)]
  have h := run_eqU_in d u v
  cases h1 : (b == c) <;> cases h2 : eqU u v <;> simp [Program.fieldsOf, go_sem, h1, h, h2]
theorem run_eqlU (u v : Upd) (w : World) : (binOp .eql 39 (.agg #[.int .i64 u.n, .int .u64 u.i, .int .i64 u.s]) (.agg #[.int .i64 v.n, .int .u64 v.i, .int .i64 v.s])).run Tryz.prog w = .ok (.bool (eqU u v)) w := by
  have h := run_eqU_in 9998 u v w
  simp [binOp, Op.equal, Op.maxDepth, h]
theorem run_neqU (u v : Upd) (w : World) : (binOp .neq 39 (.agg #[.int .i64 u.n, .int .u64 u.i, .int .i64 u.s]) (.agg #[.int .i64 v.n, .int .u64 v.i, .int .i64 v.s])).run Tryz.prog w = .ok (.bool (!eqU u v)) w := by
  have h := run_eqU_in 9998 u v w
  simp [binOp, Op.equal, Op.maxDepth, h]
theorem run_neqE (b c : Bool) (u v : Upd) (w : World) : (binOp .neq 138 (.agg #[.bool b, .int .i64 u.n, .int .u64 u.i, .int .i64 u.s]) (.agg #[.bool c, .int .i64 v.n, .int .u64 v.i, .int .i64 v.s])).run Tryz.prog w = .ok (.bool (!((b == c) && eqU u v))) w := by
  have h := run_eqE_in 9997 b c u v w
  simp [binOp, Op.equal, Op.maxDepth, h]

/-- Does the entry differ? -/
def neE (a b : Option Upd) : Bool := !((a.isSome == b.isSome) && eqU (ud a) (ud b))

end Go.Proofs.YtpoofjnfaijjjaaGreatDoor.Ro
