/-
  The roll's leaves: keep, Mine, Get, the two closures.
-/
import Derived.Test.YtkodeahhckibmaaDoorTbl
import Derived.Laws.ResultCell
namespace Go.Proofs.YtkodeahhckibmaaDoor
open Go.RowKit

theorem But.set4 {B p : Nat} {a w : World} (h : But B p a w) (i j k l : Nat) (x y z v : Value) : But B p a ((((w.setCell ⟨p, i, none⟩ x).setCell ⟨p, j, none⟩ y).setCell ⟨p, k, none⟩ z).setCell ⟨p, l, none⟩ v) :=
  (((h.setCell (r := ⟨p, i, none⟩) (Or.inl rfl) _).setCell (r := ⟨p, j, none⟩) (Or.inl rfl) _).setCell (r := ⟨p, k, none⟩) (Or.inl rfl) _).setCell (r := ⟨p, l, none⟩) (Or.inl rfl) _

set_option maxHeartbeats 1000000 in
theorem keep_any (p : Nat) (me : Int) (f : Tab) (j : Nat) (u : Upd) (hn : u.n = j) (hj : j < 64) (w : World) (hR : Rl p me f w) :
    Calls Tryd.prog 21 #[.pointer (some ⟨p, 0, none⟩), .agg #[.int .i64 u.n, .int .u64 u.i, .int .i64 u.s]] w fun e w' => e = .returned (.tuple #[]) ∧ Rl p me (f.set j u) w' ∧ But w.heap.size p w w' := by
  have hB := Bx.new 34 u.n u.i u.s w
  have hb0 : Below w.heap.size w (w.alloc (.cells #[.int .i64 u.n, .int .u64 u.i, .int .i64 u.s] 34)) := (Below.refl _ _).alloc (Nat.le_refl _) _
  have hR1 := hR.below hb0
  have k0 : (0 : Int) ≤ j := by omega
  have k1 : (j : Int) < 64 := by omega
  obtain ⟨n, i, s⟩ := u
  obtain rfl : n = j := hn
  have x0 := hR1.c0 hj
  have x1 := hR1.c1 hj
  have x2 := hR1.c2 hj
  have x3 := hR1.c3 hj
  have y0 := hR1.free (1 + j * 4)
  have y1 := hR1.free (1 + j * 4 + 1)
  have y2 := hR1.free (1 + j * 4 + 2)
  have y3 := hR1.free (1 + j * 4 + 3)
  go_enter Tryd.func21, Tryd.ntmps21
  go_wp2_with fail
  go_region
  go_wp2_with fail
  go_end0
  exact ⟨rfl, (hR1.put hj ⟨j, i, s⟩).drew, But.drew (But.set4 (But.of hb0) _ _ _ _ _ _ _ _)⟩

section
variable {T : TypeId} {g : Nat} {n i s : Int} {w w' : World}
theorem Bx.free (h : Bx T g n i s w) (j : Nat) : w.frozen? ⟨g, j, none⟩ = false := by simp [World.frozen?, h.heap]
theorem Bx.other (h : Bx T g n i s w) {q : Addr} (hq : g ≠ q.block) (v : Value) : Bx T g n i s (w.setCell q v) := h.keep (Below.heap_setCell _ _ _ _ hq)
theorem Bx.drew (h : Bx T g n i s w) : Bx T g n i s w.drew := ⟨h.heap⟩
theorem Bx.set (h : Bx T g n i s w) (n' i' s' : Int) : Bx T g n' i' s' (((w.setCell ⟨g, 0, none⟩ (.int .i64 n')).setCell ⟨g, 1, none⟩ (.int .u64 i')).setCell ⟨g, 2, none⟩ (.int .i64 s')) :=
  ⟨by simp [World.setCell, Array.getElem?_modify, h.heap]⟩
end
theorem below_set3 {B g : Nat} {a w : World} (h : Below B a w) (hg : B ≤ g) (x y z : Value) : Below B a (((w.setCell ⟨g, 0, none⟩ x).setCell ⟨g, 1, none⟩ y).setCell ⟨g, 2, none⟩ z) :=
  ((h.setCell (p := ⟨g, 0, none⟩) hg _).setCell (p := ⟨g, 1, none⟩) hg _).setCell (p := ⟨g, 2, none⟩) hg _
theorem results_cell {fn : Func} {p : Tmp} {ty : TypeId} (h : fn.results = #[.cell p ty]) (tmps : Array Value) (P : Program) (w : World) :
    (results fn tmps).run P w = ((asAddr (tmps.getD p undef)).run P w).andThen fun a w₁ => (loadVar ty a).run P w₁ := by
  simp only [results, h]
  simp [Sem.run_bind, Result.andThen]

set_option maxHeartbeats 1000000 in
theorem mine_any (p k : Nat) (f : Tab) (hk : k < 64) (w : World) (hR : Rl p k f w) :
    Calls Tryd.prog 32 #[.pointer (some ⟨p, 0, none⟩)] w fun e w' => e = .returned (.agg #[.int .i64 (ud (f k)).n, .int .u64 (ud (f k)).i, .int .i64 (ud (f k)).s]) ∧ Below w.heap.size w w' := by
  have hB := Bx.new 34 0 0 0 w
  have hb0 : Below w.heap.size w (w.alloc (.cells #[.int .i64 0, .int .u64 0, .int .i64 0] 34)) := (Below.refl _ _).alloc (Nat.le_refl _) _
  have hR1 := hR.below hb0
  have k0 : (0 : Int) ≤ k := by omega
  have k1 : (k : Int) < 64 := by omega
  have x := hR1.cme
  have x1 := hR1.c1 hk
  have x2 := hR1.c2 hk
  have x3 := hR1.c3 hk
  have y0 := hB.free 0
  have y1 := hB.free 1
  have y2 := hB.free 2
  have hend := (Bx.new 34 (ud (f k)).n (ud (f k)).i (ud (f k)).s w).drew
  have hbl : Below w.heap.size w (w.alloc (.cells #[.int .i64 (ud (f k)).n, .int .u64 (ud (f k)).i, .int .i64 (ud (f k)).s] 34)).drew := Below.drew' ((Below.refl _ _).alloc (Nat.le_refl _) _)
  generalize ud (f k) = u at *
  go_enter Tryd.func32, Tryd.ntmps32
  go_wp2_with fail
  go_region
  generalize World.drew _ = w7 at *
  clear x x1 x2 x3 y0 y1 y2 hB hb0 hR1
  have r0 := hend.c0
  have r1 := hend.c1
  have r2 := hend.c2
  go_wp2_with fail
  refine bodyPost_ret (v := .agg #[.int .i64 u.n, .int .u64 u.i, .int .i64 u.s]) ?_ rfl ⟨rfl, hbl⟩
  rw [results_cell rfl]
  go_simp

/-- What is known of the node n, if it is one. -/
def getS (f : Tab) (n : Int) : Option Upd := if 0 ≤ n ∧ n < 64 then f n.toNat else none

theorem isSome_ud (o : Option Upd) : (o = none ∧ o.isSome = false ∧ ud o = ⟨0, 0, 0⟩) ∨ ∃ u, o = some u ∧ o.isSome = true ∧ ud o = u := by cases o <;> simp [ud]

set_option maxHeartbeats 1000000 in
theorem get_any (p : Nat) (me n : Int) (f : Tab) (w : World) (hR : Rl p me f w) :
    Calls Tryd.prog 14 #[.pointer (some ⟨p, 0, none⟩), .int .i64 n] w fun e w' => e = .returned (.tuple #[.agg #[.int .i64 (ud (getS f n)).n, .int .u64 (ud (getS f n)).i, .int .i64 (ud (getS f n)).s], .bool (getS f n).isSome]) ∧ Below w.heap.size w w' := by
  have hB := Bx.new 34 0 0 0 w
  have hb0 : Below w.heap.size w (w.alloc (.cells #[.int .i64 0, .int .u64 0, .int .i64 0] 34)) := (Below.refl _ _).alloc (Nat.le_refl _) _
  have hR1 := hR.below hb0
  have y0 := hB.free 0
  have y1 := hB.free 1
  have y2 := hB.free 2
  by_cases h0 : n < 0 ∨ 64 ≤ n
  · have e : getS f n = none := by unfold getS; rw [if_neg (by omega)]
    rw [e]
    by_cases h1 : n < 0
    · go_enter Tryd.func14, Tryd.ntmps14
      go_wp2_with fail
      refine bodyPost_ret (v := .tuple #[.agg #[.int .i64 0, .int .u64 0, .int .i64 0], .bool false]) ?_ rfl ⟨rfl, hb0⟩
      rw [results_cell_tmp rfl]
      go_simp
    · have h2 : 64 ≤ n := by omega
      go_enter Tryd.func14, Tryd.ntmps14
      go_wp2_with fail
      refine bodyPost_ret (v := .tuple #[.agg #[.int .i64 0, .int .u64 0, .int .i64 0], .bool false]) ?_ rfl ⟨rfl, hb0⟩
      rw [results_cell_tmp rfl]
      go_simp
  · have h1 : 0 ≤ n := by omega
    have h2 : n < 64 := by omega
    obtain ⟨j, rfl⟩ : ∃ j : Nat, n = j := ⟨n.toNat, by omega⟩
    have hj : j < 64 := by omega
    have e : getS f j = f j := by unfold getS; rw [if_pos ⟨h1, h2⟩]; rfl
    rw [e]
    clear e h0
    have x0 := hR1.c0 hj
    have x1 := hR1.c1 hj
    have x2 := hR1.c2 hj
    have x3 := hR1.c3 hj
    generalize ud (f j) = u at *
    generalize (f j).isSome = b at *
    go_enter Tryd.func14, Tryd.ntmps14
    go_wp2_with fail
    go_region
    have hend : Bx 34 w.heap.size u.n u.i u.s ((w.alloc (.cells #[.int .i64 u.n, .int .u64 u.i, .int .i64 u.s] 34)).alloc (.cells #[.bool b, .int .i64 u.n, .int .u64 u.i, .int .i64 u.s] 50)).drew :=
      (Bx.below (Bx.new 34 u.n u.i u.s w) ((Below.refl _ _).alloc (Nat.le_refl _) _)).drew
    have hbl : Below w.heap.size w ((w.alloc (.cells #[.int .i64 u.n, .int .u64 u.i, .int .i64 u.s] 34)).alloc (.cells #[.bool b, .int .i64 u.n, .int .u64 u.i, .int .i64 u.s] 50)).drew :=
      Below.drew' (((Below.refl _ _).alloc (Nat.le_refl _) _).alloc (by simp) _)
    generalize World.drew _ = w7 at *
    clear x0 x1 x2 x3 y0 y1 y2 hB hb0 hR1
    have r0 := hend.c0
    have r1 := hend.c1
    have r2 := hend.c2
    go_wp2_with fail
    refine bodyPost_ret (v := .tuple #[.agg #[.int .i64 u.n, .int .u64 u.i, .int .i64 u.s], .bool b]) ?_ rfl ⟨rfl, hbl⟩
    rw [results_cell_tmp rfl]
    go_simp

/-- Block b holds the pointer to block p. -/
structure Pt (b p : Nat) (w : World) : Prop where
  heap : w.heap[b]? = some (.cells #[.pointer (some ⟨p, 0, none⟩)] 25 (0, 0))
section
variable {b p : Nat} {w w' : World}
theorem Pt.c (h : Pt b p w) : w.cell? ⟨b, 0, none⟩ = some (.pointer (some ⟨p, 0, none⟩)) := by simp [World.cell?, h.heap]
theorem Pt.lt (h : Pt b p w) : b < w.heap.size := (Array.getElem?_eq_some_iff.1 h.heap).1
theorem Pt.keep (h : Pt b p w) (e : w'.heap[b]? = w.heap[b]?) : Pt b p w' := ⟨e.trans h.heap⟩
theorem Pt.below (h : Pt b p w) (k : Below w.heap.size w w') : Pt b p w' := h.keep (k.block b h.lt)
theorem Pt.new (p : Nat) (w : World) : Pt w.heap.size p (w.alloc (.cells #[.pointer (some ⟨p, 0, none⟩)] 25)) := ⟨heap_alloc_new w _⟩
end

/-- Block q holds the entries g. -/
structure En (q : Nat) (g : Tab) (w : World) : Prop where
  heap : w.heap[q]? = some (.cells (entsC g).toArray 51 (0, 0))
section
variable {q : Nat} {g : Tab} {w w' : World}
theorem En.cell (h : En q g w) (m : Nat) : w.cell? ⟨q, m, none⟩ = (entsC g)[m]? := by simp [World.cell?, h.heap]
theorem En.c0 (h : En q g w) {j : Nat} (hj : j < 64) : w.cell? ⟨q, j * 4, none⟩ = some (.bool (g j).isSome) := by rw [h.cell]; exact entsC_get g hj (c := 0) (by omega)
theorem En.c1 (h : En q g w) {j : Nat} (hj : j < 64) : w.cell? ⟨q, j * 4 + 1, none⟩ = some (.int .i64 (ud (g j)).n) := by rw [h.cell]; exact entsC_get g hj (c := 1) (by omega)
theorem En.c2 (h : En q g w) {j : Nat} (hj : j < 64) : w.cell? ⟨q, j * 4 + 2, none⟩ = some (.int .u64 (ud (g j)).i) := by rw [h.cell]; exact entsC_get g hj (c := 2) (by omega)
theorem En.c3 (h : En q g w) {j : Nat} (hj : j < 64) : w.cell? ⟨q, j * 4 + 3, none⟩ = some (.int .i64 (ud (g j)).s) := by rw [h.cell]; exact entsC_get g hj (c := 3) (by omega)
theorem En.lt (h : En q g w) : q < w.heap.size := (Array.getElem?_eq_some_iff.1 h.heap).1
theorem En.keep (h : En q g w) (e : w'.heap[q]? = w.heap[q]?) : En q g w' := ⟨e.trans h.heap⟩
theorem En.below (h : En q g w) (k : Below w.heap.size w w') : En q g w' := h.keep (k.block q h.lt)
end

set_option maxHeartbeats 1000000 in
theorem known_any (b p : Nat) (me : Int) (f : Tab) (j : Nat) (hj : j < 64) (w : World) (hP : Pt b p w) (hR : Rl p me f w) :
    Calls Tryd.prog 37 #[.int .i64 j, .pointer (some ⟨b, 0, none⟩)] w fun e w' => e = .returned (.bool (f j).isSome) ∧ w' = w := by
  have k0 : (0 : Int) ≤ j := by omega
  have k1 : (j : Int) < 64 := by omega
  have x := hP.c
  have x0 := hR.c0 hj
  generalize (f j).isSome = c at *
  go_enter Tryd.func37, Tryd.ntmps37
  go_wp2_with fail
  go_ret
  exact ⟨rfl, rfl⟩

end Go.Proofs.YtkodeahhckibmaaDoor
