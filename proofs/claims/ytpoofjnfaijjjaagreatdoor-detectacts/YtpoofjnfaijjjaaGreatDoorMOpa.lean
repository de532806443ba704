/-
  A row of which the first ones may be gone: what an append to it does. The reference's detector in memory; what a step changes of it. Several detectors side by side, that draw from the same lots: a cluster. What is shown: that a ping is answered. What happens to a detector: a slice of acts, opened.
-/
import Derived.Deep.AppendSrc
import Derived.Deep.Upon
import Derived.Test.YtpoofjnfaijjjaaGreatDoorMRRhr
import Derived.Test.YtpoofjnfaijjjaaGreatDoorMURft
import Derived.Test.YtpoofjnfaijjjaaGreatDoorMDEre
import Derived.Test.YtpoofjnfaijjjaaGreatDoorMTik
namespace Go.Proofs.YtpoofjnfaijjjaaGreatDoor
open Go.RowKit Go.Proofs.YtpoofjnfaijjjaaGreatDoor.Ro
section
variable {α : Type}
def QuE (E : Enc α) (T : TypeId) (v : Value) (l : List α) (w : World) : Prop :=
  ∃ a cap, v = .slice a l.length cap ∧ l.length ≤ cap ∧ cap ≤ maxLen ∧ ((a = none ∧ cap = 0) ∨ ∃ g o, a = some ⟨g, o, none⟩ ∧ (∃ cur, w.heap[g]? = some (.cells cur T (0, 0))) ∧ (∀ j, j < cap * E.sz → (w.cell? ⟨g, o + j, none⟩).isSome = true) ∧ ∀ j u, (E.flat l)[j]? = some u → w.cell? ⟨g, o + j, none⟩ = some u)
variable {E : Enc α} {T : TypeId} {v : Value} {l r : List α} {w w' : World}
theorem OwE.qu {B : Nat} (h : OwE E T B v l w) : QuE E T v l w := by
  rcases h.2 with ⟨rfl, h0⟩ | ⟨g, cap, cur, rfl, hb, hg, h1, h2, h3, h4⟩
  · exact ⟨none, 0, by rw [h0], by omega, Nat.zero_le _, .inl ⟨rfl, rfl⟩⟩
  · refine ⟨_, cap, rfl, h1, h2, .inr ⟨g, 0, rfl, ⟨cur, hg⟩, fun j hj => ?_, fun j u hu => ?_⟩⟩
    · have hlt : j < cur.size := by rw [h3]; exact hj
      simp only [World.cell?, hg, Nat.zero_add]
      rw [Array.getElem?_eq_getElem hlt]
      rfl
    · have k := World.ownsRow.cells h (g := g) rfl _ _ hu
      rw [Ro.add_off] at k
      exact k
theorem QuE.len (h : QuE E T v l w) : ∃ a cap, v = .slice a l.length cap ∧ l.length ≤ cap ∧ cap ≤ maxLen := by
  obtain ⟨a, cap, e, h1, h2, _⟩ := h
  exact ⟨a, cap, e, h1, h2⟩
theorem QuE.type (h : QuE E T v l w) {g : Nat} (hg : v.ownBlock = some g) : ∃ cur, w.heap[g]? = some (.cells cur T (0, 0)) := by
  obtain ⟨a, cap, rfl, _, _, ⟨rfl, _⟩ | ⟨g', o, rfl, hc, _⟩⟩ := h
  · cases hg
  · cases hg; exact hc
theorem QuE.keep (h : QuE E T v l w) (hw : ∀ g, v.ownBlock = some g → g < w.heap.size → w'.heap[g]? = w.heap[g]?) : QuE E T v l w' := by
  obtain ⟨a, cap, rfl, h1, h2, h3⟩ := h
  refine ⟨a, cap, rfl, h1, h2, ?_⟩
  rcases h3 with h3 | ⟨g, o, rfl, ⟨cur, hc⟩, hs, hu⟩
  · exact .inl h3
  · have e := hw g rfl (Array.getElem?_eq_some_iff.1 hc).1
    have ec : ∀ j, w'.cell? ⟨g, j, none⟩ = w.cell? ⟨g, j, none⟩ := fun j => World.cell?_of_block (w := w) (a := ⟨g, j, none⟩) e
    exact .inr ⟨g, o, rfl, ⟨cur, e.trans hc⟩, fun j hj => by rw [ec]; exact hs j hj, fun j u hj => by rw [ec]; exact hu j u hj⟩
theorem QuE.head {x : α} (h : QuE E T v (x :: r) w) : ∃ g o cap, v = .slice (some ⟨g, o, none⟩) (r.length + 1) cap ∧ ∀ c u, (E.enc x)[c]? = some u → w.cell? ⟨g, o + c, none⟩ = some u := by
  obtain ⟨a, cap, rfl, h1, h2, ⟨rfl, h3⟩ | ⟨g, o, rfl, _, _, hu⟩⟩ := h
  · simp at h1; omega
  · refine ⟨g, o, cap, rfl, fun c u hc => hu c u ?_⟩
    show (E.enc x ++ E.flat r)[c]? = some u
    rw [List.getElem?_append_left (List.getElem?_eq_some_iff.1 hc).1]
    exact hc
theorem QuE.tail {x : α} {a : Option Addr} {n cap : Nat} (h : QuE E T (.slice a n cap) (x :: r) w) : QuE E T (sliced a 1 n cap E.sz) r w := by
  obtain ⟨a', cap', e, h1, h2, h3⟩ := h
  injection e with e1 e2 e3
  subst e1 e3
  rw [List.length_cons] at e2 h1
  subst e2
  unfold sliced
  by_cases hc : cap = 1
  · subst hc
    have hr : r.length = 0 := by omega
    obtain rfl := List.length_eq_zero_iff.1 hr
    rw [if_pos rfl]
    refine ⟨a, 0, rfl, Nat.le_refl _, Nat.zero_le _, ?_⟩
    rcases h3 with ⟨rfl, h3⟩ | ⟨g, o, rfl, hcur, hs, hu⟩
    · cases h3
    · exact .inr ⟨g, o, rfl, hcur, (fun j hj => by rw [Nat.zero_mul] at hj; cases hj), (fun j u hj => by cases hj)⟩
  · rw [if_neg hc]
    rcases h3 with ⟨rfl, h3⟩ | ⟨g, o, rfl, hcur, hs, hu⟩
    · omega
    · refine ⟨_, cap - 1, by rw [Nat.add_sub_cancel], by omega, by omega, .inr ⟨g, o + 1 * E.sz, ?_, hcur, fun j hj => ?_, fun j u hj => ?_⟩⟩
      · show some (Addr.add _ _) = _
        rw [Ro.add_off]
      · have := hs (1 * E.sz + j) (by
          have e : cap * E.sz = (cap - 1) * E.sz + 1 * E.sz := by rw [← Nat.add_mul]; congr 1; omega
          omega)
        rwa [← Nat.add_assoc] at this
      · have := hu (1 * E.sz + j) u (by
          show (E.enc x ++ E.flat r)[1 * E.sz + j]? = some u
          rw [List.getElem?_append_right (by rw [E.len x]; omega), E.len x]
          rw [show 1 * E.sz + j - E.sz = j by omega]
          exact hj)
        rwa [← Nat.add_assoc] at this
theorem size_setCellsQ (g : Nat) : ∀ (vs : List Value) (o : Nat) (w : World), (w.setCells g o vs).heap.size = w.heap.size
  | [], _, _ => rfl
  | x :: vs, o, w => by
    rw [World.setCells, size_setCellsQ g vs (o + 1)]
    simp [World.setCell]
theorem tape_setCellsQ (g : Nat) : ∀ (vs : List Value) (o : Nat) (w : World), (w.setCells g o vs).tape = w.tape
  | [], _, _ => rfl
  | x :: vs, o, w => by
    rw [World.setCells, tape_setCellsQ g vs (o + 1)]
    rfl
theorem setCells_type (g : Nat) : ∀ (vs : List Value) (o : Nat) (w : World), (∃ cur, w.heap[g]? = some (.cells cur T (0, 0))) → ∃ cur, (w.setCells g o vs).heap[g]? = some (.cells cur T (0, 0))
  | [], _, _, h => h
  | x :: vs, o, w, ⟨cur, h⟩ => by
    rw [World.setCells]
    exact setCells_type g vs (o + 1) _ ⟨_, by simp [World.setCell, Array.getElem?_modify, h]; rfl⟩
theorem run_appQ {ST ty : TypeId} {z : Value} {bytes C : Nat} {u : Value} (hST : Tryz.prog.underlying ST = some (.slice T)) (hinfo : (Tryz.prog.info? T).map (fun i => (i.zero, i.size, i.bytes)) = some (some z, E.sz, bytes)) (hz : z.cells.size = E.sz) (hby : bytes ≤ 1000)
    (h : QuE E T v l w) (hu : OwE E T C u r w) (hl : l.length + r.length ≤ 1000000) :
    ∃ v' w', (Builtin.append_ #[ST, ST] ty #[v, u]).run Tryz.prog w = .ok v' w' ∧ QuE E T v' (l ++ r) w' ∧ w.grownBy w' v.ownBlock ∧ (v'.ownBlock = v.ownBlock ∨ v'.ownBlock = some w.heap.size) := by
  obtain ⟨i0, hi, hz0, hz1, hz2⟩ := info_parts hinfo
  obtain ⟨a, cap, rfl, h1, h2, h3⟩ := id h
  have same : w.grownBy w (Value.slice a l.length cap).ownBlock := ⟨rfl, rfl, rfl, Nat.le_refl _, fun _ _ _ => rfl⟩
  have hsrc : Src Tryz.prog i0.size ST u r.length (E.flat r) w := by
    rw [hz1]
    rcases id hu.2 with ⟨rfl, h0⟩ | ⟨g, c, cur, rfl, _⟩
    · obtain rfl : r = [] := List.length_eq_zero_iff.1 h0
      exact Src.ofNil w hST 0
    · exact Src.ofSlice w hST ⟨g, 0, none⟩ r.length c (E.flat r) (E.flat_length r) hu.rd.cells (E.flat_cell r)
  by_cases hr : r.length = 0
  · obtain rfl : r = [] := List.length_eq_zero_iff.1 hr
    exact ⟨_, w, run_append_nothing w ST ST ty T i0 hST hi a l.length cap h1 u hsrc, by rw [List.append_nil]; exact h, same, .inl rfl⟩
  by_cases hroom : l.length + r.length ≤ cap
  · rcases h3 with ⟨rfl, h3⟩ | ⟨g, o, rfl, hcur, hs, hul⟩
    · omega
    · have hcell : ∀ j, j < (E.flat r).length → (w.cell? ⟨g, o + l.length * E.sz + j, none⟩).isSome = true := fun j hj => by
        rw [E.flat_length] at hj
        rw [Nat.add_assoc]
        refine hs _ ?_
        have := Nat.mul_le_mul_right E.sz hroom
        rw [Nat.add_mul] at this
        omega
      have hfz : ∀ j, w.frozen? ⟨g, j, none⟩ = false := fun j => by obtain ⟨cur, hc⟩ := hcur; exact free_of hc j
      have hrun := run_append_room_src w ST ST ty T i0 hST hi g o l.length cap u r.length (E.flat r) hsrc hroom (by rw [hz1]; exact hcell) (fun j _ => hfz _)
      rw [hz1] at hrun
      refine ⟨_, _, hrun, ⟨some ⟨g, o, none⟩, cap, by rw [List.length_append], by rw [List.length_append]; exact hroom, h2, .inr ⟨g, o, rfl, setCells_type g _ _ _ hcur, fun j hj => World.isSome_setCells g _ _ _ _ (hs j hj), fun j x hx => ?_⟩⟩, ⟨?_, ?_, ?_, ?_, ?_⟩, .inl rfl⟩
      · rw [E.flat_append] at hx
        by_cases hj : j < (E.flat l).length
        · rw [List.getElem?_append_left hj] at hx
          rw [World.cell?_setCells_out g _ _ w ⟨g, o + j, none⟩ (fun _ _ => .inl (by show o + j < _; rw [E.flat_length] at hj; omega))]
          exact hul j x hx
        · rw [List.getElem?_append_right (by omega), E.flat_length] at hx
          have hjr := (List.getElem?_eq_some_iff.1 hx).1
          have k := World.cell?_setCells_in g (E.flat r) (o + l.length * E.sz) w hcell (j - l.length * E.sz) hjr
          rw [E.flat_length] at hj
          rw [show o + l.length * E.sz + (j - l.length * E.sz) = o + j by omega] at k
          rw [k, ← hx, List.getElem?_eq_getElem hjr]
      · exact World.os_setCells w g _ _
      · exact tape_setCellsQ g _ _ w
      · exact World.output_setCells w g _ _
      · exact Nat.le_of_eq (size_setCellsQ g _ _ _).symm
      · intro k hk hne
        exact World.heap_setCells_other w g _ _ hk (fun e => hne (by rw [e]; rfl))
  · have hold : (Builtin.firstCells i0.size l.length (.slice a l.length cap)).run Tryz.prog w.drew = .ok (E.flat l).toArray w.drew := by
      rcases h3 with ⟨rfl, h3⟩ | ⟨g, o, rfl, _, _, hul⟩
      · obtain rfl : l = [] := List.length_eq_zero_iff.1 (by omega)
        exact run_firstCells_none w.drew _ _ _ _
      · exact run_firstCells_some w.drew i0.size l.length ⟨g, o, none⟩ l.length cap (E.flat l) (by rw [hz1]; exact E.flat_length l) (fun j x hx => by rw [Ro.add_off]; exact hul j x hx)
    have hrun := run_append_grow_src w ST ST ty T i0 z hST hi hz0 a l.length cap (E.flat l) hold u r.length (E.flat r) hsrc (by omega) (by omega) (growslice_fits (by omega) (Nat.le_trans (Nat.mul_le_mul hl (by rw [hz2]; exact hby)) (by decide)))
    have hge := grownCap_ge w (l.length + r.length) cap T
    have hcm : grownCap w (l.length + r.length) cap T ≤ maxLen := grownCap_le_maxLen w _ cap T (by unfold maxLen; omega)
    refine ⟨_, _, hrun, OwE.qu (B := w.heap.size) ?_, ⟨rfl, rfl, rfl, by simp, fun k hk _ => heap_alloc_old w.drew _ hk⟩, .inr rfl⟩
    unfold OwE
    have hlen : (E.flat (l ++ r)).length = (l ++ r).length * E.sz := E.flat_length _
    rw [List.length_append] at hlen ⊢
    refine ⟨hlen, .inr ⟨w.heap.size, _, _, rfl, Nat.le_refl _, heap_alloc_new w.drew _, hge, hcm, ?_, ?_⟩⟩
    · rw [Array.size_append, List.size_toArray, List.length_append, size_zeroCells, hz, E.flat_length, E.flat_length, ← Nat.add_mul, ← Nat.add_mul, Nat.add_sub_cancel' hge]
    · rw [E.flat_append] at hlen ⊢
      simp only [Array.toList_append, List.append_assoc]
      rw [← List.append_assoc, ← hlen]
      exact List.take_left
end
theorem QuE.lt_ {α : Type} {E : Enc α} {T : TypeId} {v : Value} {l : List α} {w : World} (h : QuE E T v l w) {g : Nat} (hg : v.ownBlock = some g) : g < w.heap.size := by
  obtain ⟨cur, e⟩ := h.type hg
  exact (Array.getElem?_eq_some_iff.1 e).1
structure Rc where
  k : Nat
  q : Nat
  r : Nat
  qq : Nat
  qd : Nat
  qs : Nat
  y : Nat
  w0 : World
  la : Option Addr
  lcap : Nat
  L : List Int
structure Rw where
  v : Value
  vq : Value
  vd : Value
  vs : Value
  vw : Value
  ve : Value
def Rc.arr (c : Rc) : Value := .slice c.la c.L.length c.lcap
def Rc.cells (c : Rc) (b : Rw) (d : Det) : Array Value := #[.int .i64 c.k, .pointer (some ⟨c.r, 0, none⟩), .pointer (some ⟨c.qq, 0, none⟩), .pointer (some ⟨c.qd, 0, none⟩), .pointer (some ⟨c.qs, 0, none⟩), b.vw, b.ve, .int .u64 d.la, .int .u64 d.no, .bool d.le]
def Rc.own (c : Rc) (b : Rw) : Nat → Option Nat
  | 0 => some c.q
  | 1 => some c.r
  | 2 => some c.qq
  | 3 => some c.qd
  | 4 => some c.qs
  | 5 => b.v.ownBlock
  | 6 => b.vq.ownBlock
  | 7 => b.vd.ownBlock
  | 8 => b.vs.ownBlock
  | 9 => b.vw.ownBlock
  | 10 => b.ve.ownBlock
  | _ => none
theorem ridx {i : Nat} : i = 0 ∨ i = 1 ∨ i = 2 ∨ i = 3 ∨ i = 4 ∨ i = 5 ∨ i = 6 ∨ i = 7 ∨ i = 8 ∨ i = 9 ∨ i = 10 ∨ 11 ≤ i := by omega
theorem rown_hi (c : Rc) (b : Rw) {i : Nat} (h : 11 ≤ i) : c.own b i = none := by
  obtain ⟨j, rfl⟩ : ∃ j, i = j + 11 := ⟨i - 11, by omega⟩
  rfl
theorem rown_but (c : Rc) {b b' : Rw} (j : Nat) (h5 : j ≠ 5 → b'.v = b.v) (h6 : j ≠ 6 → b'.vq = b.vq) (h7 : j ≠ 7 → b'.vd = b.vd) (h8 : j ≠ 8 → b'.vs = b.vs) (h9 : j ≠ 9 → b'.vw = b.vw) (h10 : j ≠ 10 → b'.ve = b.ve) : ∀ i, i ≠ j → c.own b' i = c.own b i := fun i hi => by
  rcases ridx (i := i) with rfl | rfl | rfl | rfl | rfl | rfl | rfl | rfl | rfl | rfl | rfl | h
  · rfl
  · rfl
  · rfl
  · rfl
  · rfl
  · exact congrArg Value.ownBlock (h5 (Ne.symm hi))
  · exact congrArg Value.ownBlock (h6 (Ne.symm hi))
  · exact congrArg Value.ownBlock (h7 (Ne.symm hi))
  · exact congrArg Value.ownBlock (h8 (Ne.symm hi))
  · exact congrArg Value.ownBlock (h9 (Ne.symm hi))
  · exact congrArg Value.ownBlock (h10 (Ne.symm hi))
  · rw [rown_hi c b h, rown_hi c b' h]
def pR (c : Rc) (v : Value) (f : Tab) (w : World) : Prop := ∃ K, tabK K = f ∧ Ro.Good c.k K ∧ Rf 0 c.r c.k v K w
def pQ (c : Rc) (v : Value) (Q : List Ru.Itm) (w : World) : Prop := w.heap[c.qq]? = some (.cells #[v] 100 (0, 0)) ∧ Ru.Rq (fun g => v.ownBlock = some g) c.qq Q w
def pD (c : Rc) (v : Value) (D : List Do.Dbt) (w : World) : Prop := w.heap[c.qd]? = some (.cells #[v] 103 (0, 0)) ∧ ∃ M, M.Perm D ∧ Do.Rg (fun g => v.ownBlock = some g) c.qd M w
def pS (c : Rc) (v : Value) (s : List Int) (w : World) : Prop := w.heap[c.qs]? = some (.cells #[v] 105 (0, 0)) ∧ Rn.Rd .i64 v s w
section
variable {c : Rc} {v : Value} {f : Tab} {Q : List Ru.Itm} {D : List Do.Dbt} {s : List Int} {w w' : World}
theorem rf_keep {B q k : Nat} {K : List Upd} (h : Rf B q k v K w) (e : w'.heap[q]? = w.heap[q]?) (hv : ∀ g, v.ownBlock = some g → w'.heap[g]? = w.heap[g]?) : Rf B q k v K w' := ⟨e.trans h.heap, h.row.keep fun g hg _ => hv g hg, h.ne⟩
theorem pR.keep (h : pR c v f w) (e : w'.heap[c.r]? = w.heap[c.r]?) (hv : ∀ g, v.ownBlock = some g → w'.heap[g]? = w.heap[g]?) : pR c v f w' := by
  obtain ⟨K, h1, h2, h3⟩ := h
  exact ⟨K, h1, h2, rf_keep h3 e hv⟩
theorem pQ.keep (h : pQ c v Q w) (e : w'.heap[c.qq]? = w.heap[c.qq]?) (hv : ∀ g, v.ownBlock = some g → w'.heap[g]? = w.heap[g]?) : pQ c v Q w' := ⟨e.trans h.1, h.2.keep e fun g _ hg _ => hv g hg⟩
theorem pD.keep (h : pD c v D w) (e : w'.heap[c.qd]? = w.heap[c.qd]?) (hv : ∀ g, v.ownBlock = some g → w'.heap[g]? = w.heap[g]?) : pD c v D w' := by
  obtain ⟨h1, M, h2, h3⟩ := h
  exact ⟨e.trans h1, M, h2, h3.keep e fun g _ hg _ => hv g hg⟩
theorem pS.keep (h : pS c v s w) (e : w'.heap[c.qs]? = w.heap[c.qs]?) (hv : ∀ g, v.ownBlock = some g → w'.heap[g]? = w.heap[g]?) : pS c v s w' := ⟨e.trans h.1, h.2.keep fun g hg _ => hv g hg⟩
end
structure Ry (c : Rc) (b : Rw) (d : Det) (m : List Int) (w : World) : Prop where
  ok : d.Ok c.k
  heap : w.heap[c.q]? = some (.cells (c.cells b d) 63 (0, 0))
  roll : pR c b.v d.f w
  que : pQ c b.vq d.Q w
  dou : pD c b.vd d.D w
  rou : pS c b.vs d.s w
  ws : OwE encW 65 0 b.vw d.W w
  es : QuE encE 116 b.ve d.E w
  sep : Sep (c.own b) w.heap.size
  lots : Rn.Lf c.w0 c.y c.arr c.L m w
  lok : Rn.Ok m
  out : ∀ i g, c.own b i = some g → g ≠ c.y ∧ c.w0.heap.size ≤ g
  arr : Rn.Rd .u64 c.arr c.L c.w0
  len : c.L.length ≤ 1000000
structure Sr (c : Rc) (b : Rw) (w : World) (b' : Rw) (w' : World) : Prop where
  fr : ∀ i g, c.own b' i = some g → c.own b i = some g ∨ w.heap.size ≤ g
  os : w'.os = w.os
  tape : w'.tape = w.tape
  output : w'.output = w.output
  size : w.heap.size ≤ w'.heap.size
  block : ∀ g, g < w.heap.size → g ≠ c.y → (∀ i, c.own b i ≠ some g) → w'.heap[g]? = w.heap[g]?
section
variable {c : Rc} {b b1 b2 : Rw} {w w1 w2 : World}
theorem Sr.refl (c : Rc) (b : Rw) (w : World) : Sr c b w b w := ⟨fun _ _ hg => .inl hg, rfl, rfl, rfl, Nat.le_refl _, fun _ _ _ _ => rfl⟩
theorem Sr.of (h : Below w.heap.size w w1) : Sr c b w b w1 := ⟨fun _ _ hg => .inl hg, h.os, h.tape, h.output, h.size, fun g hg _ _ => h.block g hg⟩
theorem Sr.trans (h : Sr c b w b1 w1) (k : Sr c b1 w1 b2 w2) : Sr c b w b2 w2 := by
  refine ⟨fun i g hg => ?_, k.os.trans h.os, k.tape.trans h.tape, k.output.trans h.output, Nat.le_trans h.size k.size, fun g hg hp hn => ?_⟩
  · rcases k.fr i g hg with hj | hj
    · exact h.fr i g hj
    · exact .inr (Nat.le_trans h.size hj)
  · rw [k.block g (Nat.lt_of_lt_of_le hg h.size) hp fun i hi => ?_, h.block g hg hp hn]
    rcases h.fr i g hi with hj | hj
    · exact hn i hj
    · omega
theorem Sr.drew (h : Sr c b w b1 w1) : Sr c b w b1 w1.drew := ⟨h.fr, h.os, h.tape, h.output, h.size, h.block⟩
theorem Sr.then (h : Sr c b w b1 w1) (k : Below w1.heap.size w1 w2) : Sr c b w b1 w2 := h.trans (Sr.of k)
end
section
variable {c : Rc} {b b' : Rw} {d d' : Det} {m m' : List Int} {w w' : World}
theorem Ry.lt (h : Ry c b d m w) (i : Nat) {g : Nat} (hg : c.own b i = some g) : 1 < g ∧ g < w.heap.size := h.sep.lt i g hg
theorem Ry.one (h : Ry c b d m w) : 1 < w.heap.size := by have := h.lt 0 rfl; omega
theorem Ry.qlt (h : Ry c b d m w) : c.q < w.heap.size := (h.lt 0 rfl).2
theorem Ry.keep (h : Ry c b d m w) (hz : w.heap.size ≤ w'.heap.size) (hw : ∀ i g, c.own b i = some g → w'.heap[g]? = w.heap[g]?) (hL : Rn.Lf c.w0 c.y c.arr c.L m w') : Ry c b d m w' :=
  ⟨h.ok, (hw 0 _ rfl).trans h.heap, h.roll.keep (hw 1 _ rfl) (hw 5), h.que.keep (hw 2 _ rfl) (hw 6), h.dou.keep (hw 3 _ rfl) (hw 7), h.rou.keep (hw 4 _ rfl) (hw 8), h.ws.keep fun g hg _ => hw 9 g hg, h.es.keep fun g hg _ => hw 10 g hg,
    ⟨h.sep.one, fun i g hg => by have := h.sep.lt i g hg; omega⟩, hL, h.lok, h.out, h.arr, h.len⟩
theorem Ry.below (h : Ry c b d m w) (hb : Below w.heap.size w w') : Ry c b d m w' := h.keep hb.size (fun i g hg => hb.block g (h.lt i hg).2) (h.lots.later hb)
theorem Ry.drew (h : Ry c b d m w) : Ry c b d m w.drew := h.keep (Nat.le_refl _) (fun _ _ _ => rfl) (h.lots.later (Below.drew' (Below.refl _ _)))
theorem Ry.cell (h : Ry c b d m w) (j : Nat) {u : Value} (hu : (c.cells b d)[j]? = some u) : w.cell? ⟨c.q, j, none⟩ = some u := by simp [World.cell?, h.heap, hu]
theorem Ry.c0 (h : Ry c b d m w) : w.cell? ⟨c.q, 0, none⟩ = some (.int .i64 c.k) := h.cell 0 rfl
theorem Ry.c1 (h : Ry c b d m w) : w.cell? ⟨c.q, 1, none⟩ = some (.pointer (some ⟨c.r, 0, none⟩)) := h.cell 1 rfl
theorem Ry.c2 (h : Ry c b d m w) : w.cell? ⟨c.q, 2, none⟩ = some (.pointer (some ⟨c.qq, 0, none⟩)) := h.cell 2 rfl
theorem Ry.c3 (h : Ry c b d m w) : w.cell? ⟨c.q, 3, none⟩ = some (.pointer (some ⟨c.qd, 0, none⟩)) := h.cell 3 rfl
theorem Ry.c4 (h : Ry c b d m w) : w.cell? ⟨c.q, 4, none⟩ = some (.pointer (some ⟨c.qs, 0, none⟩)) := h.cell 4 rfl
theorem Ry.c5 (h : Ry c b d m w) : w.cell? ⟨c.q, 5, none⟩ = some b.vw := h.cell 5 rfl
theorem Ry.c6 (h : Ry c b d m w) : w.cell? ⟨c.q, 6, none⟩ = some b.ve := h.cell 6 rfl
theorem Ry.c7 (h : Ry c b d m w) : w.cell? ⟨c.q, 7, none⟩ = some (.int .u64 d.la) := h.cell 7 rfl
theorem Ry.c8 (h : Ry c b d m w) : w.cell? ⟨c.q, 8, none⟩ = some (.int .u64 d.no) := h.cell 8 rfl
theorem Ry.c9 (h : Ry c b d m w) : w.cell? ⟨c.q, 9, none⟩ = some (.bool d.le) := h.cell 9 rfl
theorem Ry.free (h : Ry c b d m w) (j : Nat) : w.frozen? ⟨c.q, j, none⟩ = false := free_of h.heap j
structure Off (c : Rc) (b : Rw) (w : World) (g : Nat) : Prop where
  lt : g < w.heap.size
  y : g ≠ c.y
  own : ∀ i, c.own b i ≠ some g
  lo : c.w0.heap.size ≤ g
theorem Sr.keep (h : Sr c b w b' w') {g : Nat} (hg : Off c b w g) : w'.heap[g]? = w.heap[g]? := h.block g hg.lt hg.y hg.own
theorem Off.step {g : Nat} (hg : Off c b w g) (h : Sr c b w b' w') : Off c b' w' g := ⟨Nat.lt_of_lt_of_le hg.lt h.size, hg.y, fun i e => by
  rcases h.fr i g e with e | e
  · exact hg.own i e
  · have := hg.lt; omega, hg.lo⟩
theorem Ry.off (h : Ry c b d m w) {g : Nat} (hg : w.heap.size ≤ g) (hg' : g < w'.heap.size) : Off c b w' g := ⟨hg', fun e => by have := h.lots.lt; omega, fun i e => by have := h.lt i e; omega, by have := h.lots.below.size; omega⟩
theorem Off.drew {g : Nat} (h : Off c b w g) : Off c b w.drew g := ⟨h.lt, h.y, h.own, h.lo⟩
theorem Ry.outs (h : Ry c b d m w) (hfr : ∀ i g, c.own b' i = some g → c.own b i = some g ∨ w.heap.size ≤ g) : ∀ i g, c.own b' i = some g → g ≠ c.y ∧ c.w0.heap.size ≤ g := fun i g hg => by
  rcases hfr i g hg with e | e
  · exact h.out i g e
  · have h1 := h.lots.lt
    have h2 := h.lots.below.size
    exact ⟨by omega, by omega⟩
theorem rfr_of {j : Nat} (hs : ∀ i, i ≠ j → c.own b' i = c.own b i) (hc : c.own b' j = c.own b j ∨ ∀ g, c.own b' j = some g → w.heap.size ≤ g) : ∀ i g, c.own b' i = some g → c.own b i = some g ∨ w.heap.size ≤ g := fun i g hg => by
  by_cases e : i = j
  · subst e
    rcases hc with e | e
    · exact .inl (e ▸ hg)
    · exact .inr (e g hg)
  · exact .inl ((hs i e) ▸ hg)
def rows (v : Value) (w : World) (g : Nat) : Prop := v.ownBlock = some g ∨ w.heap.size ≤ g
theorem rows_or {v v' : Value} (h : ∀ g, v'.ownBlock = some g → rows v w g) : v'.ownBlock = v.ownBlock ∨ ∀ g, v'.ownBlock = some g → w.heap.size ≤ g := by
  cases e : v'.ownBlock with
  | none => exact .inr fun g hg => by cases hg
  | some g =>
    rcases h g e with h' | h'
    · exact .inl h'.symm
    · exact .inr fun g' hg' => by cases hg'; exact h'
theorem Ry.nrow (h : Ry c b d m w) {v : Value} {i j : Nat} {g : Nat} (hi : c.own b i = some g) (hj : c.own b j = v.ownBlock) (hij : i ≠ j) : ¬ rows v w g := fun e => by
  rcases e with e | e
  · exact hij (h.sep.one i j g hi (hj.trans e))
  · have := h.lt i hi; omega
theorem Ry.yrow (h : Ry c b d m w) {v : Value} {j : Nat} (hj : c.own b j = v.ownBlock) : ¬ rows v w c.y := fun e => by
  rcases e with e | e
  · exact (h.out j c.y (hj.trans e)).1 rfl
  · have := h.lots.lt; omega
theorem Ry.setQ (h : Ry c b d m w) {Q' : List Ru.Itm} (hQ : Ru.Rq (rows b.vq w) c.qq Q' w') (hB : Ru.But w.heap.size c.qq w w') (hq : Ru.Qi Q') (hl : Q'.length ≤ 32) : ∃ b', Ry c b' { d with Q := Q' } m w' ∧ Sr c b w b' w' ∧ b'.vw = b.vw := by
  obtain ⟨a, cap, e1, e2, e3, e4⟩ := hQ.is
  have hs : ∀ i, i ≠ 6 → c.own { b with vq := .slice a Q'.length cap } i = c.own b i := rown_but c 6 (fun _ => rfl) (fun e => absurd rfl e) (fun _ => rfl) (fun _ => rfl) (fun _ => rfl) (fun _ => rfl)
  have hc : c.own { b with vq := .slice a Q'.length cap } 6 = c.own b 6 ∨ ∀ g, c.own { b with vq := .slice a Q'.length cap } 6 = some g → w.heap.size ≤ g := rows_or fun g hg => (e3 g hg).1
  have hk : ∀ i g, i ≠ 2 → c.own b i = some g → w'.heap[g]? = w.heap[g]? := fun i g h2 hg => hB.block g (h.lt i hg).2 fun e => h2 (h.sep.one i 2 g hg (by rw [e]; rfl))
  have hfr := rfr_of (w := w) hs hc
  have ok := h.ok
  refine ⟨{ b with vq := .slice a Q'.length cap }, ⟨⟨ok.k64, ok.inv, hq, hl, ok.di, ok.s1, ok.s2, ok.W, ok.E, ok.el, ok.la, ok.no⟩, (hk 0 _ (by decide) rfl).trans h.heap, h.roll.keep (hk 1 _ (by decide) rfl) fun g => hk 5 g (by decide), ⟨e1, ⟨fun e => hQ.lt_ (e3 _ e).1, a, cap, e1, e2, fun g hg => ⟨hg, (e3 g hg).2⟩, e4⟩⟩, h.dou.keep (hk 3 _ (by decide) rfl) fun g => hk 7 g (by decide), h.rou.keep (hk 4 _ (by decide) rfl) fun g => hk 8 g (by decide), h.ws.keep fun g hg _ => hk 9 g (by decide) hg, h.es.keep fun g hg _ => hk 10 g (by decide) hg,
    h.sep.upd 6 h.one hB.size hs (hc.imp id fun e g hg => ⟨e g hg, ?_⟩), h.lots.keep (hB.block c.y h.lots.lt fun e => (h.out 2 c.qq rfl).1 e.symm) (Below.mono ⟨hB.os, hB.tape, hB.output, hB.size, fun g hg => hB.block g (by have := h.lots.below.size; omega) fun e => by have := (h.out 2 c.qq rfl).2; omega⟩ (Nat.le_refl _)), h.lok, h.outs hfr, h.arr, h.len⟩,
    ⟨hfr, hB.os, hB.tape, hB.output, hB.size, fun g hg _ hn => hB.block g hg fun e => hn 2 (by rw [e]; rfl)⟩, rfl⟩
  obtain ⟨_, cur, e⟩ := e3 g hg
  exact (Array.getElem?_eq_some_iff.1 e).1
theorem Ry.setD (h : Ry c b d m w) {D' M : List Do.Dbt} (hP : M.Perm D') (hQ : Do.Rg (rows b.vd w) c.qd M w') (hB : Do.Mr (rows b.vd w) c.qd w w') (hq : Do.Di D') : ∃ b', Ry c b' { d with D := D' } m w' ∧ Sr c b w b' w' ∧ b'.vw = b.vw := by
  obtain ⟨v', e1, e2, e3⟩ := hQ.is
  have hs : ∀ i, i ≠ 7 → c.own { b with vd := v' } i = c.own b i := rown_but c 7 (fun _ => rfl) (fun _ => rfl) (fun e => absurd rfl e) (fun _ => rfl) (fun _ => rfl) (fun _ => rfl)
  have hc : c.own { b with vd := v' } 7 = c.own b 7 ∨ ∀ g, c.own { b with vd := v' } 7 = some g → w.heap.size ≤ g := rows_or e3
  have hno : ∀ i g, i ≠ 3 → i ≠ 7 → c.own b i = some g → g ≠ c.qd ∧ ¬ rows b.vd w g := fun i g h3 h7 hg => ⟨fun e => h3 (h.sep.one i 3 g hg (by rw [e]; rfl)), h.nrow (v := b.vd) (j := 7) hg rfl h7⟩
  have hk : ∀ i g, i ≠ 3 → i ≠ 7 → c.own b i = some g → w'.heap[g]? = w.heap[g]? := fun i g h3 h7 hg => hB.block g (h.lt i hg).2 (hno i g h3 h7 hg).1 (hno i g h3 h7 hg).2
  have hfr := rfr_of (w := w) hs hc
  have ok := h.ok
  have hlow : ∀ g, g < c.w0.heap.size → g ≠ c.qd ∧ ¬ rows b.vd w g := fun g hg => ⟨fun e => by have := (h.out 3 c.qd rfl).2; omega, fun e => by
    rcases e with e | e
    · have := (h.out 7 g e).2; omega
    · have := h.lots.below.size; omega⟩
  refine ⟨{ b with vd := v' }, ⟨⟨ok.k64, ok.inv, ok.qi, ok.ql, hq, ok.s1, ok.s2, ok.W, ok.E, ok.el, ok.la, ok.no⟩, (hk 0 _ (by decide) (by decide) rfl).trans h.heap, h.roll.keep (hk 1 _ (by decide) (by decide) rfl) fun g => hk 5 g (by decide) (by decide), h.que.keep (hk 2 _ (by decide) (by decide) rfl) fun g => hk 6 g (by decide) (by decide), ⟨e1, M, hP, ⟨fun e => hQ.lt_ (e3 _ e), v', e1, e2, fun g hg => hg⟩⟩, h.rou.keep (hk 4 _ (by decide) (by decide) rfl) fun g => hk 8 g (by decide) (by decide), h.ws.keep fun g hg _ => hk 9 g (by decide) (by decide) hg, h.es.keep fun g hg _ => hk 10 g (by decide) (by decide) hg,
    h.sep.upd 7 h.one hB.size hs (hc.imp id fun e g hg => ⟨e g hg, (e2.lt g hg).2⟩), h.lots.keep (hB.block c.y h.lots.lt (fun e => (h.out 3 c.qd rfl).1 e.symm) (h.yrow (v := b.vd) (j := 7) rfl)) ⟨hB.os, hB.tape, hB.output, hB.size, fun g hg => hB.block g (by have := h.lots.below.size; omega) (hlow g hg).1 (hlow g hg).2⟩, h.lok, h.outs hfr, h.arr, h.len⟩,
    ⟨hfr, hB.os, hB.tape, hB.output, hB.size, fun g hg _ hn => hB.block g hg (fun e => hn 3 (by rw [e]; rfl)) fun e => ?_⟩, rfl⟩
  rcases e with e | e
  · exact hn 7 e
  · omega
theorem Ry.setS (h : Ry c b d m w) {s' m' : List Int} (hR : Rn.Rn 0 Rn.RX 105 (rows b.vs w) c.qs s' w') (hL : Rn.Lf c.w0 c.y c.arr c.L m' w') (hM : Rn.Mv c.qs c.y w w') (hok : Rn.Ok m') (h1 : s'.Nodup) (h2 : ∀ x ∈ s', Nd x) : ∃ b', Ry c b' { d with s := s' } m' w' ∧ Sr c b w b' w' ∧ b'.vw = b.vw := by
  obtain ⟨v', e1, e2, e3⟩ := hR.ex
  have hs : ∀ i, i ≠ 8 → c.own { b with vs := v' } i = c.own b i := rown_but c 8 (fun _ => rfl) (fun _ => rfl) (fun _ => rfl) (fun e => absurd rfl e) (fun _ => rfl) (fun _ => rfl)
  have hc : c.own { b with vs := v' } 8 = c.own b 8 ∨ ∀ g, c.own { b with vs := v' } 8 = some g → w.heap.size ≤ g := rows_or fun g hg => (e3 g hg).1
  have hk : ∀ i g, i ≠ 4 → c.own b i = some g → w'.heap[g]? = w.heap[g]? := fun i g h2 hg => hM.block g (h.lt i hg).2 (fun e => h2 (h.sep.one i 4 g hg (by rw [e]; rfl))) (h.out i g hg).1
  have hfr := rfr_of (w := w) hs hc
  have ok := h.ok
  refine ⟨{ b with vs := v' }, ⟨⟨ok.k64, ok.inv, ok.qi, ok.ql, ok.di, h1, h2, ok.W, ok.E, ok.el, ok.la, ok.no⟩, (hk 0 _ (by decide) rfl).trans h.heap, h.roll.keep (hk 1 _ (by decide) rfl) fun g => hk 5 g (by decide), h.que.keep (hk 2 _ (by decide) rfl) fun g => hk 6 g (by decide), h.dou.keep (hk 3 _ (by decide) rfl) fun g => hk 7 g (by decide), ⟨e1, e2⟩, h.ws.keep fun g hg _ => hk 9 g (by decide) hg, h.es.keep fun g hg _ => hk 10 g (by decide) hg,
    h.sep.upd 8 h.one hM.size hs (hc.imp id fun e g hg => ⟨e g hg, (e3 g hg).2⟩), hL, hok, h.outs hfr, h.arr, h.len⟩,
    ⟨hfr, hM.os, hM.tape, hM.output, hM.size, fun g hg hy hn => hM.block g hg (fun e => hn 4 (by rw [e]; rfl)) hy⟩, rfl⟩
theorem Ry.setL (h : Ry c b d m w) {m' : List Int} (hL : Rn.Lf c.w0 c.y c.arr c.L m' w') (hM : Rn.But w.heap.size c.y w w') (hok : Rn.Ok m') : Ry c b d m' w' ∧ Sr c b w b w' := by
  have hk : ∀ i g, c.own b i = some g → w'.heap[g]? = w.heap[g]? := fun i g hg => hM.block g (h.lt i hg).2 (h.out i g hg).1
  exact ⟨⟨h.ok, (hk 0 _ rfl).trans h.heap, h.roll.keep (hk 1 _ rfl) (hk 5), h.que.keep (hk 2 _ rfl) (hk 6), h.dou.keep (hk 3 _ rfl) (hk 7), h.rou.keep (hk 4 _ rfl) (hk 8), h.ws.keep fun g hg _ => hk 9 g hg, h.es.keep fun g hg _ => hk 10 g hg,
    ⟨h.sep.one, fun i g hg => by have := h.sep.lt i g hg; have := hM.size; omega⟩, hL, hok, h.out, h.arr, h.len⟩, ⟨fun _ _ hg => .inl hg, hM.os, hM.tape, hM.output, hM.size, fun g hg hy _ => hM.block g hg hy⟩⟩
theorem Ry.setR (h : Ry c b d m w) {v' : Value} {f' : Tab} (hR : pR c v' f' w') (hM : Ro.Mv c.r b.v v' w w') (hI : Inv c.k f') : ∃ b', Ry c b' { d with f := f' } m w' ∧ Sr c b w b' w' ∧ b'.vw = b.vw := by
  have hs : ∀ i, i ≠ 5 → c.own { b with v := v' } i = c.own b i := rown_but c 5 (fun e => absurd rfl e) (fun _ => rfl) (fun _ => rfl) (fun _ => rfl) (fun _ => rfl) (fun _ => rfl)
  have hc : c.own { b with v := v' } 5 = c.own b 5 ∨ ∀ g, c.own { b with v := v' } 5 = some g → w.heap.size ≤ g := by
    rcases hM.own with e | ⟨g, e, hg⟩
    · exact .inl e
    · exact .inr fun g' hg' => by rw [show c.own { b with v := v' } 5 = some g from e] at hg'; cases hg'; exact hg
  have hk : ∀ i g, i ≠ 1 → i ≠ 5 → c.own b i = some g → w'.heap[g]? = w.heap[g]? := fun i g h1 h5 hg => hM.block g (h.lt i hg).2 (fun e => h1 (h.sep.one i 1 g hg (by rw [e]; rfl))) (fun e => h5 (h.sep.one i 5 g hg e.symm))
  have hfr := rfr_of (w := w) hs hc
  have ok := h.ok
  refine ⟨{ b with v := v' }, ⟨⟨ok.k64, hI, ok.qi, ok.ql, ok.di, ok.s1, ok.s2, ok.W, ok.E, ok.el, ok.la, ok.no⟩, (hk 0 _ (by decide) (by decide) rfl).trans h.heap, hR, h.que.keep (hk 2 _ (by decide) (by decide) rfl) fun g => hk 6 g (by decide) (by decide), h.dou.keep (hk 3 _ (by decide) (by decide) rfl) fun g => hk 7 g (by decide) (by decide), h.rou.keep (hk 4 _ (by decide) (by decide) rfl) fun g => hk 8 g (by decide) (by decide), h.ws.keep fun g hg _ => hk 9 g (by decide) (by decide) hg, h.es.keep fun g hg _ => hk 10 g (by decide) (by decide) hg,
    h.sep.upd 5 h.one hM.size hs (hc.imp id fun e g hg => ⟨e g hg, ?_⟩), h.lots.keep (hM.block c.y h.lots.lt (fun e => (h.out 1 c.r rfl).1 e.symm) fun e => (h.out 5 c.y e.symm).1 rfl) ⟨hM.os, hM.tape, hM.output, hM.size, fun g hg => hM.block g (by have := h.lots.below.size; omega) (fun e => by have := (h.out 1 c.r rfl).2; omega) (fun e => by have := (h.out 5 g e.symm).2; omega)⟩, h.lok, h.outs hfr, h.arr, h.len⟩,
    ⟨hfr, hM.os, hM.tape, hM.output, hM.size, fun g hg _ hn => hM.block g hg (fun e => hn 1 (by rw [e]; rfl)) (fun e => hn 5 e.symm)⟩, rfl⟩
  obtain ⟨K, _, _, hf⟩ := hR
  exact (hf.row.lt g hg).2
theorem Ry.heap_put (h : Ry c b d m w) (j : Nat) (v : Value) : (w.setCell ⟨c.q, j, none⟩ v).heap[c.q]? = some (.cells ((c.cells b d).setIfInBounds j v) 63 (0, 0)) := by
  simp [World.setCell, Array.getElem?_modify, h.heap]
theorem Ry.setN (h : Ry c b d m w) (j : Nat) (v : Value) (hc : (c.cells b d).setIfInBounds j v = c.cells b d') (hok : d'.Ok c.k) (hf : d'.f = d.f) (hs : d'.s = d.s) (hQ : d'.Q = d.Q) (hDd : d'.D = d.D) (hW : d'.W = d.W) (hE : d'.E = d.E) :
    Ry c b d' m (w.setCell ⟨c.q, j, none⟩ v) ∧ Sr c b w b (w.setCell ⟨c.q, j, none⟩ v) := by
  have hb : ∀ g, g ≠ c.q → (w.setCell ⟨c.q, j, none⟩ v).heap[g]? = w.heap[g]? := fun g hg => Below.heap_setCell _ _ _ _ hg
  have hk : ∀ i g, i ≠ 0 → c.own b i = some g → (w.setCell ⟨c.q, j, none⟩ v).heap[g]? = w.heap[g]? := fun i g h0 hg => hb g (fun e => h0 (h.sep.one i 0 g hg (by rw [e]; rfl)))
  have hz : (w.setCell ⟨c.q, j, none⟩ v).heap.size = w.heap.size := by simp [World.setCell]
  refine ⟨⟨hok, by rw [h.heap_put, hc], by rw [hf]; exact h.roll.keep (hk 1 _ (by decide) rfl) fun g => hk 5 g (by decide), by rw [hQ]; exact h.que.keep (hk 2 _ (by decide) rfl) fun g => hk 6 g (by decide), by rw [hDd]; exact h.dou.keep (hk 3 _ (by decide) rfl) fun g => hk 7 g (by decide), by rw [hs]; exact h.rou.keep (hk 4 _ (by decide) rfl) fun g => hk 8 g (by decide), by rw [hW]; exact h.ws.keep fun g hg _ => hk 9 g (by decide) hg, by rw [hE]; exact h.es.keep fun g hg _ => hk 10 g (by decide) hg,
    by rw [hz]; exact h.sep, h.lots.keep (hb c.y fun e => (h.out 0 c.q rfl).1 e.symm) ((Below.refl _ _).setCell (p := ⟨c.q, j, none⟩) (h.out 0 c.q rfl).2 _), h.lok, h.out, h.arr, h.len⟩, ⟨fun _ _ hg => .inl hg, rfl, rfl, rfl, by rw [hz]; exact Nat.le_refl _, fun g _ _ hn => hb g fun e => hn 0 (by rw [e]; rfl)⟩⟩
theorem Ry.setW (h : Ry c b d m w) {v' : Value} {W' : List Wch} (ho : OwE encW 65 0 v' W' w') (hg : w.grownBy w' b.vw.ownBlock) (hv : v'.ownBlock = b.vw.ownBlock ∨ ∀ g, v'.ownBlock = some g → w.heap.size ≤ g) (hW : ∀ x ∈ W', WchOk x) :
    Ry c { b with vw := v' } { d with W := W' } m (w'.setCell ⟨c.q, 5, none⟩ v') ∧ Sr c b w { b with vw := v' } (w'.setCell ⟨c.q, 5, none⟩ v') := by
  have hs : ∀ i, i ≠ 9 → c.own { b with vw := v' } i = c.own b i := rown_but c 9 (fun _ => rfl) (fun _ => rfl) (fun _ => rfl) (fun _ => rfl) (fun e => absurd rfl e) (fun _ => rfl)
  have hc : c.own { b with vw := v' } 9 = c.own b 9 ∨ ∀ g, c.own { b with vw := v' } 9 = some g → w.heap.size ≤ g := hv
  have hz : (w'.setCell ⟨c.q, 5, none⟩ v').heap.size = w'.heap.size := by simp [World.setCell]
  have hb : ∀ g, g < w.heap.size → g ≠ c.q → b.vw.ownBlock ≠ some g → (w'.setCell ⟨c.q, 5, none⟩ v').heap[g]? = w.heap[g]? := fun g h1 h2 h3 => (Below.heap_setCell _ _ _ _ h2).trans (hg.block g h1 (fun e => h3 e.symm))
  have hk : ∀ i g, i ≠ 0 → i ≠ 9 → c.own b i = some g → (w'.setCell ⟨c.q, 5, none⟩ v').heap[g]? = w.heap[g]? := fun i g h0 h5 hg => hb g (h.lt i hg).2 (fun e => h0 (h.sep.one i 0 g hg (by rw [e]; rfl))) (fun e => h5 (h.sep.one i 9 g hg e))
  have hq' : w'.heap[c.q]? = w.heap[c.q]? := hg.block c.q h.qlt (fun e => by have := h.sep.one 0 9 c.q rfl e.symm; omega)
  have hh : (w'.setCell ⟨c.q, 5, none⟩ v').heap[c.q]? = some (.cells (c.cells { b with vw := v' } { d with W := W' }) 63 (0, 0)) := by
    simp [World.setCell, Array.getElem?_modify, hq', h.heap, Rc.cells]
  have hvq : ∀ g, v'.ownBlock = some g → g ≠ c.q := fun g e e' => by
    rcases hv with e2 | e2
    · rw [e2] at e; have := h.sep.one 9 0 g e (by rw [e']; rfl); omega
    · have := e2 g e; have := h.qlt; omega
  have hfr := rfr_of (w := w) hs hc
  have ok := h.ok
  refine ⟨⟨⟨ok.k64, ok.inv, ok.qi, ok.ql, ok.di, ok.s1, ok.s2, hW, ok.E, ok.el, ok.la, ok.no⟩, hh, h.roll.keep (hk 1 _ (by decide) (by decide) rfl) fun g => hk 5 g (by decide) (by decide), h.que.keep (hk 2 _ (by decide) (by decide) rfl) fun g => hk 6 g (by decide) (by decide), h.dou.keep (hk 3 _ (by decide) (by decide) rfl) fun g => hk 7 g (by decide) (by decide), h.rou.keep (hk 4 _ (by decide) (by decide) rfl) fun g => hk 8 g (by decide) (by decide), ho.keep fun g hg' _ => Below.heap_setCell _ _ _ _ (hvq g hg'), h.es.keep fun g hg _ => hk 10 g (by decide) (by decide) hg,
    h.sep.upd 9 h.one (by rw [hz]; exact hg.size) hs (hc.imp id fun e g hg' => ⟨e g hg', by rw [hz]; exact (ho.lt g hg').2⟩), h.lots.keep (hb c.y h.lots.lt (fun e => (h.out 0 c.q rfl).1 e.symm) (fun e => (h.out 9 c.y e).1 rfl)) ⟨hg.os, hg.tape, hg.output, by rw [hz]; exact hg.size, fun g hg' => hb g (by have := h.lots.below.size; omega) (fun e => by have := (h.out 0 c.q rfl).2; omega) (fun e => by have := (h.out 9 g e).2; omega)⟩, h.lok, h.outs hfr, h.arr, h.len⟩,
    ⟨hfr, hg.os, hg.tape, hg.output, by rw [hz]; exact hg.size, fun g hg' _ hn => hb g hg' (fun e => hn 0 (by rw [e]; rfl)) (hn 9)⟩⟩
theorem Ry.setE (h : Ry c b d m w) {v' : Value} {W' : List Ern} (ho : QuE encE 116 v' W' w') (hg : w.grownBy w' b.ve.ownBlock) (hv : v'.ownBlock = b.ve.ownBlock ∨ ∀ g, v'.ownBlock = some g → w.heap.size ≤ g) (hW : ∀ x ∈ W', ErnOk x) (hl : W'.length ≤ 32) :
    Ry c { b with ve := v' } { d with E := W' } m (w'.setCell ⟨c.q, 6, none⟩ v') ∧ Sr c b w { b with ve := v' } (w'.setCell ⟨c.q, 6, none⟩ v') := by
  have hs : ∀ i, i ≠ 10 → c.own { b with ve := v' } i = c.own b i := rown_but c 10 (fun _ => rfl) (fun _ => rfl) (fun _ => rfl) (fun _ => rfl) (fun _ => rfl) (fun e => absurd rfl e)
  have hc : c.own { b with ve := v' } 10 = c.own b 10 ∨ ∀ g, c.own { b with ve := v' } 10 = some g → w.heap.size ≤ g := hv
  have hz : (w'.setCell ⟨c.q, 6, none⟩ v').heap.size = w'.heap.size := by simp [World.setCell]
  have hb : ∀ g, g < w.heap.size → g ≠ c.q → b.ve.ownBlock ≠ some g → (w'.setCell ⟨c.q, 6, none⟩ v').heap[g]? = w.heap[g]? := fun g h1 h2 h3 => (Below.heap_setCell _ _ _ _ h2).trans (hg.block g h1 (fun e => h3 e.symm))
  have hk : ∀ i g, i ≠ 0 → i ≠ 10 → c.own b i = some g → (w'.setCell ⟨c.q, 6, none⟩ v').heap[g]? = w.heap[g]? := fun i g h0 h5 hg => hb g (h.lt i hg).2 (fun e => h0 (h.sep.one i 0 g hg (by rw [e]; rfl))) (fun e => h5 (h.sep.one i 10 g hg e))
  have hq' : w'.heap[c.q]? = w.heap[c.q]? := hg.block c.q h.qlt (fun e => by have := h.sep.one 0 10 c.q rfl e.symm; omega)
  have hh : (w'.setCell ⟨c.q, 6, none⟩ v').heap[c.q]? = some (.cells (c.cells { b with ve := v' } { d with E := W' }) 63 (0, 0)) := by
    simp [World.setCell, Array.getElem?_modify, hq', h.heap, Rc.cells]
  have hvq : ∀ g, v'.ownBlock = some g → g ≠ c.q := fun g e e' => by
    rcases hv with e2 | e2
    · rw [e2] at e; have := h.sep.one 10 0 g e (by rw [e']; rfl); omega
    · have := e2 g e; have := h.qlt; omega
  have hfr := rfr_of (w := w) hs hc
  have ok := h.ok
  refine ⟨⟨⟨ok.k64, ok.inv, ok.qi, ok.ql, ok.di, ok.s1, ok.s2, ok.W, hW, hl, ok.la, ok.no⟩, hh, h.roll.keep (hk 1 _ (by decide) (by decide) rfl) fun g => hk 5 g (by decide) (by decide), h.que.keep (hk 2 _ (by decide) (by decide) rfl) fun g => hk 6 g (by decide) (by decide), h.dou.keep (hk 3 _ (by decide) (by decide) rfl) fun g => hk 7 g (by decide) (by decide), h.rou.keep (hk 4 _ (by decide) (by decide) rfl) fun g => hk 8 g (by decide) (by decide), h.ws.keep fun g hg _ => hk 9 g (by decide) (by decide) hg, ho.keep fun g hg' _ => Below.heap_setCell _ _ _ _ (hvq g hg'),
    h.sep.upd 10 h.one (by rw [hz]; exact hg.size) hs (hc.imp id fun e g hg' => ⟨e g hg', by rw [hz]; exact QuE.lt_ ho hg'⟩), h.lots.keep (hb c.y h.lots.lt (fun e => (h.out 0 c.q rfl).1 e.symm) (fun e => (h.out 10 c.y e).1 rfl)) ⟨hg.os, hg.tape, hg.output, by rw [hz]; exact hg.size, fun g hg' => hb g (by have := h.lots.below.size; omega) (fun e => by have := (h.out 0 c.q rfl).2; omega) (fun e => by have := (h.out 10 g e).2; omega)⟩, h.lok, h.outs hfr, h.arr, h.len⟩,
    ⟨hfr, hg.os, hg.tape, hg.output, by rw [hz]; exact hg.size, fun g hg' _ hn => hb g hg' (fun e => hn 0 (by rw [e]; rfl)) (hn 10)⟩⟩
structure Ap (c : Rc) (b : Rw) (w w' : World) : Prop where
  os : w'.os = w.os
  tape : w'.tape = w.tape
  output : w'.output = w.output
  size : w.heap.size ≤ w'.heap.size
  block : ∀ g, g < w.heap.size → ¬ Off c b w g → w'.heap[g]? = w.heap[g]?
theorem Ap.refl (c : Rc) (b : Rw) (w : World) : Ap c b w w := ⟨rfl, rfl, rfl, Nat.le_refl _, fun _ _ _ => rfl⟩
theorem Ap.set (h : Ap c b w w') {g : Nat} (hg : Off c b w g ∨ w.heap.size ≤ g) (j : Nat) (v : Value) : Ap c b w (w'.setCell ⟨g, j, none⟩ v) :=
  ⟨h.os, h.tape, h.output, by simpa [World.setCell] using h.size, fun i hi hn => (Below.heap_setCell _ _ _ _ (show i ≠ g from fun e => by subst e; rcases hg with hg | hg; exact hn hg; omega)).trans (h.block i hi hn)⟩
theorem Ap.grown {w2 : World} {row : Option Nat} (h : Ap c b w w') (k : w'.grownBy w2 row) (hr : ∀ g, row = some g → Off c b w g ∨ w.heap.size ≤ g) : Ap c b w w2 :=
  ⟨k.os.trans h.os, k.tape.trans h.tape, k.output.trans h.output, Nat.le_trans h.size k.size, fun i hi hn => (k.block i (Nat.lt_of_lt_of_le hi h.size) (fun e => by rcases hr i e.symm with e | e; exact hn e; omega)).trans (h.block i hi hn)⟩
theorem Ry.apart (h : Ry c b d m w) (k : Ap c b w w') : Ry c b d m w' :=
  h.keep k.size (fun i g hg => k.block g (h.lt i hg).2 fun e => e.own i hg) (h.lots.keep (k.block c.y h.lots.lt fun e => e.y rfl) ⟨k.os, k.tape, k.output, k.size, fun g hg => k.block g (by have := h.lots.below.size; omega) fun e => by have := e.lo; omega⟩)
theorem Sr.high {w0 : World} (S : Sr c b w0 b' w) (hb : Below w0.heap.size w w') : Sr c b w0 b' w' :=
  ⟨S.fr, hb.os.trans S.os, hb.tape.trans S.tape, hb.output.trans S.output, Nat.le_trans S.size hb.size, fun g hg hy hn => (hb.block g hg).trans (S.block g hg hy hn)⟩
end
section
variable {N Bp p : Nat} {B : Nat → Bl} {F : Nat → Det} {l l' : List Int} {w w' : World} {i : Nat} {b' : Bl} {d' : Det} {g : Nat}
end
section
variable {N Bp p : Nat} {B : Nat → Bl} {F : Nat → Det} {l l' : List Int} {w w0 w1 w' : World} {i : Nat} {b' : Bl} {d' : Det} {v v' u : Value} {X Y : List NtX} {x : NtX}
end
section
variable {N p : Nat} {B : Nat → Bl} {w w0 w' : World} {i : Nat} {b' : Bl}
end
section
variable {k Bp p : Nat} {b b' : Bl} {d : Det} {l : List Int} {w w0 w' : World}
theorem Dt.sx (h : Dt k b d w) (hb : Below w.heap.size w w') (hl : Rn.Lt w.heap.size p l w') (hok : Rn.Ok l) : Sx k w.heap.size p b d l w' :=
  ⟨h.below hb, hl, hok, fun i g e => .inl (h.sep.lt i g e).2, h.tab.lt⟩
structure Und (p : Nat) (b : Bl) (w0 w : World) : Prop where
  below : Below w0.heap.size w0 w
  p : w0.heap.size ≤ p
  own : ∀ i g, b.own i = some g → w0.heap.size ≤ g
theorem Und.stp (h : Und p b w0 w) (s : Stp p b w b' w') : Und p b' w0 w' := by
  have hz := h.below.size
  refine ⟨⟨s.os.trans h.below.os, s.tape.trans h.below.tape, s.output.trans h.below.output, Nat.le_trans hz s.size, fun g hg => ?_⟩, h.p, fun i g e => ?_⟩
  · rw [s.block g (by omega) (fun e => by have := h.p; omega) (fun i e => by have := h.own i g e; omega), h.below.block g hg]
  · rcases s.fr i g e with ⟨j, hj⟩ | hj
    · exact h.own j g hj
    · omega
theorem OwE.atN {g cap : Nat} {T : TypeId} {B : Nat} {v : Value} {X : List NtX} (h : OwE encN T B v X w) (hv : v = .slice (some ⟨g, 0, none⟩) X.length cap) (j : Nat) (hj : j < X.length) :
    w.cell? ⟨g, j * 6, none⟩ = some (.int .i64 X[j].n.k) ∧ w.cell? ⟨g, j * 6 + 1, none⟩ = some (.int .i64 X[j].n.f) ∧ w.cell? ⟨g, j * 6 + 2, none⟩ = some (.int .i64 X[j].n.t) ∧ w.cell? ⟨g, j * 6 + 3, none⟩ = some (.int .u64 X[j].n.q) ∧ w.cell? ⟨g, j * 6 + 4, none⟩ = some (.int .i64 X[j].n.o) ∧ w.cell? ⟨g, j * 6 + 5, none⟩ = some (.slice X[j].a X[j].L X[j].c) := by
  obtain ⟨a, c, e, _, _, h3⟩ := h.rd
  rw [hv] at e; cases e
  rcases h3 with h3 | ⟨g', off, e, h3⟩
  · omega
  · cases e
    have h0 := fun c hc => h3 j c hj hc
    simp only [Nat.zero_add] at h0
    exact ⟨h0 0 (by decide), h0 1 (by decide), h0 2 (by decide), h0 3 (by decide), h0 4 (by decide), h0 5 (by decide)⟩
theorem map_one {α β : Type} {f : α → β} {X : List α} {y : β} (h : X.map f = [y]) : ∃ x, X = [x] ∧ f x = y := by
  cases X with
  | nil => cases h
  | cons x r =>
    cases r with
    | nil => exact ⟨x, rfl, by simpa using h⟩
    | cons z r => simp at h
theorem ok_nil : Rn.Ok [] := fun x hx => by cases hx
theorem rd_nil (w : World) : Rn.Rd .u64 (.slice none 0 0) [] w := ⟨none, 0, rfl, Nat.le_refl _, Nat.zero_le _, fun _ => rfl, Or.inl rfl⟩
end
set_option maxRecDepth 100000 in
set_option maxHeartbeats 4000000 in
theorem shown_any (w : World) (hT : Bnd.Tab w) : Calls Tryz.prog 8 #[] w fun e w' => e = .returned (.bool true) ∧ Below w.heap.size w w' := by
  have hn1 := dnew_any 1 w hT
  have hln := fun w => Rn.new_any (.slice none 0 0) [] w (Nat.zero_le _) (rd_nil w)
  go_enter Tryz.func8, Tryz.ntmps8
  go_upto_region 4 with (first
    | (go_at_call 9; go_must (refine hn1.mono ?_; rintro e w1 ⟨h1, _, b1⟩; obtain ⟨bA, rfl, hA, oA⟩ := h1 1 rfl (by decide)))
    | (go_at_call 11; go_must (refine (hln w1).mono ?_; rintro e w2 ⟨⟨p2, rfl, hL2⟩, b2⟩; have hA2 := hA.sx b2 hL2 ok_nil; have hkn := know_any hA2 ⟨2, 0, 0⟩ u0; rw [show (((1 : Nat) : Int)) = 1 from rfl, sh1] at hkn))
    | (go_at_call 17; go_must (refine hkn.mono ?_; rintro e w3 ⟨rfl, b3, hA3, s3⟩)))
  have hU2 : Und p2 bA w w2 := ⟨bT b1 b2, by have := b1.size; have := hL2.le; omega, oA⟩
  have hU3 := hU2.stp s3
  have hA3 : Dt 1 b3 shA w3 := hA3.dt
  have hqA : b3.q = bA.q := s3.q
  clear hn1 h1 hkn hA hA2 hL2 s3 hU2 b1 b2
  have bd3 := hU3.below
  have hz3 := bd3.size
  go_upto_region 5 with (first
    | (go_at_call 11; go_must (refine (hln w3).mono ?_; rintro e w4 ⟨⟨p4, rfl, hL4⟩, b4⟩; have hA4 := hA3.sx b4 hL4 ok_nil; have htk := tick_any hA4 (by rw [shW]; exact Nat.zero_le _); rw [hqA] at htk))
    | (go_at_call 13; go_must (refine htk.mono ?_; rintro e w5 ⟨v5, X5, b5, rfl, hs5, hX5, hA5, s5⟩)))
  have hU4 : Und p4 b3 w w4 := ⟨bT bd3 b4, by have := hL4.le; omega, hU3.own⟩
  have hU5 := hU4.stp s5
  rw [sh2] at hX5
  obtain ⟨x, rfl, hx⟩ := map_one hX5
  obtain ⟨a5, c5, rfl⟩ : ∃ a c, v5 = .slice a 1 c := by obtain ⟨a, cap, e, _⟩ := hs5.row.len; exact ⟨a, cap, e⟩
  obtain ⟨g5, rfl⟩ : ∃ g, a5 = some ⟨g, 0, none⟩ := by
    rcases hs5.row.2 with ⟨e, h0⟩ | ⟨g, cap, cur, e, _⟩
    · cases h0
    · cases e; exact ⟨g, rfl⟩
  obtain ⟨x0, x1, x2, x3, x4, x5⟩ := hs5.row.atN rfl 0 (by simp)
  have hnew := hs5.news x (by simp)
  obtain ⟨N, na, nl, nc⟩ := x
  obtain rfl : N = shN := hx
  dsimp only [List.getElem_cons_zero, shN] at x0 x1 x2 x3 x4 x5
  have bd5 := hU5.below
  clear hU4 hA3 hA4 htk b4 hL4 hU3 bd3 hX5 s5 hqA
  have hT5 : Bnd.Tab w5 := hT.below hT.lt bd5
  have hn2 := dnew_any 2 w5 hT5
  go_upto_region 8 with (go_at_call 9; go_must (refine hn2.mono ?_; rintro e w6 ⟨h1, _, b6⟩; obtain ⟨bC, rfl, hC, oC⟩ := h1 2 rfl (by decide)))
  have hg5 : g5 < w5.heap.size := (Array.getElem?_eq_some_iff.1 (owe_type hs5.row rfl).choose_spec).1
  have k6 : w6.heap[g5]? = w5.heap[g5]? := b6.block g5 hg5
  have y0 := (World.cell?_of_block (w := w5) (a := ⟨g5, 0, none⟩) k6).trans x0
  have y1 := (World.cell?_of_block (w := w5) (a := ⟨g5, 1, none⟩) k6).trans x1
  have y2 := (World.cell?_of_block (w := w5) (a := ⟨g5, 2, none⟩) k6).trans x2
  have y3 := (World.cell?_of_block (w := w5) (a := ⟨g5, 3, none⟩) k6).trans x3
  have y4 := (World.cell?_of_block (w := w5) (a := ⟨g5, 4, none⟩) k6).trans x4
  have y5 := (World.cell?_of_block (w := w5) (a := ⟨g5, 5, none⟩) k6).trans x5
  have hS6 := And.intro y0 (And.intro y1 (And.intro y2 (And.intro y3 (And.intro y4 y5))))
  have hz6 := b6.size
  have hnr := hnew.below b6
  have hnlt : ∀ g, (Value.slice na nl nc).ownBlock = some g → g < w5.heap.size := fun g e => (hnew.lt g e).2
  clear x0 x1 x2 x3 x4 x5 y0 y1 y2 y3 y4 y5 hn2 h1
  have hz5 := bd5.size
  go_region_held3 (fun w' => w'.cell? ⟨g5, 0, none⟩ = some (.int .i64 1) ∧ w'.cell? ⟨g5, 1, none⟩ = some (.int .i64 1) ∧ w'.cell? ⟨g5, 2, none⟩ = some (.int .i64 2) ∧ w'.cell? ⟨g5, 3, none⟩ = some (.int .u64 1) ∧ w'.cell? ⟨g5, 4, none⟩ = some (.int .i64 0) ∧ w'.cell? ⟨g5, 5, none⟩ = some (.slice na nl nc)) (first | exact hS6 | exact hS7 | exact hS8) ((first
    | (go_at_call 11; go_must (refine (hln _).mono ?_; rintro e w7 ⟨⟨p7, rfl, hL7⟩, b7⟩; have hC7 := hC.drew.sx b7 hL7 ok_nil; have k7 : w7.heap[g5]? = w6.heap[g5]? := b7.block g5 (Nat.lt_of_lt_of_le hg5 hz6); have hS7 := And.intro ((World.cell?_of_block (w := w6) (a := ⟨g5, 0, none⟩) k7).trans hS6.1) (And.intro ((World.cell?_of_block (w := w6) (a := ⟨g5, 1, none⟩) k7).trans hS6.2.1) (And.intro ((World.cell?_of_block (w := w6) (a := ⟨g5, 2, none⟩) k7).trans hS6.2.2.1) (And.intro ((World.cell?_of_block (w := w6) (a := ⟨g5, 3, none⟩) k7).trans hS6.2.2.2.1) (And.intro ((World.cell?_of_block (w := w6) (a := ⟨g5, 4, none⟩) k7).trans hS6.2.2.2.2.1) ((World.cell?_of_block (w := w6) (a := ⟨g5, 5, none⟩) k7).trans hS6.2.2.2.2.2)))))))
    | (go_at_call 15; go_must (refine (hear_any hC7 shN na nl nc (hnr.ru.keep fun g e hlt => b7.block g hlt) (.inr fun g e => ⟨by exact Nat.lt_of_lt_of_le (Nat.lt_of_lt_of_le (hnlt g e) hz6) b7.size, fun e' => by have := hnlt g e; have := hL7.le; have e6 : w6.drew.heap.size = w6.heap.size := rfl; omega, fun i e' => by have := hnlt g e; have := oC i g e'; omega⟩) (by decide) (by decide) (by rw [shW2]; exact Nat.zero_le _) ⟨by decide, by decide⟩).mono ?_; rintro e w8 ⟨v8, X8, b8, rfl, hs8, hX8, hC8, s8⟩; have k8 := s8.keep (g := g5) ⟨Nat.lt_of_lt_of_le (Nat.lt_of_lt_of_le hg5 hz6) b7.size, (fun e' => by have := hL7.le; have e6 : w6.drew.heap.size = w6.heap.size := rfl; omega), (fun i e' => by have := oC i g5 e'; omega)⟩; have hS8 := And.intro ((World.cell?_of_block (w := w7) (a := ⟨g5, 0, none⟩) k8).trans hS7.1) (And.intro ((World.cell?_of_block (w := w7) (a := ⟨g5, 1, none⟩) k8).trans hS7.2.1) (And.intro ((World.cell?_of_block (w := w7) (a := ⟨g5, 2, none⟩) k8).trans hS7.2.2.1) (And.intro ((World.cell?_of_block (w := w7) (a := ⟨g5, 3, none⟩) k8).trans hS7.2.2.2.1) (And.intro ((World.cell?_of_block (w := w7) (a := ⟨g5, 4, none⟩) k8).trans hS7.2.2.2.2.1) ((World.cell?_of_block (w := w7) (a := ⟨g5, 5, none⟩) k8).trans hS7.2.2.2.2.2)))))))))
  have hU7 : Und p7 bC w w7 := ⟨bT (bD (bT bd5 b6)) b7, by have := hL7.le; have e6 : w6.drew.heap.size = w6.heap.size := rfl; omega, fun i g e => by have := oC i g e; omega⟩
  have hU8 := hU7.stp s8
  have hk := sh4
  rw [← hX8] at hk
  obtain ⟨⟨n8, a8, l8, c8⟩, rfl, hn8⟩ := map_one (X := X8) (f := fun x => x.n.k) (by rw [← hk, List.map_map]; rfl)
  obtain ⟨a9, c9, rfl⟩ : ∃ a c, v8 = .slice a 1 c := by obtain ⟨a, cap, e, _⟩ := hs8.row.len; exact ⟨a, cap, e⟩
  obtain ⟨g8, rfl⟩ : ∃ g, a9 = some ⟨g, 0, none⟩ := by
    rcases hs8.row.2 with ⟨e, h0⟩ | ⟨g, cap, cur, e, _⟩
    · cases h0
    · cases e; exact ⟨g, rfl⟩
  obtain ⟨x0, _⟩ := hs8.row.atN rfl 0 (by simp)
  dsimp only [List.getElem_cons_zero] at x0 hn8
  rw [hn8] at x0
  have he8 := sh3
  have hall := dall_any hC8
  rw [show b8.q = bC.q from s8.q] at hall
  go_wp2_with (go_at_call 28; go_must (refine hall.mono ?_; rintro e w9 ⟨⟨v9, rfl, hO9⟩, b9⟩; obtain ⟨a9, c9', rfl⟩ : ∃ a c, v9 = .slice a 2 c := (by obtain ⟨a, cap, e, _⟩ := hO9.ru; rw [sh5] at e; exact ⟨a, cap, e⟩)))
  go_ret
  exact ⟨rfl, bT hU8.below b9⟩
end Go.Proofs.YtpoofjnfaijjjaaGreatDoor
namespace Go.Proofs.YtpoofjnfaijjjaaGreatDoor
open Go.RowKit Go.Deep Go.ChangeShapes Go.Proofs.YtpoofjnfaijjjaaGreatDoor.Ro
structure Ac where
  kind : Int
  x : NtX
  U : Upd
structure AcOk (A : Ac) : Prop where
  q : U64 A.x.n.q
  u : ∀ u ∈ A.x.n.u, U64 u.i
  U : U64 A.U.i
abbrev acC (A : Ac) : List Value := [.int .i64 A.kind, .int .i64 A.x.n.k, .int .i64 A.x.n.f, .int .i64 A.x.n.t, .int .u64 A.x.n.q, .int .i64 A.x.n.o, .slice A.x.a A.x.L A.x.c, .int .i64 A.U.n, .int .u64 A.U.i, .int .i64 A.U.s]
theorem u64_of {n : Int} (h : (Lit.int .u64 n).wf = true) : U64 n := by simpa [Lit.wf, IntKind.min, IntKind.max, IntKind.signed, IntKind.bits, U64] using h
def Ra (v : Value) (l : List Ac) (w : World) : Prop :=
  ∃ a cap, v = .slice a l.length cap ∧ (l.length = 0 ∨ ∃ g off, a = some ⟨g, off, none⟩ ∧ ∀ j (hj : j < l.length) c v, (acC l[j])[c]? = some v → w.cell? ⟨g, off + j * 10 + c, none⟩ = some v)
def IsActs (w : World) (a : Option Addr) (len cap : Nat) (l : List Ac) : Prop := l.length = len ∧ Ra (.slice a len cap) l w ∧ ∀ A ∈ l, AcOk A ∧ Ro.Ru (.slice A.x.a A.x.L A.x.c) A.x.n.u w
section
variable {H : Type} {enc : TypeId × Value → H} {w : World}
theorem trod_upds {n : Nat} {v : Value} {x : DataW H × List MemPlace} (h : DataW.trod enc Tryz.prog w 0 (fun _ => true) true n 35 [v] = some x) :
    ∃ a L c l, v = .slice a L c ∧ Ro.Ru (.slice a L c) l w ∧ ∀ u ∈ l, U64 u.i := by
  have hv : ∃ a L c, v = .slice a L c := by
    rcases open_slice Tryz.underlying35 h with ⟨hcs, _⟩ | ⟨a', l', c', m, n, D, Pl, hcs, _⟩
    · exact ⟨_, _, _, by simpa using hcs⟩
    · exact ⟨_, _, _, by simpa using hcs⟩
  obtain ⟨a, L, c, rfl⟩ := hv
  obtain ⟨l, h1, h2, h3⟩ := open_upds ⟨n, h⟩
  exact ⟨a, L, c, l, rfl, h2, fun u hu => u64_of (h3 u hu).i⟩
set_option maxRecDepth 100000 in
theorem trod_note {n : Nat} {cs : List Value} {x : DataW H × List MemPlace} (h : DataW.trod enc Tryz.prog w 0 (fun _ => true) true n 37 cs = some x) :
    ∃ N : NtX, U64 N.n.q ∧ (∀ u ∈ N.n.u, U64 u.i) ∧ Ro.Ru (.slice N.a N.L N.c) N.n.u w ∧ cs = [.int .i64 N.n.k, .int .i64 N.n.f, .int .i64 N.n.t, .int .u64 N.n.q, .int .i64 N.n.o, .slice N.a N.L N.c] := by
  have hc : Tryz.prog.cellsOf 37 = 6 := by kernel_rfl
  have hc3 : Tryz.prog.cellsOf 3 = 1 := by kernel_rfl
  have hcu : Tryz.prog.cellsOf 34 = 1 := by kernel_rfl
  have hcs : Tryz.prog.cellsOf 35 = 1 := by kernel_rfl
  obtain ⟨xs, m, _, _, hlen, hxl, hf⟩ := DataW.trod_struct Tryz.underlying37 h
  rw [hc] at hlen
  match cs, hlen with
  | [a, b, c, d, e, f], _ =>
    match xs, hxl with
    | [y0, y1, y2, y3, y4, y5], _ =>
      have f0 := hf 0 _ rfl
      have f1 := hf 1 _ rfl
      have f2 := hf 2 _ rfl
      have f3 := hf 3 _ rfl
      have f4 := hf 4 _ rfl
      have f5 := hf 5 _ rfl
      simp [hc3, hcu, hcs] at f0 f1 f2 f3 f4 f5
      obtain ⟨n0, rfl, _⟩ := trod_one Tryz.underlying3 f0
      obtain ⟨n1, rfl, _⟩ := trod_one Tryz.underlying3 f1
      obtain ⟨n2, rfl, _⟩ := trod_one Tryz.underlying3 f2
      obtain ⟨n3, rfl, w3⟩ := trod_one Tryz.underlying34 f3
      obtain ⟨n4, rfl, _⟩ := trod_one Tryz.underlying3 f4
      obtain ⟨a, L, c, l, rfl, r, hu⟩ := trod_upds f5
      exact ⟨⟨⟨n0, n1, n2, n3, n4, l⟩, a, L, c⟩, u64_of w3, hu, r, rfl⟩
set_option maxRecDepth 100000 in
theorem trod_act {n : Nat} {cs : List Value} {x : DataW H × List MemPlace} (h : DataW.trod enc Tryz.prog w 0 (fun _ => true) true n 41 cs = some x) :
    ∃ A : Ac, AcOk A ∧ Ro.Ru (.slice A.x.a A.x.L A.x.c) A.x.n.u w ∧ cs = acC A := by
  have hc : Tryz.prog.cellsOf 41 = 10 := by kernel_rfl
  have hcN : Tryz.prog.cellsOf 37 = 6 := by kernel_rfl
  have hcU : Tryz.prog.cellsOf 39 = 3 := by kernel_rfl
  have hc3 : Tryz.prog.cellsOf 3 = 1 := by kernel_rfl
  have hcu : Tryz.prog.cellsOf 34 = 1 := by kernel_rfl
  obtain ⟨xs, m, _, _, hlen, hxl, hf⟩ := DataW.trod_struct Tryz.underlying41 h
  rw [hc] at hlen
  match cs, hlen with
  | [c0, c1, c2, c3, c4, c5, c6, c7, c8, c9], _ =>
    match xs, hxl with
    | [y0, y1, y2], _ =>
      have f0 := hf 0 _ rfl
      have f1 := hf 1 _ rfl
      have f2 := hf 2 _ rfl
      simp [hcN, hcU, hc3] at f0 f1 f2
      obtain ⟨n0, rfl, _⟩ := trod_one Tryz.underlying3 f0
      obtain ⟨N, hq, hu, hr, e⟩ := trod_note f1
      simp at e
      obtain ⟨rfl, rfl, rfl, rfl, rfl, rfl⟩ := e
      obtain ⟨z0, z1, z2, m', _, _, g0, g1, g2⟩ := trod_struct3 Tryz.underlying39 f2
      simp [hc3, hcu] at g0 g1 g2
      obtain ⟨n1, rfl, _⟩ := trod_one Tryz.underlying3 g0
      obtain ⟨n2, rfl, w2⟩ := trod_one Tryz.underlying34 g1
      obtain ⟨n3, rfl, _⟩ := trod_one Tryz.underlying3 g2
      exact ⟨⟨n0, N, ⟨n1, n2, n3⟩⟩, ⟨hq, hu, u64_of w2⟩, hr, rfl⟩
end
theorem open_acts {H : Type} {enc : TypeId × Value → H} {W : World} {a : Option Addr} {len cap : Nat} {d : DataW H} {ps : List MemPlace} (h : DataW.Trod enc Tryz.prog W 0 (fun _ => true) true 23 (.slice a len cap) d ps) : ∃ l, IsActs W a len cap l := by
  obtain ⟨fuel, hf0⟩ := h
  have hf : DataW.trod enc Tryz.prog W 0 (fun _ => true) true fuel 23 [.slice a len cap] = some (d, ps) := hf0
  have hC : Tryz.prog.cellsOf 41 = 10 := by kernel_rfl
  rcases open_slice Tryz.underlying23 hf with ⟨hcs, _⟩ | ⟨a', l', c', m, n, D, Pl, hcs, _, hlc, hm, hmm, _, hel⟩
  · simp at hcs
    obtain ⟨rfl, rfl, rfl⟩ := hcs
    exact ⟨[], rfl, ⟨_, _, rfl, Or.inl rfl⟩, fun u hu => by cases hu⟩
  · simp at hcs
    obtain ⟨rfl, rfl, rfl⟩ := hcs
    simp at hmm
    subst hmm
    rw [hC] at hel
    have key : ∀ j, ∃ A : Ac, j < len → AcOk A ∧ Ro.Ru (.slice A.x.a A.x.L A.x.c) A.x.n.u W ∧ ∀ c v, (acC A)[c]? = some v → W.cell? ((a'.add (j * 10)).add c) = some v := by
      intro j
      by_cases hj : j < len
      · obtain ⟨cs', hc, hy⟩ := hel j (by omega)
        obtain ⟨_, hlen, hcell⟩ := World.cells?_some hc
        obtain ⟨A, h1, hr, h2⟩ := trod_act hy
        refine ⟨A, fun _ => ⟨h1, hr, fun c v hv => ?_⟩⟩
        have hc6 : c < 10 := (List.getElem?_eq_some_iff.1 hv).1
        rw [hcell c hc6, h2]
        exact hv
      · exact ⟨⟨0, ⟨⟨0, 0, 0, 0, 0, []⟩, none, 0, 0⟩, ⟨0, 0, 0⟩⟩, fun h => absurd h hj⟩
    obtain ⟨f, hf⟩ : ∃ f : Nat → Ac, ∀ j, j < len → AcOk (f j) ∧ Ro.Ru (.slice (f j).x.a (f j).x.L (f j).x.c) (f j).x.n.u W ∧ ∀ c v, (acC (f j))[c]? = some v → W.cell? ((a'.add (j * 10)).add c) = some v :=
      ⟨fun j => Classical.choose (key j), fun j hj => Classical.choose_spec (key j) hj⟩
    clear key
    refine ⟨(List.range len).map f, by simp, ⟨_, _, by simp; exact ⟨rfl, rfl⟩, ?_⟩, fun u hu => ?_⟩
    · rcases Nat.eq_zero_or_pos len with h0 | h0
      · exact Or.inl (by simpa using h0)
      · right
        obtain ⟨b, off, spot⟩ := a'
        have hspot : spot = none := by
          have := (hf 0 h0).2.2 0 _ rfl
          simpa [Addr.add] using World.cell?_spot this
        subst hspot
        refine ⟨b, off, rfl, fun j hj => ?_⟩
        simp at hj
        have hs := (hf j hj).2.2
        simp only [List.getElem_map, List.getElem_range]
        simp only [add_flat] at hs
        exact hs
    · obtain ⟨j, hj, rfl⟩ := List.mem_map.1 hu
      have := hf j (List.mem_range.1 hj)
      exact ⟨this.1, this.2.1⟩
theorem Ra.at_ {a : Option Addr} {len cap : Nat} {l : List Ac} {w : World} (h : Ra (.slice a len cap) l w) {j : Nat} (hj : j < l.length) : ∃ g off, a = some ⟨g, off, none⟩ ∧ g < w.heap.size ∧ ∀ c v, (acC l[j])[c]? = some v → w.cell? ⟨g, off + j * 10 + c, none⟩ = some v := by
  obtain ⟨_, _, e, h3⟩ := h
  cases e
  rcases h3 with h3 | ⟨g, off, rfl, h3⟩
  · omega
  · exact ⟨g, off, rfl, World.block_lt_of_cell? _ _ (h3 j hj 0 _ rfl), h3 j hj⟩
end Go.Proofs.YtpoofjnfaijjjaaGreatDoor
