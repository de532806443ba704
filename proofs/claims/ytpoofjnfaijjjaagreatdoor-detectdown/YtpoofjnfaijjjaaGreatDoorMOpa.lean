/-
  A row of which the first ones may be gone: what an append to it does. Several detectors side by side, that draw from the same lots: a cluster. What is shown: that a ping is answered. What happens to a detector: a slice of acts, opened.
-/
import Derived.Test.YtpoofjnfaijjjaaGreatDoorMLou
import Derived.Deep.AppendSrc
import Derived.Deep.Upon
import Derived.Deep.MidRow
import Derived.Test.YtpoofjnfaijjjaaGreatDoorMFlt
import Derived.Test.YtpoofjnfaijjjaaGreatDoorMNic
import Derived.Test.YtpoofjnfaijjjaaGreatDoorMHlp
import Derived.Test.YtpoofjnfaijjjaaGreatDoorMTik
import Derived.ProofKit
import Derived.OpenShut
namespace Go.Proofs.YtpoofjnfaijjjaaGreatDoor
open Go.RowKit Go.Proofs.YtpoofjnfaijjjaaGreatDoor.Ro
section
variable {α : Type}
/-- The slice v holds l, with room behind it, in a block of its own type. -/
def QuE (E : Enc α) (T : TypeId) (v : Value) (l : List α) (w : World) : Prop :=
  ∃ a cap, v = .slice a l.length cap ∧ l.length ≤ cap ∧ cap ≤ maxLen ∧ ((a = none ∧ cap = 0) ∨ ∃ g o, a = some ⟨g, o, none⟩ ∧ (∃ cur, w.heap[g]? = some (.cells cur T (0, 0))) ∧ (∀ j, j < cap * E.sz → (w.cell? ⟨g, o + j, none⟩).isSome = true) ∧ ∀ j u, (E.flat l)[j]? = some u → w.cell? ⟨g, o + j, none⟩ = some u)
variable {E : Enc α} {T : TypeId} {v : Value} {l r : List α} {w w' : World}
theorem OwE.qu {B : Nat} (h : OwE E T B v l w) : QuE E T v l w := by
  rcases h.2 with ⟨rfl, h0⟩ | ⟨g, cap, cur, rfl, hb, hg, h1, h2, h3, h4⟩
  · exact ⟨none, 0, by rw [h0], by omega, Nat.zero_le _, .inl ⟨rfl, rfl⟩⟩
  · refine ⟨_, cap, rfl, h1, h2, .inr ⟨g, 0, rfl, ⟨cur, hg⟩, fun j hj => ?_, fun j u hu => ?_⟩⟩
    · have hlt : j < cur.size := by rw [h3]; exact hj
      simp only [World.cell?, hg, Nat.zero_add]
      rw [Array.getElem?_eq_getElem hlt]
      rfl
    · have k := World.ownsRow.cells h (g := g) rfl _ _ hu
      rw [Ro.add_off] at k
      exact k
theorem QuE.len (h : QuE E T v l w) : ∃ a cap, v = .slice a l.length cap ∧ l.length ≤ cap ∧ cap ≤ maxLen := by
  obtain ⟨a, cap, e, h1, h2, _⟩ := h
  exact ⟨a, cap, e, h1, h2⟩
theorem QuE.type (h : QuE E T v l w) {g : Nat} (hg : v.ownBlock = some g) : ∃ cur, w.heap[g]? = some (.cells cur T (0, 0)) := by
  obtain ⟨a, cap, rfl, _, _, ⟨rfl, _⟩ | ⟨g', o, rfl, hc, _⟩⟩ := h
  · cases hg
  · cases hg; exact hc
theorem QuE.keep (h : QuE E T v l w) (hw : ∀ g, v.ownBlock = some g → g < w.heap.size → w'.heap[g]? = w.heap[g]?) : QuE E T v l w' := by
  obtain ⟨a, cap, rfl, h1, h2, h3⟩ := h
  refine ⟨a, cap, rfl, h1, h2, ?_⟩
  rcases h3 with h3 | ⟨g, o, rfl, ⟨cur, hc⟩, hs, hu⟩
  · exact .inl h3
  · have e := hw g rfl (Array.getElem?_eq_some_iff.1 hc).1
    have ec : ∀ j, w'.cell? ⟨g, j, none⟩ = w.cell? ⟨g, j, none⟩ := fun j => World.cell?_of_block (w := w) (a := ⟨g, j, none⟩) e
    exact .inr ⟨g, o, rfl, ⟨cur, e.trans hc⟩, fun j hj => by rw [ec]; exact hs j hj, fun j u hj => by rw [ec]; exact hu j u hj⟩
theorem QuE.below (h : QuE E T v l w) (b : Below w.heap.size w w') : QuE E T v l w' := h.keep fun g _ hg => b.block g hg
/-- The first one's cells. -/
theorem QuE.head {x : α} (h : QuE E T v (x :: r) w) : ∃ g o cap, v = .slice (some ⟨g, o, none⟩) (r.length + 1) cap ∧ ∀ c u, (E.enc x)[c]? = some u → w.cell? ⟨g, o + c, none⟩ = some u := by
  obtain ⟨a, cap, rfl, h1, h2, ⟨rfl, h3⟩ | ⟨g, o, rfl, _, _, hu⟩⟩ := h
  · simp at h1; omega
  · refine ⟨g, o, cap, rfl, fun c u hc => hu c u ?_⟩
    show (E.enc x ++ E.flat r)[c]? = some u
    rw [List.getElem?_append_left (List.getElem?_eq_some_iff.1 hc).1]
    exact hc
/-- Behind the first one. -/
theorem QuE.tail {x : α} {a : Option Addr} {n cap : Nat} (h : QuE E T (.slice a n cap) (x :: r) w) : QuE E T (sliced a 1 n cap E.sz) r w := by
  obtain ⟨a', cap', e, h1, h2, h3⟩ := h
  injection e with e1 e2 e3
  subst e1 e3
  rw [List.length_cons] at e2 h1
  subst e2
  unfold sliced
  by_cases hc : cap = 1
  · subst hc
    have hr : r.length = 0 := by omega
    obtain rfl := List.length_eq_zero_iff.1 hr
    rw [if_pos rfl]
    refine ⟨a, 0, rfl, Nat.le_refl _, Nat.zero_le _, ?_⟩
    rcases h3 with ⟨rfl, h3⟩ | ⟨g, o, rfl, hcur, hs, hu⟩
    · cases h3
    · exact .inr ⟨g, o, rfl, hcur, (fun j hj => by rw [Nat.zero_mul] at hj; cases hj), (fun j u hj => by cases hj)⟩
  · rw [if_neg hc]
    rcases h3 with ⟨rfl, h3⟩ | ⟨g, o, rfl, hcur, hs, hu⟩
    · omega
    · refine ⟨_, cap - 1, by rw [Nat.add_sub_cancel], by omega, by omega, .inr ⟨g, o + 1 * E.sz, ?_, hcur, fun j hj => ?_, fun j u hj => ?_⟩⟩
      · show some (Addr.add _ _) = _
        rw [Ro.add_off]
      · have := hs (1 * E.sz + j) (by
          have e : cap * E.sz = (cap - 1) * E.sz + 1 * E.sz := by rw [← Nat.add_mul]; congr 1; omega
          omega)
        rwa [← Nat.add_assoc] at this
      · have := hu (1 * E.sz + j) u (by
          show (E.enc x ++ E.flat r)[1 * E.sz + j]? = some u
          rw [List.getElem?_append_right (by rw [E.len x]; omega), E.len x]
          rw [show 1 * E.sz + j - E.sz = j by omega]
          exact hj)
        rwa [← Nat.add_assoc] at this
theorem size_setCellsQ (g : Nat) : ∀ (vs : List Value) (o : Nat) (w : World), (w.setCells g o vs).heap.size = w.heap.size
  | [], _, _ => rfl
  | x :: vs, o, w => by
    rw [World.setCells, size_setCellsQ g vs (o + 1)]
    simp [World.setCell]
theorem tape_setCellsQ (g : Nat) : ∀ (vs : List Value) (o : Nat) (w : World), (w.setCells g o vs).tape = w.tape
  | [], _, _ => rfl
  | x :: vs, o, w => by
    rw [World.setCells, tape_setCellsQ g vs (o + 1)]
    rfl
theorem setCells_type (g : Nat) : ∀ (vs : List Value) (o : Nat) (w : World), (∃ cur, w.heap[g]? = some (.cells cur T (0, 0))) → ∃ cur, (w.setCells g o vs).heap[g]? = some (.cells cur T (0, 0))
  | [], _, _, h => h
  | x :: vs, o, w, ⟨cur, h⟩ => by
    rw [World.setCells]
    exact setCells_type g vs (o + 1) _ ⟨_, by simp [World.setCell, Array.getElem?_modify, h]; rfl⟩
/-- What an append to it does. -/
theorem run_appQ {ST ty : TypeId} {z : Value} {bytes C : Nat} {u : Value} (hST : Tryz.prog.underlying ST = some (.slice T)) (hinfo : (Tryz.prog.info? T).map (fun i => (i.zero, i.size, i.bytes)) = some (some z, E.sz, bytes)) (hz : z.cells.size = E.sz) (hby : bytes ≤ 1000)
    (h : QuE E T v l w) (hu : OwE E T C u r w) (hl : l.length + r.length ≤ 1000000) :
    ∃ v' w', (Builtin.append_ #[ST, ST] ty #[v, u]).run Tryz.prog w = .ok v' w' ∧ QuE E T v' (l ++ r) w' ∧ w.grownBy w' v.ownBlock ∧ (v'.ownBlock = v.ownBlock ∨ v'.ownBlock = some w.heap.size) := by
  obtain ⟨i0, hi, hz0, hz1, hz2⟩ := info_parts hinfo
  obtain ⟨a, cap, rfl, h1, h2, h3⟩ := id h
  have same : w.grownBy w (Value.slice a l.length cap).ownBlock := ⟨rfl, rfl, rfl, Nat.le_refl _, fun _ _ _ => rfl⟩
  have hsrc : Src Tryz.prog i0.size ST u r.length (E.flat r) w := by
    rw [hz1]
    rcases id hu.2 with ⟨rfl, h0⟩ | ⟨g, c, cur, rfl, _⟩
    · obtain rfl : r = [] := List.length_eq_zero_iff.1 h0
      exact Src.ofNil w hST 0
    · exact Src.ofSlice w hST ⟨g, 0, none⟩ r.length c (E.flat r) (E.flat_length r) hu.rd.cells (E.flat_cell r)
  by_cases hr : r.length = 0
  · obtain rfl : r = [] := List.length_eq_zero_iff.1 hr
    exact ⟨_, w, run_append_nothing w ST ST ty T i0 hST hi a l.length cap h1 u hsrc, by rw [List.append_nil]; exact h, same, .inl rfl⟩
  by_cases hroom : l.length + r.length ≤ cap
  · rcases h3 with ⟨rfl, h3⟩ | ⟨g, o, rfl, hcur, hs, hul⟩
    · omega
    · have hcell : ∀ j, j < (E.flat r).length → (w.cell? ⟨g, o + l.length * E.sz + j, none⟩).isSome = true := fun j hj => by
        rw [E.flat_length] at hj
        rw [Nat.add_assoc]
        refine hs _ ?_
        have := Nat.mul_le_mul_right E.sz hroom
        rw [Nat.add_mul] at this
        omega
      have hfz : ∀ j, w.frozen? ⟨g, j, none⟩ = false := fun j => by obtain ⟨cur, hc⟩ := hcur; exact free_of hc j
      have hrun := run_append_room_src w ST ST ty T i0 hST hi g o l.length cap u r.length (E.flat r) hsrc hroom (by rw [hz1]; exact hcell) (fun j _ => hfz _)
      rw [hz1] at hrun
      refine ⟨_, _, hrun, ⟨some ⟨g, o, none⟩, cap, by rw [List.length_append], by rw [List.length_append]; exact hroom, h2, .inr ⟨g, o, rfl, setCells_type g _ _ _ hcur, fun j hj => World.isSome_setCells g _ _ _ _ (hs j hj), fun j x hx => ?_⟩⟩, ⟨?_, ?_, ?_, ?_, ?_⟩, .inl rfl⟩
      · rw [E.flat_append] at hx
        by_cases hj : j < (E.flat l).length
        · rw [List.getElem?_append_left hj] at hx
          rw [World.cell?_setCells_out g _ _ w ⟨g, o + j, none⟩ (fun _ _ => .inl (by show o + j < _; rw [E.flat_length] at hj; omega))]
          exact hul j x hx
        · rw [List.getElem?_append_right (by omega), E.flat_length] at hx
          have hjr := (List.getElem?_eq_some_iff.1 hx).1
          have k := World.cell?_setCells_in g (E.flat r) (o + l.length * E.sz) w hcell (j - l.length * E.sz) hjr
          rw [E.flat_length] at hj
          rw [show o + l.length * E.sz + (j - l.length * E.sz) = o + j by omega] at k
          rw [k, ← hx, List.getElem?_eq_getElem hjr]
      · exact World.os_setCells w g _ _
      · exact tape_setCellsQ g _ _ w
      · exact World.output_setCells w g _ _
      · exact Nat.le_of_eq (size_setCellsQ g _ _ _).symm
      · intro k hk hne
        exact World.heap_setCells_other w g _ _ hk (fun e => hne (by rw [e]; rfl))
  · have hold : (Builtin.firstCells i0.size l.length (.slice a l.length cap)).run Tryz.prog w.drew = .ok (E.flat l).toArray w.drew := by
      rcases h3 with ⟨rfl, h3⟩ | ⟨g, o, rfl, _, _, hul⟩
      · obtain rfl : l = [] := List.length_eq_zero_iff.1 (by omega)
        exact run_firstCells_none w.drew _ _ _ _
      · exact run_firstCells_some w.drew i0.size l.length ⟨g, o, none⟩ l.length cap (E.flat l) (by rw [hz1]; exact E.flat_length l) (fun j x hx => by rw [Ro.add_off]; exact hul j x hx)
    have hrun := run_append_grow_src w ST ST ty T i0 z hST hi hz0 a l.length cap (E.flat l) hold u r.length (E.flat r) hsrc (by omega) (by omega) (growslice_fits (by omega) (Nat.le_trans (Nat.mul_le_mul hl (by rw [hz2]; exact hby)) (by decide)))
    have hge := grownCap_ge w (l.length + r.length) cap T
    have hcm : grownCap w (l.length + r.length) cap T ≤ maxLen := grownCap_le_maxLen w _ cap T (by unfold maxLen; omega)
    refine ⟨_, _, hrun, OwE.qu (B := w.heap.size) ?_, ⟨rfl, rfl, rfl, by simp, fun k hk _ => heap_alloc_old w.drew _ hk⟩, .inr rfl⟩
    unfold OwE
    have hlen : (E.flat (l ++ r)).length = (l ++ r).length * E.sz := E.flat_length _
    rw [List.length_append] at hlen ⊢
    refine ⟨hlen, .inr ⟨w.heap.size, _, _, rfl, Nat.le_refl _, heap_alloc_new w.drew _, hge, hcm, ?_, ?_⟩⟩
    · rw [Array.size_append, List.size_toArray, List.length_append, size_zeroCells, hz, E.flat_length, E.flat_length, ← Nat.add_mul, ← Nat.add_mul, Nat.add_sub_cancel' hge]
    · rw [E.flat_append] at hlen ⊢
      simp only [Array.toList_append, List.append_assoc]
      rw [← List.append_assoc, ← hlen]
      exact List.take_left
theorem wpList_appQ {ops : Array Oper} {rest : List Oper} {o : Oper} {a : Act} {Q : Exit → Act → World → Prop} {ST : TypeId} {z : Value} {bytes C : Nat} (hST : Tryz.prog.underlying ST = some (.slice T)) (hinfo : (Tryz.prog.info? T).map (fun i => (i.zero, i.size, i.bytes)) = some (some z, E.sz, bytes)) (hz : z.cells.size = E.sz) (hby : bytes ≤ 1000) (w : World) (hgd : o.guard = none) (s x : Operand)
    (ho : o.op = .call { callee := .builtin .append, args := #[s, x], argTypes := #[ST, ST] }) (v u : Value) (l r : List α) (hs : a.eval s = v) (hown : QuE E T v l w) (hx : a.eval x = u) (hu : OwE E T C u r w) (hl : l.length + r.length ≤ 1000000)
    (h : ∀ v' w', QuE E T v' (l ++ r) w' → w.grownBy w' v.ownBlock → (v'.ownBlock = v.ownBlock ∨ v'.ownBlock = some w.heap.size) → wpList Tryz.prog ops Q rest (a.put o.dst v') w') : wpList Tryz.prog ops Q (o :: rest) a w := by
  refine wpList_plain hgd fun _ hK => ?_
  obtain ⟨v', w', hr, h1, h2, h3⟩ := run_appQ (ty := o.type) hST hinfo hz hby hown hu hl
  unfold Oper.wp execOp
  simp only [ho, resolve, invoke, builtin, Sem.run_bind, Sem.run_pure, Result.andThen_ok, List.map_toArray, List.map_cons, List.map_nil, hs, hx, hr]
  exact hK _ _ (h v' w' h1 h2 h3)
end
end Go.Proofs.YtpoofjnfaijjjaaGreatDoor
namespace Go.Proofs.YtpoofjnfaijjjaaGreatDoor
open Go.RowKit Go.Proofs.YtpoofjnfaijjjaaGreatDoor.Ro
/-- One value of a family is another one. -/
def putF {α : Type} (f : Nat → α) (i : Nat) (x : α) : Nat → α := fun j => if j = i then x else f j
theorem putF_same {α : Type} (f : Nat → α) (i : Nat) (x : α) : putF f i x i = x := by simp [putF]
theorem putF_other {α : Type} (f : Nat → α) {i j : Nat} (x : α) (h : j ≠ i) : putF f i x j = f j := by simp [putF, h]
theorem putF_id {α : Type} (f : Nat → α) (i : Nat) : putF f i (f i) = f := by
  funext j
  by_cases h : j = i
  · subst h; exact putF_same _ _ _
  · exact putF_other _ _ h
/-- The detectors of the nodes below N; the lots l lie behind the pointer to block p. -/
structure Cl (N Bp p : Nat) (B : Nat → Bl) (F : Nat → Det) (l : List Int) (w : World) : Prop where
  dt : ∀ i, i < N → Dt i (B i) (F i) w
  lots : Rn.Lt Bp p l w
  lok : Rn.Ok l
  out : ∀ i, i < N → ∀ x g, (B i).own x = some g → g < Bp ∨ p < g
  low : 1 < Bp
  sep : ∀ i j, i < N → j < N → ∀ x y g, (B i).own x = some g → (B j).own y = some g → i = j
/-- No step of any of them touches block g. -/
structure Far (N p : Nat) (B : Nat → Bl) (w : World) (g : Nat) : Prop where
  lt : g < w.heap.size
  p : g ≠ p
  own : ∀ i, i < N → ∀ x, (B i).own x ≠ some g
section
variable {N Bp p : Nat} {B : Nat → Bl} {F : Nat → Det} {l l' : List Int} {w w' : World} {i : Nat} {b' : Bl} {d' : Det} {g : Nat}
theorem Cl.sx (h : Cl N Bp p B F l w) (hi : i < N) : Sx i Bp p (B i) (F i) l w := ⟨h.dt i hi, h.lots, h.lok, h.out i hi, h.low⟩
theorem Cl.step (h : Cl N Bp p B F l w) (hi : i < N) (hs : Sx i Bp p b' d' l' w') (st : Stp p (B i) w b' w') : Cl N Bp p (putF B i b') (putF F i d') l' w' := by
  have hp : ∀ j, j < N → ∀ x g, (B j).own x = some g → g ≠ p := fun j hj x g e e' => by
    have := h.out j hj x g e
    have := h.lots.le
    omega
  refine ⟨fun j hj => ?_, hs.lots, hs.lok, fun j hj x g e => ?_, h.low, fun a c ha hc x y g ea ec => ?_⟩
  · by_cases e : j = i
    · subst e; rw [putF_same, putF_same]; exact hs.dt
    · rw [putF_other _ _ e, putF_other _ _ e]
      have hj' := h.dt j hj
      exact hj'.keep st.size (fun x g hg => st.block g (hj'.sep.lt x g hg).2 (hp j hj x g hg) fun y hy => e (h.sep j i hj hi x y g hg hy))
        (st.block 1 hj'.tab.lt (fun e' => by have := h.low; have := h.lots.le; omega) fun y hy => by have := ((h.dt i hi).sep.lt y 1 hy).1; omega)
  · by_cases e' : j = i
    · subst e'; rw [putF_same] at e; exact hs.out x g e
    · rw [putF_other _ _ e'] at e; exact h.out j hj x g e
  · have key : ∀ c, c < N → c ≠ i → ∀ x y g, b'.own x = some g → (B c).own y = some g → False := fun c hc hne x y g e1 e2 => by
      rcases st.fr x g e1 with ⟨z, hz⟩ | hz
      · exact hne (h.sep c i hc hi y z g e2 hz)
      · have := ((h.dt c hc).sep.lt y g e2).2; omega
    by_cases e1 : a = i
    · by_cases e2 : c = i
      · omega
      · subst e1
        rw [putF_same] at ea
        rw [putF_other _ _ e2] at ec
        exact (key c hc e2 x y g ea ec).elim
    · by_cases e2 : c = i
      · subst e2
        rw [putF_same] at ec
        rw [putF_other _ _ e1] at ea
        exact (key a ha e1 y x g ec ea).elim
      · rw [putF_other _ _ e1] at ea
        rw [putF_other _ _ e2] at ec
        exact h.sep a c ha hc x y g ea ec
theorem Cl.below (h : Cl N Bp p B F l w) (hb : Below w.heap.size w w') : Cl N Bp p B F l w' :=
  ⟨fun i hi => (h.dt i hi).below hb, h.lots.keep fun g _ hg => hb.block g (by have := h.lots.lt; omega), h.lok, h.out, h.low, h.sep⟩
theorem Cl.drew (h : Cl N Bp p B F l w) : Cl N Bp p B F l w.drew := ⟨fun i hi => (h.dt i hi).drew, h.lots.keep fun _ _ _ => rfl, h.lok, h.out, h.low, h.sep⟩
theorem Far.away (h : Far N p B w g) (hi : i < N) : Away p (B i) w g := ⟨h.lt, h.p, h.own i hi⟩
theorem Far.step (h : Far N p B w g) (hi : i < N) (st : Stp p (B i) w b' w') : Far N p (putF B i b') w' g :=
  ⟨Nat.lt_of_lt_of_le h.lt st.size, h.p, fun j hj x e => by
    by_cases e' : j = i
    · subst e'; rw [putF_same] at e
      exact ((h.away hj).stp st).own x e
    · rw [putF_other _ _ e'] at e; exact h.own j hj x e⟩
theorem Far.keep (h : Far N p B w g) (hi : i < N) (st : Stp p (B i) w b' w') : w'.heap[g]? = w.heap[g]? := st.keep (h.away hi)
theorem Far.below (h : Far N p B w g) (hb : Below w.heap.size w w') : Far N p B w' g := ⟨Nat.lt_of_lt_of_le h.lt hb.size, h.p, h.own⟩
theorem Far.drew (h : Far N p B w g) : Far N p B w.drew g := ⟨h.lt, h.p, h.own⟩
theorem Cl.far (h : Cl N Bp p B F l w) (hg : w.heap.size ≤ g) (hg' : g < w'.heap.size) : Far N p B w' g :=
  ⟨hg', fun e => by have := h.lots.lt; omega, fun i hi x e => by have := ((h.dt i hi).sep.lt x g e).2; omega⟩
/-- What a step made, or kept, that no part of the others is. -/
theorem Cl.far_of (h : Cl N Bp p B F l w) (hi : i < N) (st : Stp p (B i) w b' w') (hA : Away p b' w' g) (hg : w.heap.size ≤ g) : Far N p (putF B i b') w' g :=
  ⟨hA.lt, hA.p, fun j hj x e => by
    by_cases e' : j = i
    · subst e'; rw [putF_same] at e; exact hA.own x e
    · rw [putF_other _ _ e'] at e
      have := ((h.dt j hj).sep.lt x g e).2
      omega⟩
/-- Grown: a block that is far from all of them. -/
theorem Cl.grown (h : Cl N Bp p B F l w) {r : Option Nat} (hg : w.grownBy w' r) (hA : ∀ g, r = some g → Far N p B w g ∧ p < g) : Cl N Bp p B F l w' :=
  ⟨fun i hi => (h.dt i hi).keep hg.size (fun x g hx => hg.block g ((h.dt i hi).sep.lt x g hx).2 fun e => (hA g e.symm).1.own i hi x hx) (hg.block 1 (by have := h.lots.lt; have := h.low; have := h.lots.le; omega) fun e => by have := (hA 1 e.symm).2; have := h.low; have := h.lots.le; omega),
    h.lots.keep fun g _ h2 => hg.block g (by have := h.lots.lt; omega) (fun e => by have := (hA g e.symm).2; omega), h.lok, h.out, h.low, h.sep⟩
theorem Far.grown (h : Far N p B w g) {r : Option Nat} (hg : w.grownBy w' r) : Far N p B w' g := ⟨Nat.lt_of_lt_of_le h.lt hg.size, h.p, h.own⟩
end

/-! ## Notes that wait -/
/-- The slice v holds the notes X; it lies behind p; its row, and their news, are no part of any of them. -/
structure Qn (N p : Nat) (B : Nat → Bl) (v : Value) (X : List NtX) (w : World) : Prop where
  row : QuE encN 37 v X w
  far : ∀ g, v.ownBlock = some g → Far N p B w g ∧ p < g
  news : ∀ x ∈ X, Ro.Own 0 (.slice x.a x.L x.c) x.n.u w
  naw : ∀ x ∈ X, ∀ g, (Value.slice x.a x.L x.c).ownBlock = some g → Far N p B w g
section
variable {N Bp p : Nat} {B : Nat → Bl} {F : Nat → Det} {l l' : List Int} {w w0 w1 w' : World} {i : Nat} {b' : Bl} {d' : Det} {v v' u : Value} {X Y : List NtX} {x : NtX}
theorem Qn.step (h : Qn N p B v X w) (hi : i < N) (st : Stp p (B i) w b' w') : Qn N p (putF B i b') v X w' :=
  ⟨h.row.keep fun g hg _ => (h.far g hg).1.keep hi st, fun g hg => ⟨(h.far g hg).1.step hi st, (h.far g hg).2⟩, fun x hx => (h.news x hx).keep fun g hg _ => (h.naw x hx g hg).keep hi st, fun x hx g hg => (h.naw x hx g hg).step hi st⟩
theorem Qn.below (h : Qn N p B v X w) (hb : Below w.heap.size w w') : Qn N p B v X w' :=
  ⟨h.row.below hb, fun g hg => ⟨(h.far g hg).1.below hb, (h.far g hg).2⟩, fun x hx => (h.news x hx).below hb, fun x hx g hg => (h.naw x hx g hg).below hb⟩
theorem Qn.drew (h : Qn N p B v X w) : Qn N p B v X w.drew :=
  ⟨h.row.keep fun _ _ _ => rfl, fun g hg => ⟨(h.far g hg).1.drew, (h.far g hg).2⟩, fun x hx => (h.news x hx).keep fun _ _ _ => rfl, fun x hx g hg => (h.naw x hx g hg).drew⟩
theorem sliced_own (a : Option Addr) (n cap sz : Nat) : (sliced a 1 n cap sz).ownBlock = (Value.slice a n cap).ownBlock := by
  unfold sliced
  split
  · cases a <;> rfl
  · cases a with
    | none => rfl
    | some a => simp only [Value.ownBlock, Option.map_some]; unfold Addr.add; split <;> rfl
theorem Qn.tail {a : Option Addr} {n cap : Nat} (h : Qn N p B (.slice a n cap) (x :: X) w) : Qn N p B (sliced a 1 n cap 6) X w :=
  ⟨QuE.tail h.row, fun g hg => h.far g (by rw [← sliced_own]; exact hg), fun y hy => h.news y (List.mem_cons_of_mem _ hy), fun y hy => h.naw y (List.mem_cons_of_mem _ hy)⟩
/-- What one of them has said is put behind. -/
theorem Qn.app (hC : Cl N Bp p B F l w0) (hi : i < N) (st : Stp p (B i) w0 b' w) (h : Qn N p (putF B i b') v X w) (hs : Sd p b' w0 u Y w)
    (hrow : QuE encN 37 v' (X ++ Y) w') (hg : w.grownBy w' v.ownBlock) (hv : v'.ownBlock = v.ownBlock ∨ v'.ownBlock = some w.heap.size) (hC' : Cl N Bp p (putF B i b') (putF F i d') l' w) : Qn N p (putF B i b') v' (X ++ Y) w' := by
  have hne : ∀ {A : Nat} {u : Value} {L : List Upd}, Ro.Own A u L w → ∀ g, u.ownBlock = some g → some g ≠ v.ownBlock := fun ho g hg e => by
    obtain ⟨c1, e1⟩ := own_type ho hg
    obtain ⟨c2, e2⟩ := h.row.type e.symm
    rw [e1] at e2
    simp at e2
  have hY : ∀ x ∈ Y, ∀ g, (Value.slice x.a x.L x.c).ownBlock = some g → Far N p (putF B i b') w g := fun x hx g hg =>
    hC.far_of hi st (hs.naw x hx g hg) ((hs.news x hx).lt g hg).1
  refine ⟨hrow, fun g e => ?_, fun x hx => ?_, fun x hx g e => ?_⟩
  · rcases hv with e' | e'
    · have := h.far g (e'.symm.trans e)
      exact ⟨this.1.grown hg, this.2⟩
    · rw [e'] at e; cases e
      obtain ⟨cur, hcur⟩ := hrow.type e'
      exact ⟨hC'.far (Nat.le_refl _) (Array.getElem?_eq_some_iff.1 hcur).1, hC'.lots.lt⟩
  · rcases List.mem_append.1 hx with hx | hx
    · exact (h.news x hx).keep fun g e hlt => hg.block g hlt (hne (h.news x hx) g e)
    · exact (Ro.Own.mono (hs.news x hx) (Nat.zero_le _)).keep fun g e hlt => hg.block g hlt (hne (hs.news x hx) g e)
  · rcases List.mem_append.1 hx with hx | hx
    · exact (h.naw x hx g e).grown hg
    · exact (hY x hx g e).grown hg
/-- What one has said, by itself. -/
theorem Qn.said (hC : Cl N Bp p B F l w0) (hi : i < N) (st : Stp p (B i) w0 b' w) (hs : Sd p b' w0 u Y w) : Qn N p (putF B i b') u Y w :=
  ⟨hs.row.qu, fun g hg => ⟨hC.far_of hi st (hs.away g hg) (hs.row.lt g hg).1, by have := (hs.row.lt g hg).1; have := hC.lots.lt; omega⟩,
    fun x hx => Ro.Own.mono (hs.news x hx) (Nat.zero_le _), fun x hx g hg => hC.far_of hi st (hs.naw x hx g hg) ((hs.news x hx).lt g hg).1⟩
end
/-- All of them were made since. -/
structure Uc (N p : Nat) (B : Nat → Bl) (w0 w : World) : Prop where
  below : Below w0.heap.size w0 w
  p : w0.heap.size ≤ p
  own : ∀ i, i < N → ∀ x g, (B i).own x = some g → w0.heap.size ≤ g
section
variable {N p : Nat} {B : Nat → Bl} {w w0 w' : World} {i : Nat} {b' : Bl}
theorem Uc.stp (h : Uc N p B w0 w) (hi : i < N) (s : Stp p (B i) w b' w') : Uc N p (putF B i b') w0 w' := by
  have hz := h.below.size
  refine ⟨⟨s.os.trans h.below.os, s.tape.trans h.below.tape, s.output.trans h.below.output, Nat.le_trans hz s.size, fun g hg => ?_⟩, h.p, fun j hj x g e => ?_⟩
  · rw [s.block g (by omega) (fun e => by have := h.p; omega) (fun x e => by have := h.own i hi x g e; omega), h.below.block g hg]
  · by_cases e' : j = i
    · subst e'
      rw [putF_same] at e
      rcases s.fr x g e with ⟨y, hy⟩ | hy
      · exact h.own j hj y g hy
      · omega
    · rw [putF_other _ _ e'] at e; exact h.own j hj x g e
theorem Uc.then (h : Uc N p B w0 w) (hb : Below w.heap.size w w') : Uc N p B w0 w' := ⟨h.below.trans (hb.mono h.below.size), h.p, h.own⟩
theorem Uc.drew (h : Uc N p B w0 w) : Uc N p B w0 w.drew := ⟨Below.drew' h.below, h.p, h.own⟩
theorem Uc.grown (h : Uc N p B w0 w) {r : Option Nat} (hg : w.grownBy w' r) (hr : ∀ g, r = some g → p < g) : Uc N p B w0 w' :=
  ⟨⟨hg.os.trans h.below.os, hg.tape.trans h.below.tape, hg.output.trans h.below.output, Nat.le_trans h.below.size hg.size, fun g hgl => by
    have := h.below.size
    rw [hg.block g (by omega) (fun e => by have := hr g e.symm; have := h.p; omega), h.below.block g hgl]⟩, h.p, h.own⟩
end
end Go.Proofs.YtpoofjnfaijjjaaGreatDoor
namespace Go.Proofs.YtpoofjnfaijjjaaGreatDoor
open Go.RowKit Go.Proofs.YtpoofjnfaijjjaaGreatDoor.Ro
section
variable {k Bp p : Nat} {b b' : Bl} {d : Det} {l : List Int} {w w0 w' : World}
theorem Dt.sx (h : Dt k b d w) (hb : Below w.heap.size w w') (hl : Rn.Lt w.heap.size p l w') (hok : Rn.Ok l) : Sx k w.heap.size p b d l w' :=
  ⟨h.below hb, hl, hok, fun i g e => .inl (h.sep.lt i g e).2, h.tab.lt⟩
/-- All of it was made since. -/
structure Und (p : Nat) (b : Bl) (w0 w : World) : Prop where
  below : Below w0.heap.size w0 w
  p : w0.heap.size ≤ p
  own : ∀ i g, b.own i = some g → w0.heap.size ≤ g
theorem Und.stp (h : Und p b w0 w) (s : Stp p b w b' w') : Und p b' w0 w' := by
  have hz := h.below.size
  refine ⟨⟨s.os.trans h.below.os, s.tape.trans h.below.tape, s.output.trans h.below.output, Nat.le_trans hz s.size, fun g hg => ?_⟩, h.p, fun i g e => ?_⟩
  · rw [s.block g (by omega) (fun e => by have := h.p; omega) (fun i e => by have := h.own i g e; omega), h.below.block g hg]
  · rcases s.fr i g e with ⟨j, hj⟩ | hj
    · exact h.own j g hj
    · omega
theorem OwE.atN {g cap : Nat} {T : TypeId} {B : Nat} {v : Value} {X : List NtX} (h : OwE encN T B v X w) (hv : v = .slice (some ⟨g, 0, none⟩) X.length cap) (j : Nat) (hj : j < X.length) :
    w.cell? ⟨g, j * 6, none⟩ = some (.int .i64 X[j].n.k) ∧ w.cell? ⟨g, j * 6 + 1, none⟩ = some (.int .i64 X[j].n.f) ∧ w.cell? ⟨g, j * 6 + 2, none⟩ = some (.int .i64 X[j].n.t) ∧ w.cell? ⟨g, j * 6 + 3, none⟩ = some (.int .u64 X[j].n.q) ∧ w.cell? ⟨g, j * 6 + 4, none⟩ = some (.int .i64 X[j].n.o) ∧ w.cell? ⟨g, j * 6 + 5, none⟩ = some (.slice X[j].a X[j].L X[j].c) := by
  obtain ⟨a, c, e, _, _, h3⟩ := h.rd
  rw [hv] at e; cases e
  rcases h3 with h3 | ⟨g', off, e, h3⟩
  · omega
  · cases e
    have h0 := fun c hc => h3 j c hj hc
    simp only [Nat.zero_add] at h0
    exact ⟨h0 0 (by decide), h0 1 (by decide), h0 2 (by decide), h0 3 (by decide), h0 4 (by decide), h0 5 (by decide)⟩
theorem map_one {α β : Type} {f : α → β} {X : List α} {y : β} (h : X.map f = [y]) : ∃ x, X = [x] ∧ f x = y := by
  cases X with
  | nil => cases h
  | cons x r =>
    cases r with
    | nil => exact ⟨x, rfl, by simpa using h⟩
    | cons z r => simp at h
theorem ok_nil : Rn.Ok [] := fun x hx => by cases hx
theorem rd_nil (w : World) : Rn.Rd .u64 (.slice none 0 0) [] w := ⟨none, 0, rfl, Nat.le_refl _, Nat.zero_le _, fun _ => rfl, Or.inl rfl⟩
end
set_option maxRecDepth 100000 in
set_option maxHeartbeats 4000000 in
theorem shown_any (w : World) (hT : Bnd.Tab w) : Calls Tryz.prog 8 #[] w fun e w' => e = .returned (.bool true) ∧ Below w.heap.size w w' := by
  have hn1 := dnew_any 1 w hT
  have hln := fun w => Rn.new_any (.slice none 0 0) [] w (Nat.zero_le _) (rd_nil w)
  go_enter Tryz.func8, Tryz.ntmps8
  go_upto_region 4 with (first
    | (go_at_call 9; go_must (refine hn1.mono ?_; rintro e w1 ⟨h1, _, b1⟩; obtain ⟨bA, rfl, hA, oA⟩ := h1 1 rfl (by decide)))
    | (go_at_call 11; go_must (refine (hln w1).mono ?_; rintro e w2 ⟨⟨p2, rfl, hL2⟩, b2⟩; have hA2 := hA.sx b2 hL2 ok_nil; have hkn := know_any hA2 ⟨2, 0, 0⟩ u0; rw [show (((1 : Nat) : Int)) = 1 from rfl, sh1] at hkn))
    | (go_at_call 17; go_must (refine hkn.mono ?_; rintro e w3 ⟨rfl, b3, hA3, s3⟩)))
  have hU2 : Und p2 bA w w2 := ⟨bT b1 b2, by have := b1.size; have := hL2.le; omega, oA⟩
  have hU3 := hU2.stp s3
  have hA3 : Dt 1 b3 shA w3 := hA3.dt
  have hqA : b3.q = bA.q := s3.q
  clear hn1 h1 hkn hA hA2 hL2 s3 hU2 b1 b2
  have bd3 := hU3.below
  have hz3 := bd3.size
  go_upto_region 5 with (first
    | (go_at_call 11; go_must (refine (hln w3).mono ?_; rintro e w4 ⟨⟨p4, rfl, hL4⟩, b4⟩; have hA4 := hA3.sx b4 hL4 ok_nil; have htk := tick_any hA4 (by rw [shW]; exact Nat.zero_le _); rw [hqA] at htk))
    | (go_at_call 13; go_must (refine htk.mono ?_; rintro e w5 ⟨v5, X5, b5, rfl, hs5, hX5, hA5, s5⟩)))
  have hU4 : Und p4 b3 w w4 := ⟨bT bd3 b4, by have := hL4.le; omega, hU3.own⟩
  have hU5 := hU4.stp s5
  rw [sh2] at hX5
  obtain ⟨x, rfl, hx⟩ := map_one hX5
  obtain ⟨a5, c5, rfl⟩ : ∃ a c, v5 = .slice a 1 c := by obtain ⟨a, cap, e, _⟩ := hs5.row.len; exact ⟨a, cap, e⟩
  obtain ⟨g5, rfl⟩ : ∃ g, a5 = some ⟨g, 0, none⟩ := by
    rcases hs5.row.2 with ⟨e, h0⟩ | ⟨g, cap, cur, e, _⟩
    · cases h0
    · cases e; exact ⟨g, rfl⟩
  obtain ⟨x0, x1, x2, x3, x4, x5⟩ := hs5.row.atN rfl 0 (by simp)
  have hnew := hs5.news x (by simp)
  obtain ⟨N, na, nl, nc⟩ := x
  obtain rfl : N = shN := hx
  dsimp only [List.getElem_cons_zero, shN] at x0 x1 x2 x3 x4 x5
  have bd5 := hU5.below
  clear hU4 hA3 hA4 htk b4 hL4 hU3 bd3 hX5 s5 hqA
  have hT5 : Bnd.Tab w5 := hT.below hT.lt bd5
  have hn2 := dnew_any 2 w5 hT5
  go_upto_region 8 with (go_at_call 9; go_must (refine hn2.mono ?_; rintro e w6 ⟨h1, _, b6⟩; obtain ⟨bC, rfl, hC, oC⟩ := h1 2 rfl (by decide)))
  have hg5 : g5 < w5.heap.size := (Array.getElem?_eq_some_iff.1 (owe_type hs5.row rfl).choose_spec).1
  have k6 : w6.heap[g5]? = w5.heap[g5]? := b6.block g5 hg5
  have y0 := (World.cell?_of_block (w := w5) (a := ⟨g5, 0, none⟩) k6).trans x0
  have y1 := (World.cell?_of_block (w := w5) (a := ⟨g5, 1, none⟩) k6).trans x1
  have y2 := (World.cell?_of_block (w := w5) (a := ⟨g5, 2, none⟩) k6).trans x2
  have y3 := (World.cell?_of_block (w := w5) (a := ⟨g5, 3, none⟩) k6).trans x3
  have y4 := (World.cell?_of_block (w := w5) (a := ⟨g5, 4, none⟩) k6).trans x4
  have y5 := (World.cell?_of_block (w := w5) (a := ⟨g5, 5, none⟩) k6).trans x5
  have hS6 := And.intro y0 (And.intro y1 (And.intro y2 (And.intro y3 (And.intro y4 y5))))
  have hz6 := b6.size
  have hnr := hnew.below b6
  have hnlt : ∀ g, (Value.slice na nl nc).ownBlock = some g → g < w5.heap.size := fun g e => (hnew.lt g e).2
  clear x0 x1 x2 x3 x4 x5 y0 y1 y2 y3 y4 y5 hn2 h1
  have hz5 := bd5.size
  go_region_held3 (fun w' => w'.cell? ⟨g5, 0, none⟩ = some (.int .i64 1) ∧ w'.cell? ⟨g5, 1, none⟩ = some (.int .i64 1) ∧ w'.cell? ⟨g5, 2, none⟩ = some (.int .i64 2) ∧ w'.cell? ⟨g5, 3, none⟩ = some (.int .u64 1) ∧ w'.cell? ⟨g5, 4, none⟩ = some (.int .i64 0) ∧ w'.cell? ⟨g5, 5, none⟩ = some (.slice na nl nc)) (first | exact hS6 | exact hS7 | exact hS8) ((first
    | (go_at_call 11; go_must (refine (hln _).mono ?_; rintro e w7 ⟨⟨p7, rfl, hL7⟩, b7⟩; have hC7 := hC.drew.sx b7 hL7 ok_nil; have k7 : w7.heap[g5]? = w6.heap[g5]? := b7.block g5 (Nat.lt_of_lt_of_le hg5 hz6); have hS7 := And.intro ((World.cell?_of_block (w := w6) (a := ⟨g5, 0, none⟩) k7).trans hS6.1) (And.intro ((World.cell?_of_block (w := w6) (a := ⟨g5, 1, none⟩) k7).trans hS6.2.1) (And.intro ((World.cell?_of_block (w := w6) (a := ⟨g5, 2, none⟩) k7).trans hS6.2.2.1) (And.intro ((World.cell?_of_block (w := w6) (a := ⟨g5, 3, none⟩) k7).trans hS6.2.2.2.1) (And.intro ((World.cell?_of_block (w := w6) (a := ⟨g5, 4, none⟩) k7).trans hS6.2.2.2.2.1) ((World.cell?_of_block (w := w6) (a := ⟨g5, 5, none⟩) k7).trans hS6.2.2.2.2.2)))))))
    | (go_at_call 15; go_must (refine (hear_any hC7 shN na nl nc (hnr.ru.keep fun g e hlt => b7.block g hlt) (.inr fun g e => ⟨by exact Nat.lt_of_lt_of_le (Nat.lt_of_lt_of_le (hnlt g e) hz6) b7.size, fun e' => by have := hnlt g e; have := hL7.le; have e6 : w6.drew.heap.size = w6.heap.size := rfl; omega, fun i e' => by have := hnlt g e; have := oC i g e'; omega⟩) (by decide) (by decide) (by rw [shW2]; exact Nat.zero_le _) ⟨by decide, by decide⟩).mono ?_; rintro e w8 ⟨v8, X8, b8, rfl, hs8, hX8, hC8, s8⟩; have k8 := s8.keep (g := g5) ⟨Nat.lt_of_lt_of_le (Nat.lt_of_lt_of_le hg5 hz6) b7.size, (fun e' => by have := hL7.le; have e6 : w6.drew.heap.size = w6.heap.size := rfl; omega), (fun i e' => by have := oC i g5 e'; omega)⟩; have hS8 := And.intro ((World.cell?_of_block (w := w7) (a := ⟨g5, 0, none⟩) k8).trans hS7.1) (And.intro ((World.cell?_of_block (w := w7) (a := ⟨g5, 1, none⟩) k8).trans hS7.2.1) (And.intro ((World.cell?_of_block (w := w7) (a := ⟨g5, 2, none⟩) k8).trans hS7.2.2.1) (And.intro ((World.cell?_of_block (w := w7) (a := ⟨g5, 3, none⟩) k8).trans hS7.2.2.2.1) (And.intro ((World.cell?_of_block (w := w7) (a := ⟨g5, 4, none⟩) k8).trans hS7.2.2.2.2.1) ((World.cell?_of_block (w := w7) (a := ⟨g5, 5, none⟩) k8).trans hS7.2.2.2.2.2)))))))))
  have hU7 : Und p7 bC w w7 := ⟨bT (bD (bT bd5 b6)) b7, by have := hL7.le; have e6 : w6.drew.heap.size = w6.heap.size := rfl; omega, fun i g e => by have := oC i g e; omega⟩
  have hU8 := hU7.stp s8
  have hk := sh4
  rw [← hX8] at hk
  obtain ⟨⟨n8, a8, l8, c8⟩, rfl, hn8⟩ := map_one (X := X8) (f := fun x => x.n.k) (by rw [← hk, List.map_map]; rfl)
  obtain ⟨a9, c9, rfl⟩ : ∃ a c, v8 = .slice a 1 c := by obtain ⟨a, cap, e, _⟩ := hs8.row.len; exact ⟨a, cap, e⟩
  obtain ⟨g8, rfl⟩ : ∃ g, a9 = some ⟨g, 0, none⟩ := by
    rcases hs8.row.2 with ⟨e, h0⟩ | ⟨g, cap, cur, e, _⟩
    · cases h0
    · cases e; exact ⟨g, rfl⟩
  obtain ⟨x0, _⟩ := hs8.row.atN rfl 0 (by simp)
  dsimp only [List.getElem_cons_zero] at x0 hn8
  rw [hn8] at x0
  have he8 := sh3
  have hall := dall_any hC8
  rw [show b8.q = bC.q from s8.q] at hall
  go_wp2_with (go_at_call 28; go_must (refine hall.mono ?_; rintro e w9 ⟨⟨v9, rfl, hO9⟩, b9⟩; obtain ⟨a9, c9', rfl⟩ : ∃ a c, v9 = .slice a 2 c := (by obtain ⟨a, cap, e, _⟩ := hO9.ru; rw [sh5] at e; exact ⟨a, cap, e⟩)))
  go_ret
  exact ⟨rfl, bT hU8.below b9⟩
end Go.Proofs.YtpoofjnfaijjjaaGreatDoor
namespace Go.Proofs.YtpoofjnfaijjjaaGreatDoor
open Go.RowKit Go.Deep Go.ChangeShapes Go.Proofs.YtpoofjnfaijjjaaGreatDoor.Ro

/-- An act: which kind, a note and the slice that its news are, an update. -/
structure Ac where
  kind : Int
  x : NtX
  U : Upd
structure AcOk (A : Ac) : Prop where
  q : U64 A.x.n.q
  u : ∀ u ∈ A.x.n.u, U64 u.i
  U : U64 A.U.i
abbrev acC (A : Ac) : List Value := [.int .i64 A.kind, .int .i64 A.x.n.k, .int .i64 A.x.n.f, .int .i64 A.x.n.t, .int .u64 A.x.n.q, .int .i64 A.x.n.o, .slice A.x.a A.x.L A.x.c, .int .i64 A.U.n, .int .u64 A.U.i, .int .i64 A.U.s]
theorem u64_of {n : Int} (h : (Lit.int .u64 n).wf = true) : U64 n := by simpa [Lit.wf, IntKind.min, IntKind.max, IntKind.signed, IntKind.bits, U64] using h
/-- The slice v reads as the acts l. -/
def Ra (v : Value) (l : List Ac) (w : World) : Prop :=
  ∃ a cap, v = .slice a l.length cap ∧ (l.length = 0 ∨ ∃ g off, a = some ⟨g, off, none⟩ ∧ ∀ j (hj : j < l.length) c v, (acC l[j])[c]? = some v → w.cell? ⟨g, off + j * 10 + c, none⟩ = some v)
def IsActs (w : World) (a : Option Addr) (len cap : Nat) (l : List Ac) : Prop := l.length = len ∧ Ra (.slice a len cap) l w ∧ ∀ A ∈ l, AcOk A ∧ Ro.Ru (.slice A.x.a A.x.L A.x.c) A.x.n.u w

section
variable {H : Type} {enc : TypeId × Value → H} {w : World}
theorem trod_upds {n : Nat} {v : Value} {x : DataW H × List MemPlace} (h : DataW.trod enc Tryz.prog w 0 (fun _ => true) true n 35 [v] = some x) :
    ∃ a L c l, v = .slice a L c ∧ Ro.Ru (.slice a L c) l w ∧ ∀ u ∈ l, U64 u.i := by
  have hv : ∃ a L c, v = .slice a L c := by
    rcases open_slice Tryz.underlying35 h with ⟨hcs, _⟩ | ⟨a', l', c', m, n, D, Pl, hcs, _⟩
    · exact ⟨_, _, _, by simpa using hcs⟩
    · exact ⟨_, _, _, by simpa using hcs⟩
  obtain ⟨a, L, c, rfl⟩ := hv
  obtain ⟨l, h1, h2, h3⟩ := open_upds ⟨n, h⟩
  exact ⟨a, L, c, l, rfl, h2, fun u hu => u64_of (h3 u hu).i⟩
set_option maxRecDepth 100000 in
theorem trod_note {n : Nat} {cs : List Value} {x : DataW H × List MemPlace} (h : DataW.trod enc Tryz.prog w 0 (fun _ => true) true n 37 cs = some x) :
    ∃ N : NtX, U64 N.n.q ∧ (∀ u ∈ N.n.u, U64 u.i) ∧ Ro.Ru (.slice N.a N.L N.c) N.n.u w ∧ cs = [.int .i64 N.n.k, .int .i64 N.n.f, .int .i64 N.n.t, .int .u64 N.n.q, .int .i64 N.n.o, .slice N.a N.L N.c] := by
  have hc : Tryz.prog.cellsOf 37 = 6 := by kernel_rfl
  have hc3 : Tryz.prog.cellsOf 3 = 1 := by kernel_rfl
  have hcu : Tryz.prog.cellsOf 34 = 1 := by kernel_rfl
  have hcs : Tryz.prog.cellsOf 35 = 1 := by kernel_rfl
  obtain ⟨xs, m, _, _, hlen, hxl, hf⟩ := DataW.trod_struct Tryz.underlying37 h
  rw [hc] at hlen
  match cs, hlen with
  | [a, b, c, d, e, f], _ =>
    match xs, hxl with
    | [y0, y1, y2, y3, y4, y5], _ =>
      have f0 := hf 0 _ rfl
      have f1 := hf 1 _ rfl
      have f2 := hf 2 _ rfl
      have f3 := hf 3 _ rfl
      have f4 := hf 4 _ rfl
      have f5 := hf 5 _ rfl
      simp [hc3, hcu, hcs] at f0 f1 f2 f3 f4 f5
      obtain ⟨n0, rfl, _⟩ := trod_one Tryz.underlying3 f0
      obtain ⟨n1, rfl, _⟩ := trod_one Tryz.underlying3 f1
      obtain ⟨n2, rfl, _⟩ := trod_one Tryz.underlying3 f2
      obtain ⟨n3, rfl, w3⟩ := trod_one Tryz.underlying34 f3
      obtain ⟨n4, rfl, _⟩ := trod_one Tryz.underlying3 f4
      obtain ⟨a, L, c, l, rfl, r, hu⟩ := trod_upds f5
      exact ⟨⟨⟨n0, n1, n2, n3, n4, l⟩, a, L, c⟩, u64_of w3, hu, r, rfl⟩
set_option maxRecDepth 100000 in
theorem trod_act {n : Nat} {cs : List Value} {x : DataW H × List MemPlace} (h : DataW.trod enc Tryz.prog w 0 (fun _ => true) true n 41 cs = some x) :
    ∃ A : Ac, AcOk A ∧ Ro.Ru (.slice A.x.a A.x.L A.x.c) A.x.n.u w ∧ cs = acC A := by
  have hc : Tryz.prog.cellsOf 41 = 10 := by kernel_rfl
  have hcN : Tryz.prog.cellsOf 37 = 6 := by kernel_rfl
  have hcU : Tryz.prog.cellsOf 39 = 3 := by kernel_rfl
  have hc3 : Tryz.prog.cellsOf 3 = 1 := by kernel_rfl
  have hcu : Tryz.prog.cellsOf 34 = 1 := by kernel_rfl
  obtain ⟨xs, m, _, _, hlen, hxl, hf⟩ := DataW.trod_struct Tryz.underlying41 h
  rw [hc] at hlen
  match cs, hlen with
  | [c0, c1, c2, c3, c4, c5, c6, c7, c8, c9], _ =>
    match xs, hxl with
    | [y0, y1, y2], _ =>
      have f0 := hf 0 _ rfl
      have f1 := hf 1 _ rfl
      have f2 := hf 2 _ rfl
      simp [hcN, hcU, hc3] at f0 f1 f2
      obtain ⟨n0, rfl, _⟩ := trod_one Tryz.underlying3 f0
      obtain ⟨N, hq, hu, hr, e⟩ := trod_note f1
      simp at e
      obtain ⟨rfl, rfl, rfl, rfl, rfl, rfl⟩ := e
      obtain ⟨z0, z1, z2, m', _, _, g0, g1, g2⟩ := trod_struct3 Tryz.underlying39 f2
      simp [hc3, hcu] at g0 g1 g2
      obtain ⟨n1, rfl, _⟩ := trod_one Tryz.underlying3 g0
      obtain ⟨n2, rfl, w2⟩ := trod_one Tryz.underlying34 g1
      obtain ⟨n3, rfl, _⟩ := trod_one Tryz.underlying3 g2
      exact ⟨⟨n0, N, ⟨n1, n2, n3⟩⟩, ⟨hq, hu, u64_of w2⟩, hr, rfl⟩
end

theorem open_acts {H : Type} {enc : TypeId × Value → H} {W : World} {a : Option Addr} {len cap : Nat} {d : DataW H} {ps : List MemPlace} (h : DataW.Trod enc Tryz.prog W 0 (fun _ => true) true 23 (.slice a len cap) d ps) : ∃ l, IsActs W a len cap l := by
  obtain ⟨fuel, hf0⟩ := h
  have hf : DataW.trod enc Tryz.prog W 0 (fun _ => true) true fuel 23 [.slice a len cap] = some (d, ps) := hf0
  have hC : Tryz.prog.cellsOf 41 = 10 := by kernel_rfl
  rcases open_slice Tryz.underlying23 hf with ⟨hcs, _⟩ | ⟨a', l', c', m, n, D, Pl, hcs, _, hlc, hm, hmm, _, hel⟩
  · simp at hcs
    obtain ⟨rfl, rfl, rfl⟩ := hcs
    exact ⟨[], rfl, ⟨_, _, rfl, Or.inl rfl⟩, fun u hu => by cases hu⟩
  · simp at hcs
    obtain ⟨rfl, rfl, rfl⟩ := hcs
    simp at hmm
    subst hmm
    rw [hC] at hel
    have key : ∀ j, ∃ A : Ac, j < len → AcOk A ∧ Ro.Ru (.slice A.x.a A.x.L A.x.c) A.x.n.u W ∧ ∀ c v, (acC A)[c]? = some v → W.cell? ((a'.add (j * 10)).add c) = some v := by
      intro j
      by_cases hj : j < len
      · obtain ⟨cs', hc, hy⟩ := hel j (by omega)
        obtain ⟨_, hlen, hcell⟩ := World.cells?_some hc
        obtain ⟨A, h1, hr, h2⟩ := trod_act hy
        refine ⟨A, fun _ => ⟨h1, hr, fun c v hv => ?_⟩⟩
        have hc6 : c < 10 := (List.getElem?_eq_some_iff.1 hv).1
        rw [hcell c hc6, h2]
        exact hv
      · exact ⟨⟨0, ⟨⟨0, 0, 0, 0, 0, []⟩, none, 0, 0⟩, ⟨0, 0, 0⟩⟩, fun h => absurd h hj⟩
    obtain ⟨f, hf⟩ : ∃ f : Nat → Ac, ∀ j, j < len → AcOk (f j) ∧ Ro.Ru (.slice (f j).x.a (f j).x.L (f j).x.c) (f j).x.n.u W ∧ ∀ c v, (acC (f j))[c]? = some v → W.cell? ((a'.add (j * 10)).add c) = some v :=
      ⟨fun j => Classical.choose (key j), fun j hj => Classical.choose_spec (key j) hj⟩
    clear key
    refine ⟨(List.range len).map f, by simp, ⟨_, _, by simp; exact ⟨rfl, rfl⟩, ?_⟩, fun u hu => ?_⟩
    · rcases Nat.eq_zero_or_pos len with h0 | h0
      · exact Or.inl (by simpa using h0)
      · right
        obtain ⟨b, off, spot⟩ := a'
        have hspot : spot = none := by
          have := (hf 0 h0).2.2 0 _ rfl
          simpa [Addr.add] using World.cell?_spot this
        subst hspot
        refine ⟨b, off, rfl, fun j hj => ?_⟩
        simp at hj
        have hs := (hf j hj).2.2
        simp only [List.getElem_map, List.getElem_range]
        simp only [add_flat] at hs
        exact hs
    · obtain ⟨j, hj, rfl⟩ := List.mem_map.1 hu
      have := hf j (List.mem_range.1 hj)
      exact ⟨this.1, this.2.1⟩
theorem Ra.at_ {a : Option Addr} {len cap : Nat} {l : List Ac} {w : World} (h : Ra (.slice a len cap) l w) {j : Nat} (hj : j < l.length) : ∃ g off, a = some ⟨g, off, none⟩ ∧ g < w.heap.size ∧ ∀ c v, (acC l[j])[c]? = some v → w.cell? ⟨g, off + j * 10 + c, none⟩ = some v := by
  obtain ⟨_, _, e, h3⟩ := h
  cases e
  rcases h3 with h3 | ⟨g, off, rfl, h3⟩
  · omega
  · exact ⟨g, off, rfl, World.block_lt_of_cell? _ _ (h3 j hj 0 _ rfl), h3 j hj⟩
end Go.Proofs.YtpoofjnfaijjjaaGreatDoor
