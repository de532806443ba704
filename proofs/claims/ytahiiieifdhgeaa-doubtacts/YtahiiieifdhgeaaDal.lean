/-
  All: its closure, and it.
-/
import Derived.Test.YtahiiieifdhgeaaDea
namespace Go.Proofs.Ytahiiieifdhgeaa
open Go.RowKit Go.Maps Go.Sort Go.Shelf

/-- Below B all is as it was, but for the blocks S. -/
structure But (B : Nat) (S : List Nat) (w w' : World) : Prop where
  os : w'.os = w.os
  tape : w'.tape = w.tape
  output : w'.output = w.output
  size : w.heap.size ≤ w'.heap.size
  block : ∀ k, k < B → k ∉ S → w'.heap[k]? = w.heap[k]?
theorem But.refl (B : Nat) (S : List Nat) (w : World) : But B S w w := ⟨rfl, rfl, rfl, Nat.le_refl _, fun _ _ _ => rfl⟩
theorem But.trans {B : Nat} {S : List Nat} {w w1 w2 : World} (h : But B S w w1) (k : But B S w1 w2) : But B S w w2 := ⟨k.os.trans h.os, k.tape.trans h.tape, k.output.trans h.output, Nat.le_trans h.size k.size, fun i hi hn => (k.block i hi hn).trans (h.block i hi hn)⟩
theorem But.of {B : Nat} {S : List Nat} {w w1 : World} (h : Below B w w1) : But B S w w1 := ⟨h.os, h.tape, h.output, h.size, fun i hi _ => h.block i hi⟩
theorem But.mono {B C : Nat} {S : List Nat} {w w1 : World} (h : But B S w w1) (hC : C ≤ B) : But C S w w1 := ⟨h.os, h.tape, h.output, h.size, fun i hi hn => h.block i (by omega) hn⟩
theorem But.to {B C : Nat} {S : List Nat} {w w1 : World} (h : But B S w w1) (hC : C ≤ B) (hS : ∀ k ∈ S, C ≤ k) : Below C w w1 := ⟨h.os, h.tape, h.output, h.size, fun i hi => h.block i (by omega) fun e => by have := hS i e; omega⟩

set_option maxRecDepth 100000 in
set_option maxHeartbeats 2000000 in
theorem all_closure (bl B : Nat) (v : Value) (l : List Dbt) (x : Dbt) (w : World) (hc : w.heap[bl]? = some (.cells #[v] 47 (0, 0))) (hO : OwD 55 B v l w) (hB : B ≤ w.heap.size) (hbl : bl < B) (hl : l.length ≤ 64) :
    Calls Try.prog 35 #[dV x, .pointer (some ⟨bl, 0, none⟩)] w fun e w' => e = .returned (.tuple #[]) ∧ ∃ v', w'.heap[bl]? = some (.cells #[v'] 47 (0, 0)) ∧ OwD 55 B v' (l ++ [x]) w' ∧ But B [bl] w w' := by
  have ba := below_alloc w (dC x 55)
  have hb := Bd.new 55 x w
  have hc1 := (ba.block bl (by omega)).trans hc
  have hO1 := hO.below ba
  obtain ⟨w1, HW1⟩ : ∃ w1, Hid (w1 = w.alloc (dC x 55)) := ⟨_, rfl⟩
  rw [← HW1.out] at ba hb hc1 hO1
  have bb := below_alloc w1 (dC x 55)
  have hY := Rb.one (Bd.new 55 x w1)
  have hc2 := (bb.block bl (by have := ba.size; omega)).trans hc1
  have hO2 := hO1.below bb
  have x0 := hb.c0
  have x1 := hb.c1
  have x2 := hb.c2
  have x3 := hb.c3
  have x4 := hb.c4
  have x5 := hb.c5
  have x6 := hb.c6
  have xl : w1.cell? ⟨bl, 0, none⟩ = some v := by simp [World.cell?, hc1]
  have hB2 : B ≤ (w1.alloc (dC x 55)).heap.size := Nat.le_trans hB (Nat.le_trans ba.size bb.size)
  have hbut2 : But B [bl] w (w1.alloc (dC x 55)) := But.of ((ba.mono hB).trans (bb.mono (Nat.le_trans hB ba.size)))
  unfold dC at HW1 hY hO2 hc2 hB2 hbut2
  unfold dV
  clear ba bb hb hO hc hO1 hc1
  go_enter Try.func35, Try.ntmps35
  go_upto_region 1 with fail
  rw [← HW1.out]
  generalize w.heap.size = gx at *
  go_wp2_with (at_builtin; refine wpList_appD Try.underlying47 Try.infoD _ rfl (.tmp 3) (.tmp 5) rfl B _ l rfl hO2 hB2 w1.heap.size 0 1 [x] 1 rfl rfl hY (by simp; omega) ?_; intro v' w' h1 h3 h4; obtain ⟨a', cap', rfl, _⟩ := h1.rb; have hbw : w'.heap[bl]? = some (.cells #[v] 47 (0, 0)) := (h3.block bl (by omega) (fun e => by have := hO2.lt bl e.symm; omega)).trans hc2; have hz : w'.cell? ⟨bl, 0, none⟩ = some v := (by simp [World.cell?, hbw]); have hfz : w'.frozen? ⟨bl, 0, none⟩ = false := (by simp [World.frozen?, hbw]))
  go_end0
  refine ⟨rfl, _, by simp [World.setCell, Array.getElem?_modify, hbw], h1.keep (fun g hg _ => Below.heap_setCell _ _ _ _ (by have := (h1.lt g hg).1; simp; omega)), hbut2.trans ?_⟩
  refine But.trans (w1 := w') ⟨h3.os, h3.tape, h3.output, h3.size, fun k hk _ => h3.block k (by omega) (fun e => by have := hO2.lt k e.symm; omega)⟩ ⟨rfl, rfl, rfl, by simp [World.setCell], fun k hk hn => Below.heap_setCell _ _ _ _ (by simp at hn; simpa using hn)⟩

set_option maxRecDepth 100000 in
set_option maxHeartbeats 2000000 in
theorem all_any (p : Nat) (m : Option Nat) (L : List Dbt) (w : World) (hQ : Du p m L w) :
    Calls Try.prog 18 #[.pointer (some ⟨p, 0, none⟩)] w fun e w' => (∃ v, e = .returned v ∧ OwD 55 w.heap.size v L w') ∧ Below w.heap.size w w' := by
  have ba := below_alloc w (.cells #[.slice none 0 0] 47)
  have hQ1 := hQ.below ba
  have hbx : (w.alloc (.cells #[.slice none 0 0] 47)).heap[w.heap.size]? = some (.cells #[.slice none 0 0] 47 (0, 0)) := heap_alloc_new w _
  have hplt := hQ.lt
  have hL := hQ.di
  have hz1 : (w.alloc (.cells #[.slice none 0 0] 47)).heap.size = w.heap.size + 1 := by simp
  obtain ⟨w1, HW1⟩ : ∃ w1, Hid (w1 = w.alloc (.cells #[.slice none 0 0] 47)) := ⟨_, rfl⟩
  rw [← HW1.out] at ba hQ1 hbx hz1
  have key : Calls Try.prog 33 #[.pointer (some ⟨p, 0, none⟩), .func (.func 35) #[] #[.pointer (some ⟨w.heap.size, 0, none⟩)]] w1 fun e w' => e = .returned (.tuple #[]) ∧ ∃ v, w'.heap[w.heap.size]? = some (.cells #[v] 47 (0, 0)) ∧ OwD 55 w.heap.size v L w' ∧ Below w.heap.size w w' := by
    cases m with
    | none =>
      obtain rfl := hQ.none_ rfl
      refine (each_none p _ w1 hQ1).mono ?_
      rintro e w' ⟨rfl, hb⟩
      exact ⟨rfl, _, (hb.block _ (by omega)).trans hbx, OwD.nil _ _ _, ba.trans (hb.mono (by omega))⟩
    | some b =>
      have hblt := hQ.mlt b rfl
      refine (each_some p b 35 #[.pointer (some ⟨w.heap.size, 0, none⟩)] (enters_of Try.func35 (by kernel_rfl) rfl) L w1 hQ1
        (fun wS k w' => ∃ v, w'.heap[w.heap.size]? = some (.cells #[v] 47 (0, 0)) ∧ OwD 55 wS.heap.size v (L.take k) w' ∧ But wS.heap.size [w.heap.size] wS w') ?_ ?_).mono ?_
      · intro wS hb
        exact ⟨_, (hb.block _ (by omega)).trans hbx, by rw [List.take_zero]; exact OwD.nil _ _ _, But.refl _ _ _⟩
      · rintro wS k w' hb hk ⟨v, h1, h2, h3⟩
        have hs := hb.size
        have hQ2 : Du p (some b) L w' := hQ1.keep ((h3.block p (by omega) (by simp; omega)).trans (hb.block p (by omega))) fun b' e => by
          cases e
          exact (h3.block b (by omega) (by simp; omega)).trans (hb.block b (by omega))
        refine ⟨⟨L, hQ2, getD_of hL (List.getElem_mem hk)⟩, fun g hg1 hg2 => h3.block g hg2 (by simp; omega), ?_⟩
        refine (all_closure w.heap.size wS.heap.size v (L.take k) L[k] w' h1 h2 h3.size (by omega) (by have := hL.length; rw [List.length_take]; omega)).mono ?_
        rintro e w'' ⟨rfl, v', k1, k2, k3⟩
        exact ⟨rfl, v', k1, by rw [← List.take_append_getElem hk]; exact k2, h3.trans k3⟩
      · rintro e w' ⟨rfl, wS, hb, v, h1, h2, h3⟩
        have hs := hb.size
        rw [List.take_length] at h2
        exact ⟨rfl, v, h1, h2.mono (by omega), (ba.trans (hb.mono (by omega))).trans (h3.to (by omega) (by simp))⟩
  clear hbx hQ1 ba hz1 hQ hL hplt
  go_enter Try.func18, Try.ntmps18
  go_upto_region 2 with fail
  rw [← HW1.out]
  go_wp2_with fail
  refine key.mono ?_
  rintro e w' ⟨rfl, v, h1, h2, h3⟩
  have hcl : w'.cell? ⟨w.heap.size, 0, none⟩ = some v := by simp [World.cell?, h1]
  go_wp2_with fail
  go_ret
  exact ⟨⟨v, rfl, h2⟩, h3⟩
end Go.Proofs.Ytahiiieifdhgeaa
