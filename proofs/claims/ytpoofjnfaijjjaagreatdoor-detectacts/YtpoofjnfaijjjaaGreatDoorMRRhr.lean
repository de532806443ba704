/-
  The reference's put. The reference's Hear.
-/
import Derived.Test.YtpoofjnfaijjjaaGreatDoorMRRrf
import Derived.Deep.RegionLaw
namespace Go.Proofs.YtpoofjnfaijjjaaGreatDoor.Ro
open Go.RowKit
theorem flat_set (l : List Upd) : ∀ (j : Nat) (u : Upd), j < l.length → (((flat l).set (j * 3) (.int .i64 u.n)).set (j * 3 + 1) (.int .u64 u.i)).set (j * 3 + 2) (.int .i64 u.s) = flat (l.set j u) := by
  induction l with
  | nil => intro j u h; cases h
  | cons x r ih =>
    intro j u h
    cases j with
    | zero => simp [flat, Upd.cs]
    | succ j =>
      have := ih j u (by simpa using h)
      rw [show (j + 1) * 3 = j * 3 + 3 from by omega]
      simp only [flat, Upd.cs, List.cons_append, List.nil_append, List.set_cons_succ]
      rw [this]
theorem Own.put {B g n cap : Nat} {l : List Upd} {w : World} (h : Own B (.slice (some ⟨g, 0, none⟩) n cap) l w) {j : Nat} (hj : j < l.length) (u : Upd) :
    Own B (.slice (some ⟨g, 0, none⟩) n cap) (l.set j u) (((w.setCell ⟨g, j * 3, none⟩ (.int .i64 u.n)).setCell ⟨g, j * 3 + 1, none⟩ (.int .u64 u.i)).setCell ⟨g, j * 3 + 2, none⟩ (.int .i64 u.s)) := by
  unfold Own
  refine ⟨by rw [flat_length], Or.inr ?_⟩
  rcases h.2 with ⟨e, _⟩ | ⟨g', cap', cur, e, hB, hg, h1, h2, h3, h4⟩
  · cases e
  · cases e
    refine ⟨g, cap, ((cur.setIfInBounds (j * 3) (.int .i64 u.n)).setIfInBounds (j * 3 + 1) (.int .u64 u.i)).setIfInBounds (j * 3 + 2) (.int .i64 u.s), by rw [List.length_set], hB, by simp [World.setCell, Array.getElem?_modify, hg], by rw [List.length_set]; exact h1, h2, by simpa using h3, ?_⟩
    rw [List.length_set, ← flat_set l j u hj, ← h4]
    simp only [Array.toList_setIfInBounds, List.take_set]
theorem Own.free {B g n cap : Nat} {l : List Upd} {w : World} (h : Own B (.slice (some ⟨g, 0, none⟩) n cap) l w) (j : Nat) : w.frozen? ⟨g, j, none⟩ = false := by
  rcases h.2 with ⟨e, _⟩ | ⟨g', cap', cur, e, _, hg, _⟩
  · cases e
  · have : g = g' := by have := (Value.slice.inj e).1; simp at this; exact this
    subst this
    simp [World.frozen?, hg]
structure Mv (q : Nat) (v v' : Value) (w w' : World) : Prop where
  os : w'.os = w.os
  tape : w'.tape = w.tape
  output : w'.output = w.output
  size : w.heap.size ≤ w'.heap.size
  block : ∀ i, i < w.heap.size → i ≠ q → some i ≠ v.ownBlock → w'.heap[i]? = w.heap[i]?
  own : v'.ownBlock = v.ownBlock ∨ ∃ g, v'.ownBlock = some g ∧ w.heap.size ≤ g
section
variable {q : Nat} {v v' v'' : Value} {w w' w'' : World}
theorem Mv.trans (h : Mv q v v' w w') (k : Mv q v' v'' w' w'') : Mv q v v'' w w'' := by
  refine ⟨k.os.trans h.os, k.tape.trans h.tape, k.output.trans h.output, Nat.le_trans h.size k.size, fun i hi hq hv => ?_, ?_⟩
  · refine (k.block i (Nat.lt_of_lt_of_le hi h.size) hq (fun e => ?_)).trans (h.block i hi hq hv)
    rcases h.own with e' | ⟨g, e', hg⟩
    · exact hv (e.trans e')
    · have : i = g := Option.some.inj (e.trans e')
      omega
  · rcases k.own with e | ⟨g, e, hg⟩
    · rcases h.own with e' | ⟨g, e', hg⟩
      · exact Or.inl (e.trans e')
      · exact Or.inr ⟨g, e.trans e', hg⟩
    · exact Or.inr ⟨g, e, Nat.le_trans h.size hg⟩
theorem Mv.of (h : Below w.heap.size w w') : Mv q v v w w' := ⟨h.os, h.tape, h.output, h.size, fun i hi _ _ => h.block i hi, Or.inl rfl⟩
end
structure Rp (w0 : World) (B q k : Nat) (v : Value) (K : List Upd) (gb : Nat) (u : Upd) (w : World) : Prop where
  rf : Rf B q k v K w
  box : Bx 39 gb u.n u.i u.s w
  below : Below w0.heap.size w0 w
section
variable {w0 : World} {B q k : Nat} {v : Value} {K : List Upd} {gb : Nat} {u : Upd} {w w' : World}
theorem Rp.later (h : Rp w0 B q k v K gb u w) (b : Below w.heap.size w w') : Rp w0 B q k v K gb u w' := ⟨h.rf.below b, h.box.below b, h.below.trans (b.mono h.below.size)⟩
theorem Rp.drew (h : Rp w0 B q k v K gb u w) : Rp w0 B q k v K gb u w.drew := h.later (below_drewN _ _ 1)
theorem Rp.alloc (h : Rp w0 B q k v K gb u w) (o : Obj) : Rp w0 B q k v K gb u (w.alloc o) := h.later (below_alloc _ _)
theorem Rp.s (h : Rp w0 B q k v K gb u w) : w.cell? ⟨q, 1, none⟩ = some v ∧ w.cell? ⟨gb, 0, none⟩ = some (.int .i64 u.n) ∧ w.cell? ⟨gb, 1, none⟩ = some (.int .u64 u.i) ∧ w.cell? ⟨gb, 2, none⟩ = some (.int .i64 u.s) := ⟨h.rf.c1, h.box.c0, h.box.c1, h.box.c2⟩
end
theorem Rp.grown {w0 : World} {B q k : Nat} {v : Value} {K : List Upd} {gb : Nat} {u : Upd} {w w' : World} (h : Rp w0 B q k v K gb u w) (hv : v.ownBlock ≠ some gb) (hg : w.grownBy w' v.ownBlock) :
    w'.heap[q]? = some (.cells #[.int .i64 k, v] 152 (0, 0)) ∧ (w'.cell? ⟨q, 1, none⟩ = some v ∧ w'.cell? ⟨gb, 0, none⟩ = some (.int .i64 u.n) ∧ w'.cell? ⟨gb, 1, none⟩ = some (.int .u64 u.i) ∧ w'.cell? ⟨gb, 2, none⟩ = some (.int .i64 u.s)) := by
  have e1 : w'.heap[q]? = w.heap[q]? := hg.block q h.rf.lt (fun e => h.rf.ne e.symm)
  have e2 := h.box.keep (hg.block gb h.box.lt (fun e => hv e.symm))
  exact ⟨e1.trans h.rf.heap, (World.cell?_of_block (w := w) (a := ⟨q, 1, none⟩) e1).trans h.rf.c1, e2.c0, e2.c1, e2.c2⟩
theorem Own.form {B : Nat} {v : Value} {l : List Upd} {w : World} (h : Own B v l w) : ∃ a L cap, v = .slice a L cap := by
  obtain ⟨a, cap, e, _⟩ := h.ru
  exact ⟨a, _, cap, e⟩
theorem rf_put {B q k g n cap : Nat} {K : List Upd} {w : World} (h : Rf B q k (.slice (some ⟨g, 0, none⟩) n cap) K w) {j : Nat} (hj : j < K.length) (u : Upd) :
    Rf B q k (.slice (some ⟨g, 0, none⟩) n cap) (K.set j u) (((w.setCell ⟨g, j * 3, none⟩ (.int .i64 u.n)).setCell ⟨g, j * 3 + 1, none⟩ (.int .u64 u.i)).setCell ⟨g, j * 3 + 2, none⟩ (.int .i64 u.s)).drew := by
  have hne : q ≠ g := fun e => h.ne (by rw [e]; rfl)
  refine ⟨?_, (h.row.put hj u).keep fun _ _ _ => rfl, h.ne⟩
  show (((w.setCell ⟨g, j * 3, none⟩ (.int .i64 u.n)).setCell ⟨g, j * 3 + 1, none⟩ (.int .u64 u.i)).setCell ⟨g, j * 3 + 2, none⟩ (.int .i64 u.s)).heap[q]? = _
  rw [Below.heap_setCell _ _ _ _ hne, Below.heap_setCell _ _ _ _ hne, Below.heap_setCell _ _ _ _ hne]
  exact h.heap
theorem mv_put {q : Nat} {g n cap : Nat} {w w1 : World} (h : Below w.heap.size w w1) (a b c : Nat) (x y z : Value) :
    Mv q (.slice (some ⟨g, 0, none⟩) n cap) (.slice (some ⟨g, 0, none⟩) n cap) w (((w1.setCell ⟨g, a, none⟩ x).setCell ⟨g, b, none⟩ y).setCell ⟨g, c, none⟩ z).drew := by
  refine ⟨h.os, h.tape, h.output, ?_, fun i hi _ hv => ?_, Or.inl rfl⟩
  · show w.heap.size ≤ (((w1.setCell ⟨g, a, none⟩ x).setCell ⟨g, b, none⟩ y).setCell ⟨g, c, none⟩ z).heap.size
    simpa [World.setCell] using h.size
  · have hne : i ≠ g := fun e => hv (by rw [e]; rfl)
    show (((w1.setCell ⟨g, a, none⟩ x).setCell ⟨g, b, none⟩ y).setCell ⟨g, c, none⟩ z).heap[i]? = _
    rw [Below.heap_setCell _ _ _ _ hne, Below.heap_setCell _ _ _ _ hne, Below.heap_setCell _ _ _ _ hne]
    exact h.block i hi
theorem rf_app {w : World} {B q k : Nat} {v v' : Value} {K K' : List Upd} {gb : Nat} {u : Upd} {w3 w4 : World} (hS : Rp w B q k v K gb u w3) (hq : q < w.heap.size) (hq4 : w4.heap[q]? = some (.cells #[.int .i64 k, v] 152 (0, 0)))
    (h1 : Own B v' K' w4) (h5 : w3.grownBy w4 v.ownBlock) (h6 : v'.ownBlock = v.ownBlock ∨ v'.ownBlock = some w3.heap.size) : Rf B q k v' K' (w4.setCell ⟨q, 1, none⟩ v') ∧ Mv q v v' w (w4.setCell ⟨q, 1, none⟩ v') := by
  have hs := hS.below.size
  have hne : v'.ownBlock ≠ some q := by
    rcases h6 with h | h
    · rw [h]; exact hS.rf.ne
    · rw [h]; intro e; have := Option.some.inj e; omega
  refine ⟨⟨by simp [World.setCell, Array.getElem?_modify, hq4], h1.keep fun g e _ => Below.heap_setCell _ _ _ _ (fun e' => hne (by rw [e, e'])), hne⟩, ?_⟩
  refine ⟨h5.os.trans hS.below.os, h5.tape.trans hS.below.tape, h5.output.trans hS.below.output, ?_, fun i hi hiq hiv => ?_, ?_⟩
  · have := h5.size
    simp [World.setCell]
    omega
  · exact (Below.heap_setCell _ _ _ _ hiq).trans ((h5.block i (by omega) hiv).trans (hS.below.block i hi))
  · rcases h6 with h | h
    · exact Or.inl h
    · exact Or.inr ⟨_, h, hs⟩
set_option maxRecDepth 100000 in
set_option maxHeartbeats 1000000 in
theorem rput_any (B q k : Nat) (v : Value) (K : List Upd) (u : Upd) (w : World) (hl : K.length ≤ 100000) (hB : B ≤ w.heap.size) (hR : Rf B q k v K w) :
    Calls Tryz.prog 138 #[.pointer (some ⟨q, 0, none⟩), .agg #[.int .i64 u.n, .int .u64 u.i, .int .i64 u.s]] w fun e w' => e = .returned (.tuple #[]) ∧ ∃ v', Rf B q k v' (putK K u) w' ∧ Mv q v v' w w' := by
  have ba := below_alloc w (.cells #[.int .i64 u.n, .int .u64 u.i, .int .i64 u.s] 39)
  have hS0 : Rp w B q k v K w.heap.size u (w.alloc (.cells #[.int .i64 u.n, .int .u64 u.i, .int .i64 u.s] 39)) := ⟨hR.below ba, Bx.new _ _ _ _ _, ba⟩
  obtain ⟨a, cap, rfl, hc1, hc2, h3⟩ := hR.row.ru
  have hll : (K.length : Int) ≤ 100000 := by omega
  obtain ⟨K', HK⟩ : ∃ K', Hid (putK K u = K') := ⟨_, rfl⟩
  rw [HK.out]
  go_enter Tryz.func138, Tryz.ntmps138
  go_wp2_with fail
  go_loopg [4] K.length (fun gk t4 wr => ∃ j : Nat, j + gk = K.length ∧ t4 = .int .i64 j ∧ (∀ i, i < j → ∀ hi : i < K.length, K[i].n ≠ u.n) ∧ Rp w B q k (.slice a K.length cap) K w.heap.size u wr)
  case atStart => exact ⟨0, by omega, rfl, fun i hi => by omega, hS0⟩
  case round =>
    obtain ⟨j, hj, rfl, hno, hS⟩ := hrel
    clear hS0
    obtain ⟨x1, y0, y1, y2⟩ := hS.s
    by_cases hlt : (j : Int) < K.length
    · have hj' : j < K.length := by omega
      have j0 : (0 : Int) ≤ j := by omega
      obtain ⟨g, rfl⟩ := hS.rf.row.ex (by omega)
      obtain ⟨c0, c1, c2⟩ := hS.rf.row.at0 hj'
      have hat := fun h => putK_at K u hj' h hno
      have hno' : K[j].n ≠ u.n → ∀ i, i < j + 1 → ∀ hi : i < K.length, K[i].n ≠ u.n := fun h i hi hi' => by
        by_cases e : i = j
        · subst e; exact h
        · exact hno i (by omega) hi'
      generalize hx : K[j] = x at *
      have HX : Hid _ := hx
      clear hx
      cases hu : (x.n == u.n)
      case false =>
        have hno2 := hno' (by simpa using hu)
        clear hat hno'
        go_wp2_with fail
        go_quiet (fail)
        have hS2 := hS.later (below_drewN _ _ nq)
        go_wp2_with fail
        go_roundg (gk - 1)
        case rel => exact ⟨j + 1, by omega, by go_num, hno2, hS2⟩
        case measure => omega
      case true =>
        have hK' : K' = K.set j u := by rw [← HK.out]; exact hat (by simpa using hu)
        clear hat hno'
        go_wp2_with fail
        go_quiet (fail)
        have hS2 := hS.later (below_drewN _ _ nq)
        generalize wr.drewN nq = w2 at *
        clear x1 y0 y1 y2 c0 c1 c2
        obtain ⟨x1, y0, y1, y2⟩ := hS2.s
        obtain ⟨c0, c1, c2⟩ := hS2.rf.row.at0 hj'
        rw [HX.out] at c0 c1 c2
        have z0 := hS2.rf.row.free (j * 3)
        have z1 := hS2.rf.row.free (j * 3 + 1)
        have z2 := hS2.rf.row.free (j * 3 + 2)
        have hend := rf_put hS2.rf hj' u
        have hmv := mv_put (q := q) (g := g) (n := K.length) (cap := cap) hS2.below (j * 3) (j * 3 + 1) (j * 3 + 2) (.int .i64 u.n) (.int .u64 u.i) (.int .i64 u.s)
        rw [← hK'] at hend
        go_wp2_with fail
        go_region
        go_wp2_with fail
        refine bodyPost_ret (results_none rfl _ _ _) rfl ?_
        exact ⟨rfl, _, hend, hmv⟩
    · have hK' : K' = K ++ [u] := by
        rw [← HK.out]
        refine putK_end K u fun x hx => ?_
        obtain ⟨i, hi, rfl⟩ := List.mem_iff_getElem.1 hx
        exact hno i (by omega) hi
      have hU := Ru.one (u := u) (Bx.new 39 u.n u.i u.s wr).drew
      have hsz : B ≤ (wr.alloc (.cells #[.int .i64 u.n, .int .u64 u.i, .int .i64 u.s] 39)).drew.heap.size := by
        show B ≤ (wr.alloc (.cells #[.int .i64 u.n, .int .u64 u.i, .int .i64 u.s] 39)).heap.size
        have := hS.below.size
        simp
        omega
      have hS3 := (hS.alloc (.cells #[.int .i64 u.n, .int .u64 u.i, .int .i64 u.s] 39)).drew
      have hvb : (Value.slice a K.length cap).ownBlock ≠ some w.heap.size := fun e => by have := (hR.row.lt _ e).2; omega
      go_wp2_with fail
      obtain ⟨m1, m2, m3, m4⟩ := hS3.s
      obtain ⟨n1, n2, n3, n4⟩ := hS.drew.s
      go_region_law (
        refine step_app _ (by rfl) (.tmp 36) (.tmp 38) (by rfl) B _ K (by rfl) hS3.rf.row hsz wr.heap.size 0 1 [u] 1 rfl (by rfl) hU (by simp; omega) ?_
        intro v4 w4 h1 h5 h6
        obtain ⟨a4, L4, cap4, rfl⟩ := Own.form h1
        have hq4 := (Rp.grown hS3 hvb h5).1
        have k1 : w4.cell? ⟨q, 1, none⟩ = some (.slice a K.length cap) := (Rp.grown hS3 hvb h5).2.1
        have k2 : w4.frozen? ⟨q, 1, none⟩ = false := by simp [World.frozen?, hq4])
      all_goals go_wp2_with fail
      all_goals go_end0
      all_goals obtain ⟨e1, e2⟩ := rf_app hS3 hR.lt hq4 h1 h5 h6
      all_goals exact ⟨rfl, _, by rw [hK']; exact e1, e2⟩
structure Rh (w0 : World) (B q k : Nat) (v : Value) (K : List Upd) (gu : Nat) (u : Upd) (go : Nat) (o : Upd) (w : World) : Prop where
  rf : Rf B q k v K w
  bu : Bx 39 gu u.n u.i u.s w
  bo : Bx 39 go o.n o.i o.s w
  below : Below w0.heap.size w0 w
section
variable {w0 : World} {B q k : Nat} {v : Value} {K : List Upd} {gu : Nat} {u : Upd} {go : Nat} {o : Upd} {w w' : World}
theorem Rh.later (h : Rh w0 B q k v K gu u go o w) (b : Below w.heap.size w w') : Rh w0 B q k v K gu u go o w' := ⟨h.rf.below b, h.bu.below b, h.bo.below b, h.below.trans (b.mono h.below.size)⟩
theorem Rh.on {x : Kept (Rh w0 B q k v K gu u go o)} (b : Below x.at_.heap.size x.at_ w') : ∃ y : Kept (Rh w0 B q k v K gu u go o), w' = y.at_ := ⟨⟨w', x.is.later b⟩, rfl⟩
end
set_option maxRecDepth 100000 in
set_option maxHeartbeats 2000000 in
theorem rhear_any (B q k : Nat) (v : Value) (K : List Upd) (u : Upd) (w : World) (hG : Good k K) (hu : InOk u) (hB : B ≤ w.heap.size) (hR : Rf B q k v K w) :
    Calls Tryz.prog 93 #[.pointer (some ⟨q, 0, none⟩), .agg #[.int .i64 u.n, .int .u64 u.i, .int .i64 u.s]] w fun e w' =>
      e = .returned (.tuple #[.bool (hearS k (tabK K) u).1.1, .int .i64 (hearS k (tabK K) u).1.2]) ∧ ∃ v' K', tabK K' = (hearS k (tabK K) u).2 ∧ Good k K' ∧ Rf B q k v' K' w' ∧ Mv q v v' w w' := by
  have hl := hG.len
  have ba := below_alloc w (.cells #[.int .i64 u.n, .int .u64 u.i, .int .i64 u.s] 39)
  have hX := Bx.new 39 u.n u.i u.s w
  have hR1 := hR.below ba
  have hinv := hear_inv hG.inv hu
  obtain ⟨r, HR⟩ : ∃ r, Hid (hearS k (tabK K) u = r) := ⟨_, rfl⟩
  rw [HR.out] at hinv ⊢
  go_enter Tryz.func93, Tryz.ntmps93
  go_wp2_with fail
  refine (fmay_any _ _ _ _).mono ?_
  cases hm : mayS u.n u.s
  case false =>
    obtain rfl : r = ((false, 1), tabK K) := by rw [← HR.out]; simp [hearS, mayU, hm]
    rintro e w1 ⟨rfl, hb1⟩
    go_wp2_with fail
    go_ret2
    exact ⟨rfl, v, K, rfl, hG, hR1.below hb1, Mv.of (ba.trans (hb1.mono ba.size))⟩
  case true =>
    rintro e w1 ⟨rfl, hb1⟩
    have hn : 0 ≤ u.n ∧ u.n < 64 := by simp [mayS] at hm; omega
    have hB1 := ba.trans (hb1.mono ba.size)
    have hX1 := hX.below hb1
    have hR2 := hR1.below hb1
    clear hX hR1 hb1 ba
    have x0 := hX1.c0
    have x1 := hX1.c1
    have x2 := hX1.c2
    have hGt := rget_any B q k v K u.n w1 (by omega) hR2
    have hgt : getK K u.n = tabK K u.n.toNat := by unfold tabK; rw [show ((u.n.toNat : Nat) : Int) = u.n by omega]
    rw [hgt] at hGt
    obtain ⟨o, ho⟩ : ∃ o, Hid (ud (tabK K u.n.toNat) = o) := ⟨_, rfl⟩
    obtain ⟨c, hc⟩ : ∃ c, Hid ((tabK K u.n.toNat).isSome = c) := ⟨_, rfl⟩
    rw [ho.out, hc.out] at hGt
    go_wp2_with fail
    refine hGt.mono ?_
    rintro e w2 ⟨rfl, hb2⟩
    have bc := below_alloc w2 (.cells #[.int .i64 o.n, .int .u64 o.i, .int .i64 o.s] 39)
    have hJ : Rh w B q k v K w.heap.size u w2.heap.size o (w2.alloc (.cells #[.int .i64 o.n, .int .u64 o.i, .int .i64 o.s] 39)) :=
      ⟨(hR2.below hb2).below bc, (hX1.below hb2).below bc, Bx.new _ _ _ _ _, (hB1.trans (hb2.mono hB1.size)).trans (bc.mono (Nat.le_trans hB1.size hb2.size))⟩
    generalize hgo : w2.heap.size = go at *
    generalize hw3 : w2.alloc (.cells #[.int .i64 o.n, .int .u64 o.i, .int .i64 o.s] 39) = w3 at *
    have HW3 : Hid _ := hw3
    have HGO : Hid _ := hgo
    have y0 := hJ.bu.c0
    have y1 := hJ.bu.c1
    have y2 := hJ.bu.c2
    have z := hJ.rf.c0
    clear x0 x1 x2 hX1 hR2 hB1 hb2 bc hGt hgt
    cases hq : (u.n == (k : Int))
    case true =>
      have hk : u.n.toNat = k := by have : u.n = k := by simpa using hq
                                    omega
      have hr : r = ((false, (refuteS k (tabK K) u).1), (refuteS k (tabK K) u).2) := by rw [← HR.out]; simp [hearS, mayU, hm, hq]
      have hrs : refuteS k (tabK K) u = if denS k o.i u.n u.i u.s then (if u.i == 18446744073709551615 then (60, tabK K) else (0, (tabK K).set k ⟨k, u.i + 1, 0⟩)) else (70, tabK K) := by
        unfold refuteS; rw [← ho.out, hk]
      have HRS : Hid _ := hrs
      clear hrs
      go_wp2_with fail
      go_quiet (fail)
      have hJ2 := hJ.later (below_drewN _ _ nq)
      generalize w3.drewN nq = w4 at *
      have hJd := hJ2.later (below_drewN _ _ 1)
      have hne : Nonempty (Kept (Rh w B q k v K w.heap.size u go o)) := ⟨⟨_, hJ2⟩⟩
      have a0 : ∀ x : Kept (Rh w B q k v K w.heap.size u go o), x.at_.cell? ⟨q, 0, none⟩ = some (.int .i64 k) := fun x => x.is.rf.c0
      have b0 : ∀ x : Kept (Rh w B q k v K w.heap.size u go o), x.at_.cell? ⟨w.heap.size, 0, none⟩ = some (.int .i64 u.n) := fun x => x.is.bu.c0
      have b1 : ∀ x : Kept (Rh w B q k v K w.heap.size u go o), x.at_.cell? ⟨w.heap.size, 1, none⟩ = some (.int .u64 u.i) := fun x => x.is.bu.c1
      have b2 : ∀ x : Kept (Rh w B q k v K w.heap.size u go o), x.at_.cell? ⟨w.heap.size, 2, none⟩ = some (.int .i64 u.s) := fun x => x.is.bu.c2
      have d1 : ∀ x : Kept (Rh w B q k v K w.heap.size u go o), x.at_.cell? ⟨go, 1, none⟩ = some (.int .u64 o.i) := fun x => x.is.bo.c1
      clear y0 y1 y2 z hJ
      cases hd : denS k o.i u.n u.i u.s
      case false =>
        obtain rfl : r = ((false, 70), tabK K) := by rw [hr, HRS.out, hd]; rfl
        have hv : refS k o.i u.n u.i u.s = .tuple #[.int .u64 o.i, .bool false, .int .i64 0] := by simp [refS, hd]
        go_wp2_with fail
        refine wp_region_kept (Rh w B q k v K w.heap.size u go o) (by kernel_rfl) (by kernel_rfl) hJd ?_
        repeat (go_big_quiet_step (first
          | (refine (frefute_any _ _ _ _ _ hu.1 hu.2 _).mono ?_; rw [hv]; rintro e w4 ⟨rfl, hb4⟩; exact ⟨rfl, Rh.on hb4⟩)))
        refine wpQuiet_nil ?_
        intro w5 h5
        go_wp2_with fail
        go_ret2
        exact ⟨rfl, v, K, rfl, hG, h5.rf, Mv.of h5.below⟩
      case true =>
        cases hi : (u.i == 18446744073709551615)
        case true =>
          obtain rfl : r = ((false, 60), tabK K) := by rw [hr, HRS.out, hd, hi]; rfl
          have hv : refS k o.i u.n u.i u.s = .tuple #[.int .u64 o.i, .bool false, .int .i64 60] := by simp [refS, hd, hi]
          go_wp2_with fail
          refine wp_region_kept (Rh w B q k v K w.heap.size u go o) (by kernel_rfl) (by kernel_rfl) hJd ?_
          repeat (go_big_quiet_step (first
            | (refine (frefute_any _ _ _ _ _ hu.1 hu.2 _).mono ?_; rw [hv]; rintro e w4 ⟨rfl, hb4⟩; exact ⟨rfl, Rh.on hb4⟩)))
          refine wpQuiet_nil ?_
          intro w5 h5
          go_wp2_with fail
          go_ret2
          exact ⟨rfl, v, K, rfl, hG, h5.rf, Mv.of h5.below⟩
        case false =>
          have hr' : r = ((false, 0), (tabK K).set k ⟨k, u.i + 1, 0⟩) := by rw [hr, HRS.out, hd, hi]; rfl
          clear hr
          subst hr'
          have hv : refS k o.i u.n u.i u.s = .tuple #[.int .u64 (u.i + 1), .bool true, .int .i64 0] := by simp [refS, hd, hi]
          go_wp2_with fail
          refine wp_region_kept (Rh w B q k v K w.heap.size u go o) (by kernel_rfl) (by kernel_rfl) hJd ?_
          repeat (go_big_quiet_step (first
            | (refine (frefute_any _ _ _ _ _ hu.1 hu.2 _).mono ?_; rw [hv]; rintro e w4 ⟨rfl, hb4⟩; exact ⟨rfl, Rh.on hb4⟩)))
          refine wpQuiet_nil ?_
          intro w5 h5
          have zz := h5.rf.c0
          go_wp2_with fail
          refine (rput_any B q k v K ⟨k, u.i + 1, 0⟩ w5 (by omega) (Nat.le_trans hB h5.below.size) h5.rf).mono ?_
          rintro e w6 ⟨rfl, v6, hR6, hM6⟩
          go_wp2_with fail
          go_ret2
          exact ⟨rfl, v6, putK K ⟨k, u.i + 1, 0⟩, tabK_put _ _ rfl, good_put hG rfl hinv, hR6, (Mv.of h5.below).trans hM6⟩
    case false =>
      have hr : r = if c && !newerU u o then ((false, 70), tabK K) else ((true, 0), (tabK K).set u.n.toNat u) := by
        rw [← HR.out, ← ho.out, ← hc.out]; simp only [hearS, mayU, hm, hq, if_true]; rfl
      have HRR : Hid _ := hr
      clear hr
      go_wp2_with fail
      go_quiet (fail)
      have hJ2 := hJ.later (below_drewN _ _ nq)
      generalize w3.drewN nq = w4 at *
      clear y0 y1 y2 z hJ
      have y0 := hJ2.bu.c0
      have y1 := hJ2.bu.c1
      have y2 := hJ2.bu.c2
      have z0 := hJ2.bo.c0
      have z1 := hJ2.bo.c1
      have z2 := hJ2.bo.c2
      have hun : u.n = (u.n.toNat : Nat) := by omega
      have HUN : Hid _ := hun
      clear hun
      cases c
      case false =>
        obtain rfl : r = ((true, 0), (tabK K).set u.n.toNat u) := by rw [HRR.out]; rfl
        go_wp2_with fail
        refine (rput_any B q k v K u w4 (by omega) (Nat.le_trans hB hJ2.below.size) hJ2.rf).mono ?_
        rintro e w6 ⟨rfl, v6, hR6, hM6⟩
        go_wp2_with fail
        go_ret2
        exact ⟨rfl, v6, putK K u, tabK_put _ _ HUN.out, good_put hG HUN.out hinv, hR6, (Mv.of hJ2.below).trans hM6⟩
      case true =>
        go_wp2_with fail
        refine (fnewer_any _ _ _ _ _ _ _).mono ?_
        cases hN : newerS u.i u.s o.i o.s
        case false =>
          obtain rfl : r = ((false, 70), tabK K) := by rw [HRR.out]; simp [newerU, hN]
          rintro e w5 ⟨rfl, hb5⟩
          go_wp2_with fail
          go_ret2
          exact ⟨rfl, v, K, rfl, hG, hJ2.rf.below hb5, Mv.of (hJ2.below.trans (hb5.mono hJ2.below.size))⟩
        case true =>
          obtain rfl : r = ((true, 0), (tabK K).set u.n.toNat u) := by rw [HRR.out]; simp [newerU, hN]
          rintro e w5 ⟨rfl, hb5⟩
          have hJ3 := hJ2.later hb5
          clear y0 y1 y2 z0 z1 z2
          have y0 := hJ3.bu.c0
          have y1 := hJ3.bu.c1
          have y2 := hJ3.bu.c2
          go_wp2_with fail
          refine (rput_any B q k v K u w5 (by omega) (Nat.le_trans hB hJ3.below.size) hJ3.rf).mono ?_
          rintro e w6 ⟨rfl, v6, hR6, hM6⟩
          go_wp2_with fail
          go_ret2
          exact ⟨rfl, v6, putK K u, tabK_put _ _ HUN.out, good_put hG HUN.out hinv, hR6, (Mv.of hJ3.below).trans hM6⟩
end Go.Proofs.YtpoofjnfaijjjaaGreatDoor.Ro
