/-
  Notes in boxes; a call as one step of a region that draws its order; a row of one update. say. ping, pinged, miss, Know. Rows of watches: IndexFunc, DeleteFunc, Clone. A panic that is recovered; Know.
-/
import Derived.Test.YtpoofjnfaijjjaaGreatDoorMTkd
import Derived.Deep.RegionLaw
import Derived.Laws.OwnMore
import Derived.Defers
import Derived.Recover
namespace Go.Proofs.YtpoofjnfaijjjaaGreatDoor
open Go.RowKit Go.Proofs.YtpoofjnfaijjjaaGreatDoor.Ro
abbrev ntC (k f t q o : Int) (v : Value) : Array Value := #[.int .i64 k, .int .i64 f, .int .i64 t, .int .u64 q, .int .i64 o, v]
structure Bn (g : Nat) (k f t q o : Int) (v : Value) (w : World) : Prop where
  heap : w.heap[g]? = some (.cells (ntC k f t q o v) 37 (0, 0))
section
variable {g : Nat} {k f t q o : Int} {v : Value} {w w' : World}
theorem Bn.c0 (h : Bn g k f t q o v w) : w.cell? ⟨g, 0, none⟩ = some (.int .i64 k) := by simp [World.cell?, h.heap]
theorem Bn.c1 (h : Bn g k f t q o v w) : w.cell? ⟨g, 1, none⟩ = some (.int .i64 f) := by simp [World.cell?, h.heap]
theorem Bn.c2 (h : Bn g k f t q o v w) : w.cell? ⟨g, 2, none⟩ = some (.int .i64 t) := by simp [World.cell?, h.heap]
theorem Bn.c3 (h : Bn g k f t q o v w) : w.cell? ⟨g, 3, none⟩ = some (.int .u64 q) := by simp [World.cell?, h.heap]
theorem Bn.c4 (h : Bn g k f t q o v w) : w.cell? ⟨g, 4, none⟩ = some (.int .i64 o) := by simp [World.cell?, h.heap]
theorem Bn.c5 (h : Bn g k f t q o v w) : w.cell? ⟨g, 5, none⟩ = some v := by simp [World.cell?, h.heap]
theorem Bn.free (h : Bn g k f t q o v w) (j : Nat) : w.frozen? ⟨g, j, none⟩ = false := free_of h.heap j
theorem Bn.lt (h : Bn g k f t q o v w) : g < w.heap.size := (Array.getElem?_eq_some_iff.1 h.heap).1
theorem Bn.keep (h : Bn g k f t q o v w) (e : w'.heap[g]? = w.heap[g]?) : Bn g k f t q o v w' := ⟨e.trans h.heap⟩
theorem Bn.below (h : Bn g k f t q o v w) (b : Below w.heap.size w w') : Bn g k f t q o v w' := h.keep (b.block g h.lt)
theorem Bn.drew (h : Bn g k f t q o v w) : Bn g k f t q o v w.drew := ⟨h.heap⟩
theorem Bn.new (k f t q o : Int) (v : Value) (w : World) : Bn w.heap.size k f t q o v (w.alloc (.cells (ntC k f t q o v) 37)) := ⟨heap_alloc_new w _⟩
theorem Bn.set1 (h : Bn g k f t q o v w) (x : Int) : Bn g k x t q o v (w.setCell ⟨g, 1, none⟩ (.int .i64 x)) := ⟨by simp [World.setCell, Array.getElem?_modify, h.heap]⟩
theorem Bn.set5 (h : Bn g k f t q o v w) (x : Value) : Bn g k f t q o x (w.setCell ⟨g, 5, none⟩ x) := ⟨by simp [World.setCell, Array.getElem?_modify, h.heap]⟩
theorem Bn.other (h : Bn g k f t q o v w) {a : Addr} (ha : g ≠ a.block) (x : Value) : Bn g k f t q o v (w.setCell a x) := h.keep (Below.heap_setCell _ _ _ _ ha)
end
theorem Bn.set6 {g : Nat} {k f t q o : Int} {v : Value} {w : World} (h : Bn g k f t q o v w) (k' f' t' q' o' : Int) (v' : Value) :
    Bn g k' f' t' q' o' v' ((((((w.setCell ⟨g, 0, none⟩ (.int .i64 k')).setCell ⟨g, 1, none⟩ (.int .i64 f')).setCell ⟨g, 2, none⟩ (.int .i64 t')).setCell ⟨g, 3, none⟩ (.int .u64 q')).setCell ⟨g, 4, none⟩ (.int .i64 o')).setCell ⟨g, 5, none⟩ v') :=
  ⟨by simp [World.setCell, Array.getElem?_modify, h.heap]⟩
theorem bS {a w : World} (h : Below a.heap.size a w) {g : Nat} (hg : a.heap.size ≤ g) (j : Nat) (x : Value) : Below a.heap.size a (w.setCell ⟨g, j, none⟩ x) := h.setCell (p := ⟨g, j, none⟩) hg x
theorem own_one {B g : Nat} {u : Upd} {w : World} (h : Bx 39 g u.n u.i u.s w) (hB : B ≤ g) : Ro.Own B (.slice (some ⟨g, 0, none⟩) 1 1) [u] w :=
  ⟨rfl, Or.inr ⟨g, 1, #[.int .i64 u.n, .int .u64 u.i, .int .i64 u.s], rfl, hB, h.heap, Nat.le_refl _, by unfold maxLen; omega, rfl, rfl⟩⟩
theorem step_call {P : Program} {ops : Array Oper} {oi : Oper} {a : Act} {K : Act → World → Prop} {Q : Exit → Act → World → Prop} {E : Prop} {w : World} (hg : oi.guard = none) (F : FuncId) (xs : List Operand) (ts : Array TypeId)
    (ho : oi.op = .call { callee := .value (.func F), args := xs.toArray, argTypes := ts }) (vs : List Value) (hen : ∀ args w, (callFunc F args).run P w = .ok (.enter F args) w) (hx : xs.map a.eval = vs)
    {R : Ending → World → Prop} (hc : Calls P F vs.toArray w R) (h : ∀ e w', R e w' → ∃ v, e = .returned v ∧ K (a.put oi.dst v) w') : if Region.wanted oi (yielded ops a.tmps) = true then Oper.wp P oi a w K Q else E := by
  have hw : Region.wanted oi (yielded ops a.tmps) = true := by simp [Region.wanted, hg]
  rw [if_pos hw]
  have he : Act.eval a (.func F) = .func (.func F) #[] #[] := rfl
  unfold Oper.wp execOp
  simp only [ho, resolve, he, Deferred.ofValue, invoke, Sem.run_bind, Sem.run_pure, Result.andThen_ok, List.map_toArray, hx, hen, Array.append_empty]
  rw [Array.empty_append]
  refine Calls.mono hc ?_
  intro e w' hR
  obtain ⟨v, rfl, hK⟩ := h e w' hR
  exact hK
theorem wp_app2 {o : Oper} {a : Act} {K : Act → World → Prop} {Q : Exit → Act → World → Prop} (w : World) (s x : Operand)
    (ho : o.op = .call { callee := .builtin .append, args := #[s, x], argTypes := #[35, 35] }) (B C : Nat) (v u : Value) (l r : List Upd) (hs : a.eval s = v) (hown : Ro.Own B v l w) (hB : B ≤ w.heap.size)
    (hx : a.eval x = u) (hu : Ro.Own C u r w) (hl : l.length + r.length ≤ 1000000)
    (h : ∀ v' w', Ro.Own B v' (l ++ r) w' → w.grownBy w' v.ownBlock → (v'.ownBlock = v.ownBlock ∨ v'.ownBlock = some w.heap.size) → K (a.put o.dst v') w') : o.wp Tryz.prog a w K Q := by
  rcases id hu.2 with ⟨rfl, h0⟩ | ⟨g, cap, cur, rfl, _⟩
  · obtain rfl : r = [] := List.length_eq_zero_iff.1 h0
    obtain ⟨i0, hi, _, _, _⟩ := info_parts infoU
    have hr := run_append_owned_none (P := Tryz.prog) w B 35 o.type 39 i0 3 Tryz.underlying35 hi v l.length (flat l) hown
    unfold Oper.wp execOp
    simp only [ho, resolve, invoke, builtin, Sem.run_bind, Sem.run_pure, Result.andThen_ok, List.map_toArray, List.map_cons, List.map_nil, hs, hx, hr]
    exact h v w (by rw [List.append_nil]; exact hown) ⟨rfl, rfl, rfl, Nat.le_refl _, fun _ _ _ => rfl⟩ (.inl rfl)
  · exact wp_app w s x ho B v l hs hown hB g 0 cap r r.length rfl hx hu.ru hl h
theorem step_app2 {ops : Array Oper} {o : Oper} {a : Act} {K : Act → World → Prop} {Q : Exit → Act → World → Prop} {E : Prop} (w : World) (hgd : o.guard = none) (s x : Operand)
    (ho : o.op = .call { callee := .builtin .append, args := #[s, x], argTypes := #[35, 35] }) (B C : Nat) (v u : Value) (l r : List Upd) (hs : a.eval s = v) (hown : Ro.Own B v l w) (hB : B ≤ w.heap.size)
    (hx : a.eval x = u) (hu : Ro.Own C u r w) (hl : l.length + r.length ≤ 1000000)
    (h : ∀ v' w', Ro.Own B v' (l ++ r) w' → w.grownBy w' v.ownBlock → (v'.ownBlock = v.ownBlock ∨ v'.ownBlock = some w.heap.size) → K (a.put o.dst v') w') :
    if Region.wanted o (yielded ops a.tmps) = true then Oper.wp Tryz.prog o a w K Q else E := by
  have hw : Region.wanted o (yielded ops a.tmps) = true := by simp [Region.wanted, hgd]
  rw [if_pos hw]
  exact wp_app2 w s x ho B C v u l r hs hown hB hx hu hl h
theorem Bn.grown {g : Nat} {k f t q o : Int} {v : Value} {w w' : World} {row : Option Nat} (h : Bn g k f t q o v w) (hg : w.grownBy w' row) (hr : row ≠ some g) : Bn g k f t q o v w' := h.keep (hg.block g h.lt (fun e => hr e.symm))
theorem bG {a w w' : World} {row : Option Nat} (h : Below a.heap.size a w) (hg : w.grownBy w' row) (hr : ∀ g, row = some g → a.heap.size ≤ g) : Below a.heap.size a w' :=
  h.trans ⟨hg.os, hg.tape, hg.output, hg.size, fun i hi => hg.block i (Nat.lt_of_lt_of_le hi h.size) (fun e => by have := hr i e.symm; omega)⟩
theorem below_set6 {B g : Nat} {a w : World} (h : Below B a w) (hg : B ≤ g) (x0 x1 x2 x3 x4 x5 : Value) :
    Below B a ((((((w.setCell ⟨g, 0, none⟩ x0).setCell ⟨g, 1, none⟩ x1).setCell ⟨g, 2, none⟩ x2).setCell ⟨g, 3, none⟩ x3).setCell ⟨g, 4, none⟩ x4).setCell ⟨g, 5, none⟩ x5) :=
  (((((h.setCell (p := ⟨g, 0, none⟩) hg _).setCell (p := ⟨g, 1, none⟩) hg _).setCell (p := ⟨g, 2, none⟩) hg _).setCell (p := ⟨g, 3, none⟩) hg _).setCell (p := ⟨g, 4, none⟩) hg _).setCell (p := ⟨g, 5, none⟩) hg _
theorem Sx.high {k Bp p : Nat} {b : Bl} {d0 d : Det} {l0 l : List Int} {w0 w w' : World} (h0 : Sx k Bp p b d0 l0 w0) (h : Sx k Bp p b d l w) (hb : Below w0.heap.size w w') : Sx k Bp p b d l w' :=
  ⟨h.dt.keep hb.size (fun i g hg => hb.block g (h0.dt.sep.lt i g hg).2) (hb.block 1 h0.dt.tab.lt), h.lots.keep fun g _ hg => hb.block g (by have := h0.lots.lt; omega), h.lok, h.out, h.low⟩
theorem Stp.high {p : Nat} {b b' : Bl} {w0 w w' : World} (S : Stp p b w0 b' w) (hb : Below w0.heap.size w w') : Stp p b w0 b' w' :=
  ⟨S.q, S.r, S.fr, hb.os.trans S.os, hb.tape.trans S.tape, hb.output.trans S.output, Nat.le_trans S.size hb.size, fun g hg hp hn => (hb.block g hg).trans (S.block g hg hp hn)⟩
section
variable {k Bp p : Nat} {b : Bl} {d : Det} {l : List Int} {w : World}
theorem rtake_any (h : Sx k Bp p b d l w) (n : Nat) : Calls Tryz.prog 156 #[.pointer (some ⟨b.q, 2, none⟩), .int .i64 (n : Int), .int .i64 d.many] w fun e w' => (∃ v, e = .returned v ∧ Ro.Own w.heap.size v ((d.Q.take n).map Ru.updOf) w') ∧ Sx k Bp p b { d with Q := Ru.takeQ d.Q n (Ru.capS d.many) } l w' ∧ Stp p b w b w' := by
  have hm := many_range d
  refine (Ru.take_any (X := b.xq d) b.q b.mq d.Q h.dt.ok.ql (n : Int) d.many (by omega) w h.dt.qu).mono ?_
  rintro e w' ⟨⟨v, he, ho⟩, hQ, hM⟩
  rw [Int.toNat_natCast] at ho
  obtain ⟨a1, a2⟩ := h.setQ hQ hM (by
    exact Nat.le_trans (Ru.tells_length (Ru.cap_range d.many (by omega)).2 _ h.dt.ok.qi (fun x hx => List.mem_of_mem_take hx) h.dt.ok.qi.nodes.take) h.dt.ok.ql)
  exact ⟨⟨v, he, ho⟩, a1, a2⟩
set_option maxRecDepth 100000 in
set_option maxHeartbeats 4000000 in
theorem say_any (h : Sx k Bp p b d l w) (K F T Q O : Int) :
    Calls Tryz.prog 122 #[.pointer (some ⟨b.q, 0, none⟩), .agg (ntC K F T Q O (.slice none 0 0))] w fun e w' => ∃ v', e = .returned (.agg (ntC K k T Q O v')) ∧ Ro.Own w.heap.size v' (d.news k T) w' ∧ Sx k Bp p b (d.told k T) l w' ∧ Stp p b w b w' := by
  have bB : Below w.heap.size w ((w.alloc (.cells (ntC K F T Q O (.slice none 0 0)) 37)).alloc (.cells (ntC 0 0 0 0 0 (.slice none 0 0)) 37)) := bA (below_alloc _ _) _
  have hN : Bn w.heap.size K F T Q O (.slice none 0 0) ((w.alloc (.cells (ntC K F T Q O (.slice none 0 0)) 37)).alloc (.cells (ntC 0 0 0 0 0 (.slice none 0 0)) 37)) := (Bn.new _ _ _ _ _ _ _).below (below_alloc _ _)
  have hZ : Bn (w.heap.size + 1) 0 0 0 0 0 (.slice none 0 0) ((w.alloc (.cells (ntC K F T Q O (.slice none 0 0)) 37)).alloc (.cells (ntC 0 0 0 0 0 (.slice none 0 0)) 37)) := by
    have := Bn.new 0 0 0 0 0 (.slice none 0 0) (w.alloc (.cells (ntC K F T Q O (.slice none 0 0)) 37))
    rwa [show (w.alloc (.cells (ntC K F T Q O (.slice none 0 0)) 37)).heap.size = w.heap.size + 1 from by simp] at this
  obtain ⟨wB, HWB⟩ : ∃ wB, Hid (wB = (w.alloc (.cells (ntC K F T Q O (.slice none 0 0)) 37)).alloc (.cells (ntC 0 0 0 0 0 (.slice none 0 0)) 37)) := ⟨_, rfl⟩
  rw [← HWB.out] at bB hN hZ
  have hgt := fun w' hR => get_any b.r k T d.f w' hR
  have hmi := fun w' (h' : Sx k Bp p b d l w') => rmine_any h'
  obtain ⟨P, HP⟩ : ∃ P, Hid (d.pre k T = P) := ⟨_, rfl⟩
  unfold Det.news Det.told
  rw [HP.out]
  have HP' : Hid (P = if (getS d.f T).isSome = true ∧ ((ud (getS d.f T)).s = 1 ∨ (ud (getS d.f T)).s = 3) then [ud (d.f k), ud (getS d.f T)] else [ud (d.f k)]) := HP.out.symm
  clear HP
  generalize (getS d.f T).isSome = sm at *
  generalize ud (getS d.f T) = y at *
  generalize ud (d.f k) = m at *
  have x1 := hN.c1
  have f1 := hN.free 1
  go_enter Tryz.func122, Tryz.ntmps122
  go_upto_region 1 with fail
  rw [← HWB.out]
  go_wp2_with fail
  refine (me_any (h.below bB)).mono ?_
  rintro e w1 ⟨rfl, hb1⟩
  have hN1 := hN.below hb1
  have hZ1 := hZ.below hb1
  have hB1 := bT bB hb1
  clear x1 f1 hN hZ bB hb1
  have x1 := hN1.c1
  have f1 := hN1.free 1
  have hN2 := hN1.set1 k
  have hZ2 := hZ1.other (a := ⟨w.heap.size, 1, none⟩) (by simp) (.int .i64 k)
  have hB2 := bS hB1 (Nat.le_refl _) 1 (.int .i64 k)
  obtain ⟨w2, HW2⟩ : ∃ w2, Hid (w2 = w1.setCell ⟨w.heap.size, 1, none⟩ (.int .i64 k)) := ⟨_, rfl⟩
  rw [← HW2.out] at hN2 hZ2 hB2
  have c0 := (h.below hB2).dt.c0
  go_upto_region 2 with fail
  rw [← HW2.out]
  clear x1 f1 hN1 hZ1 hB1
  go_wp2_with fail
  refine (hmi _ (h.below hB2)).mono ?_
  rintro e w3 ⟨rfl, hb3⟩
  have hN3 := hN2.below hb3
  have hZ3 := hZ2.below hb3
  have hB3 := bT hB2 hb3
  clear hN2 hZ2 hB2 hb3 c0
  have bM := below_alloc w3 (.cells #[.int .i64 m.n, .int .u64 m.i, .int .i64 m.s] 39)
  have hM := Bx.new 39 m.n m.i m.s w3
  have hN4 := (hN3.below bM).set5 (.slice (some ⟨w3.heap.size, 0, none⟩) 1 1)
  have hz3 : Hid (w.heap.size < w3.heap.size) := hN3.lt
  have hO4 : Ro.Own w.heap.size (.slice (some ⟨w3.heap.size, 0, none⟩) 1 1) [m] ((w3.alloc (.cells #[.int .i64 m.n, .int .u64 m.i, .int .i64 m.s] 39)).setCell ⟨w.heap.size, 5, none⟩ (.slice (some ⟨w3.heap.size, 0, none⟩) 1 1)) :=
    (own_one hM (Nat.le_of_lt hz3)).keep fun g hg _ => by cases hg; exact Below.heap_setCell _ _ _ _ (show w3.heap.size ≠ w.heap.size from Nat.ne_of_gt hz3)
  have hZ4 := (hZ3.below bM).other (a := ⟨w.heap.size, 5, none⟩) (by simp) (.slice (some ⟨w3.heap.size, 0, none⟩) 1 1)
  have hB4 := bS (bT hB3 bM) (Nat.le_refl _) 5 (.slice (some ⟨w3.heap.size, 0, none⟩) 1 1)
  have x5 := (hN3.below bM).c5
  have f5 := (hN3.below bM).free 5
  obtain ⟨w4, HW4⟩ : ∃ w4, Hid (w4 = (w3.alloc (.cells #[.int .i64 m.n, .int .u64 m.i, .int .i64 m.s] 39)).setCell ⟨w.heap.size, 5, none⟩ (.slice (some ⟨w3.heap.size, 0, none⟩) 1 1)) := ⟨_, rfl⟩
  rw [← HW4.out] at hN4 hO4 hZ4 hB4
  go_upto_region 3 with fail
  rw [← HW4.out]
  have hz4 : Hid (w.heap.size + 1 < w3.heap.size) := hZ3.lt
  have hvb : ∀ g, (Value.slice (some ⟨w3.heap.size, 0, none⟩) 1 1).ownBlock = some g → w.heap.size + 1 < g := fun g hg => by cases hg; exact hz4
  clear x5 f5 hM bM hN3 hZ3 hB3
  generalize w3.heap.size = g3 at *
  have hold : ∀ w', Below w4.heap.size w4 w' → Below w4.heap.size w4 w' ∧ w'.cell? ⟨b.q, 0, none⟩ = some (.pointer (some ⟨b.r, 0, none⟩)) ∧ w'.cell? ⟨w.heap.size, 2, none⟩ = some (.int .i64 T) := fun w' hb => ⟨hb, (h.below (bT hB4 hb)).dt.c0, (hN4.below hb).c2⟩
  have hE0 : Below w4.heap.size w4 w4 := Below.refl _ _
  have hE1 : Below w4.heap.size w4 w4.drew := bD hE0
  go_cut [5, 6] from 17 to 26 (fun t5 t6 wx => ∃ gy : Nat, t5 = .pointer (some ⟨gy, 0, none⟩) ∧ t6 = .bool sm ∧ Bx 39 gy y.n y.i y.s wx ∧ Below w4.heap.size w4 wx ∧ w4.heap.size ≤ gy)
  case first =>
    go_region_held3 (fun w' => Below w4.heap.size w4 w' ∧ w'.cell? ⟨b.q, 0, none⟩ = some (.pointer (some ⟨b.r, 0, none⟩)) ∧ w'.cell? ⟨w.heap.size, 2, none⟩ = some (.int .i64 T)) ((refine hold _ ?_; (first | assumption | (refine bD (bA ?_ _); assumption) | (refine bA ?_ _; assumption) | (refine bS3 ?_ (Nat.le_refl _) _ _ _; assumption) | (refine bS3 (bA ?_ _) (Below.size (by assumption)) _ _ _; assumption)))) ((first
      | (go_at_call 102; refine (hgt _ (by first | exact (h.below (bT hB4 hE1)).dt.roll | exact (h.below (bT hB4 (bD (bA hE0 _)))).dt.roll)).mono ?_; rintro e w5 ⟨rfl, hb5⟩; (first | have hE2 := bT hE1 hb5 | (have hE2 := bT (bD (bA hE0 _)) hb5; have hC := (Bx.new 39 0 0 0 w4).drew.below hb5; have z0 := hC.c0; have z1 := hC.c1; have z2 := hC.c2; have e0 := hC.free 0; have e1 := hC.free 1; have e2 := hC.free 2)))))
    all_goals
      rename_i hH
      obtain ⟨hE3, _, _⟩ := hH
      (first | have hY := hC.set y.n y.i y.s | have hY := Bx.new 39 y.n y.i y.s w5)
      have hgy := hE2.size
      go_wp2_with fail
      go_meet
      exact ⟨_, rfl, rfl, hY, hE3, by first | exact Nat.le_refl _ | exact hgy⟩
  case rest =>
  obtain ⟨gy, rfl, rfl, hY, hE5, hgy⟩ := hcut
  have hN5 := hN4.below hE5
  have hZ5 := hZ4.below hE5
  have hO5 := hO4.below hE5
  have hB5 := bT hB4 hE5
  have y0 := hY.c0
  have y1 := hY.c1
  have y2 := hY.c2
  clear hN4 hZ4 hO4 hB4 hold hE0 hE1 hE5 hgy HW4
  generalize wc = w5 at *
  obtain ⟨C, HC⟩ : ∃ C : Bool, Hid ((sm && ((y.s == 1) || (y.s == 3))) = C) := ⟨_, rfl⟩
  have HPC : Hid (P = if C = true then [m, y] else [m]) := by
    show _ = _
    rw [HP'.out, ← HC.out]
    simp
  clear HP'
  go_upto_region 4 with fail
  go_cut [37] from 27 to 36 (fun t37 wx => t37 = .bool C ∧ wx = w5)
  case first =>
    cases sm
    case false =>
      go_wp2_with fail
      go_meet
      exact ⟨by rw [← HC.out]; rfl, rfl⟩
    case true =>
      cases h1 : (y.s == 1) <;> cases h3 : (y.s == 3)
      all_goals
        have H1 : Hid ((y.s == 1) = _) := h1
        have H3 : Hid ((y.s == 3) = _) := h3
        go_wp2_with fail
        go_meet
        exact ⟨by rw [← HC.out, H1.out, H3.out]; rfl, rfl⟩
  case rest =>
  obtain ⟨rfl, hw5⟩ := hcut
  subst hw5
  clear HC
  go_upto_if 37 with fail
  go_cut [] from 38 to 43 (fun wx => ∃ v, Bn w.heap.size K k T Q O v wx ∧ Bn (w.heap.size + 1) 0 0 0 0 0 (.slice none 0 0) wx ∧ Ro.Own w.heap.size v P wx ∧ (∀ g, v.ownBlock = some g → w.heap.size + 1 < g) ∧ Below w.heap.size w wx)
  case first =>
    cases C
    case false =>
      obtain rfl : P = [m] := HPC.out
      go_wp2_with fail
      go_meet
      exact ⟨_, hN5, hZ5, hO5, hvb, hB5⟩
    case true =>
      obtain rfl : P = [m, y] := HPC.out
      have bY := below_alloc wc (.cells #[.int .i64 y.n, .int .u64 y.i, .int .i64 y.s] 39)
      have hR := Ru.one (Bx.new 39 y.n y.i y.s wc)
      have hN6 := hN5.below bY
      have hZ6 := hZ5.below bY
      have hO6 := hO5.below bY
      have hB6 := bT hB5 bY
      have hsz := hB6.size
      have x5 := hN5.c5
      obtain ⟨w6, HW6⟩ : ∃ w6, Hid (w6 = wc.alloc (.cells #[.int .i64 y.n, .int .u64 y.i, .int .i64 y.s] 39)) := ⟨_, rfl⟩
      rw [← HW6.out] at hR hN6 hZ6 hO6 hB6 hsz
      clear hN5 hZ5 hO5 hB5 bY
      go_upto_region 5 with fail
      go_wp2_with (at_builtin; go_must (rw [← HW6.out]; refine wpList_app _ rfl (.tmp 39) (.tmp 41) rfl w.heap.size _ [m] rfl hO6 hsz wc.heap.size 0 1 [y] 1 rfl rfl hR (by simp) ?_; intro v' w' h1 h3 h4; have h1' := h1; obtain ⟨a', cap', rfl, _⟩ := h1'.ru; have hN7 := hN6.grown h3 (fun e => by have e' : g3 = w.heap.size := Option.some.inj e; have : w.heap.size + 1 < g3 := hvb g3 rfl; omega); have f5 := hN7.free 5; have x5 := hN7.c5))
      go_meet
      have hg3 : w.heap.size + 1 < g3 := hvb g3 rfl
      have hZ7 := hZ6.grown h3 (fun e => by have e' : g3 = w.heap.size + 1 := Option.some.inj e; omega)
      have hv7 : ∀ g, (Value.slice a' ([m] ++ [y]).length cap').ownBlock = some g → w.heap.size + 1 < g := fun g hg => by
        rcases h4 with h4 | h4
        · rw [hg] at h4; cases h4; exact hg3
        · rw [hg] at h4; cases h4; have := hZ6.lt; omega
      refine ⟨_, hN7.set5 _, hZ7.other (by simp) _, h1.keep fun g hg _ => Below.heap_setCell _ _ _ _ (show g ≠ w.heap.size from fun e => by have := hv7 g hg; omega), hv7, bS (bG hB6 h3 fun g hg => by cases hg; show w.heap.size ≤ g3; omega) (Nat.le_refl _) _ _⟩
  case rest =>
  obtain ⟨v, hN6, hZ6, hO6, hv6, hB6⟩ := hcut
  have x5 := hN6.c5
  have f5 := hN6.free 5
  have hPl : 1 ≤ P.length ∧ P.length ≤ 2 := by
    rw [HPC.out]
    cases C <;> simp
  have hO6' := hO6.ru
  obtain ⟨av, vcap, rfl, _⟩ := hO6'
  have hwr : IntKind.i64.wrap (8 - (P.length : Int)) = ((8 - P.length : Nat) : Int) := by rw [IntKind.wrap_i64]; omega
  have hmn := fun w' (h' : Sx k Bp p b d l w') => many_any h'
  have htk := fun w' (h' : Sx k Bp p b d l w') => rtake_any h' (8 - P.length)
  have hUl : ((d.Q.take (8 - P.length)).map Ru.updOf).length ≤ 8 := by rw [List.length_map, List.length_take]; omega
  obtain ⟨U, HU⟩ : ∃ U, Hid ((d.Q.take (8 - P.length)).map Ru.updOf = U) := ⟨_, rfl⟩
  simp only [HU.out] at htk hUl
  go_upto_region 6 with fail
  go_region_law (first
    | (refine step_call (by rfl) 129 [.tmp 53] #[25] (by rfl) [.pointer (some ⟨b.q, 0, none⟩)] (enter_of Tryz.func129 (by kernel_rfl) rfl) (by rfl) (hmn _ (h.below (bD hB6))) ?_
       rintro e w7 ⟨rfl, hb7⟩
       refine ⟨_, rfl, ?_⟩
       have hN7 := hN6.drew.below hb7
       have hZ7 := hZ6.drew.below hb7
       have hO7 := (hO6.keep (w' := wc.drew) fun _ _ _ => rfl).below hb7
       have hB7 := bT (bD hB6) hb7
       have x5 := hN7.c5)
    | (refine step_call (by rfl) 156 [.tmp 48, .tmp 52, .tmp 54] #[87, 3, 3] (by rfl) [.pointer (some ⟨b.q, 2, none⟩), .int .i64 ((8 - P.length : Nat) : Int), .int .i64 d.many] (enter_of Tryz.func156 (by kernel_rfl) rfl) (by rfl) (htk _ (h.below hB7)) ?_
       rintro e w8 ⟨⟨u8, rfl, hU⟩, h8, s8⟩
       refine ⟨_, rfl, ?_⟩
       have hA0 : Away p b w7 w.heap.size := ⟨hN7.lt, h.pn (Nat.le_refl _), fun i => h.nn (Nat.le_refl _) i⟩
       have hA1 : Away p b w7 (w.heap.size + 1) := ⟨hZ7.lt, h.pn (Nat.le_succ _), fun i => h.nn (Nat.le_succ _) i⟩
       have hN8 := hN7.keep (s8.keep hA0)
       have hZ8 := hZ7.keep (s8.keep hA1)
       have hO8 := hO7.keep fun g hg hlt => s8.keep ⟨hlt, h.pn (by have := hv6 g hg; omega), fun i => h.nn (by have := hv6 g hg; omega) i⟩
       have S8 : Stp p b w b w8 := (Stp.of hB7).trans s8
       have hs8 := S8.size
       have x5 := hN8.c5)
    | (refine step_app2 _ (by rfl) (.tmp 45) (.tmp 55) (by rfl) w.heap.size w7.heap.size _ _ P U (by rfl) hO8 hs8 (by rfl) hU (by omega) ?_
       intro v9 w9 hO9 hg9 hv9
       obtain ⟨a9, L9, c9, rfl⟩ : ∃ a9 L9 c9, v9 = .slice a9 L9 c9 := (by obtain ⟨a9, c9, e, _⟩ := id hO9.ru; exact ⟨a9, _, c9, e⟩)
       have hn9 : (Value.slice av P.length vcap).ownBlock ≠ some w.heap.size := fun e => by have := hv6 _ e; omega
       have hz9 : (Value.slice av P.length vcap).ownBlock ≠ some (w.heap.size + 1) := fun e => by have := hv6 _ e; omega
       have hN9 := hN8.grown hg9 hn9
       have hZ9 := hZ8.grown hg9 hz9
       have x5 := hN9.c5
       have f5 := hN9.free 5))
  all_goals
    have hv9' : ∀ g, (Value.slice a9 L9 c9).ownBlock = some g → w.heap.size + 1 < g := fun g hg => by
      rcases hv9 with e | e
      · rw [hg] at e; exact hv6 g e.symm
      · rw [hg] at e; cases e; exact hZ8.lt
    have hN10 := hN9.set5 (.slice a9 L9 c9)
    have hZ10 := hZ9.other (a := ⟨w.heap.size, 5, none⟩) (by simp) (.slice a9 L9 c9)
    have hO10 : Ro.Own w.heap.size (.slice a9 L9 c9) (P ++ U) (w9.setCell ⟨w.heap.size, 5, none⟩ (.slice a9 L9 c9)) := hO9.keep fun g hg _ => Below.heap_setCell _ _ _ _ (show g ≠ w.heap.size from fun e => by have := hv9' g hg; omega)
    have hQ9 : Below w.heap.size w8 w9 := ⟨hg9.os, hg9.tape, hg9.output, hg9.size, fun i hi => hg9.block i (Nat.lt_of_lt_of_le hi hs8) (fun e => by have := hv6 i e.symm; omega)⟩
    have hQ10 := hQ9.setCell (p := ⟨w.heap.size, 5, none⟩) (Nat.le_refl _) (.slice a9 L9 c9)
    clear hQ9 hO9 hN9 hZ9 hg9 hN8 hZ8 hO8 hv9 x5 f5
    generalize w9.setCell ⟨w.heap.size, 5, none⟩ (.slice a9 L9 c9) = w10 at *
    have hend := hZ10.set6 K k T Q O (.slice a9 L9 c9)
    have hQ11 := below_set6 hQ10 (Nat.le_succ w.heap.size) (.int .i64 K) (.int .i64 k) (.int .i64 T) (.int .u64 Q) (.int .i64 O) (.slice a9 L9 c9)
    have hR11 : Ro.Own w.heap.size (.slice a9 L9 c9) (P ++ U) ((((((w10.setCell ⟨w.heap.size + 1, 0, none⟩ (.int .i64 K)).setCell ⟨w.heap.size + 1, 1, none⟩ (.int .i64 k)).setCell ⟨w.heap.size + 1, 2, none⟩ (.int .i64 T)).setCell ⟨w.heap.size + 1, 3, none⟩ (.int .u64 Q)).setCell ⟨w.heap.size + 1, 4, none⟩ (.int .i64 O)).setCell ⟨w.heap.size + 1, 5, none⟩ (.slice a9 L9 c9)) :=
      hO10.keep fun g hg _ => by
        have := hv9' g hg
        have hne : g ≠ w.heap.size + 1 := by omega
        simp only [Below.heap_setCell _ _ _ _ (show g ≠ (⟨w.heap.size + 1, _, none⟩ : Addr).block from hne)]
    have q0 := hN10.c0
    have q1 := hN10.c1
    have q2 := hN10.c2
    have q3 := hN10.c3
    have q4 := hN10.c4
    have q5 := hN10.c5
    have r0 := hZ10.c0
    have r1 := hZ10.c1
    have r2 := hZ10.c2
    have r3 := hZ10.c3
    have r4 := hZ10.c4
    have r5 := hZ10.c5
    have g0 := hZ10.free 0
    have g1 := hZ10.free 1
    have g2 := hZ10.free 2
    have g3' := hZ10.free 3
    have g4 := hZ10.free 4
    have g5 := hZ10.free 5
    obtain ⟨w11, HW11⟩ : ∃ w11, Hid (w11 = (((((w10.setCell ⟨w.heap.size + 1, 0, none⟩ (.int .i64 K)).setCell ⟨w.heap.size + 1, 1, none⟩ (.int .i64 k)).setCell ⟨w.heap.size + 1, 2, none⟩ (.int .i64 T)).setCell ⟨w.heap.size + 1, 3, none⟩ (.int .u64 Q)).setCell ⟨w.heap.size + 1, 4, none⟩ (.int .i64 O)).setCell ⟨w.heap.size + 1, 5, none⟩ (.slice a9 L9 c9)) := ⟨_, rfl⟩
    rw [← HW11.out] at hend hQ11 hR11
    go_wp2_with fail
    rw [← HW11.out]
    clear q0 q1 q2 q3 q4 q5 r0 r1 r2 r3 r4 r5 g0 g1 g2 g3' g4 g5
    have r0 := hend.c0
    have r1 := hend.c1
    have r2 := hend.c2
    have r3 := hend.c3
    have r4 := hend.c4
    have r5 := hend.c5
    refine bodyPost_ret (v := .agg (ntC K k T Q O (.slice a9 L9 c9))) ?_ rfl ⟨_, rfl, (by rw [HU.out]; exact hR11), h.high h8 hQ11, S8.high hQ11⟩
    rw [results_cell rfl]
    go_simp
end
section
variable {k Bp p : Nat} {b : Bl} {d : Det} {l : List Int} {w : World}
abbrev ntV (n : Nte) (v : Value) : Value := .agg (ntC n.k n.f n.t n.q n.o v)
theorem Det.Ok.next {k : Nat} {d : Det} (h : d.Ok k) : d.next.Ok k := ⟨h.k64, h.inv, h.qi, h.ql, h.di, h.s1, h.s2, h.W, h.E, h.el, u64w_ok _, h.no⟩
set_option maxRecDepth 100000 in
set_option maxHeartbeats 1000000 in
theorem ping_any (h : Sx k Bp p b d l w) (x : Int) :
    Calls Tryz.prog 89 #[.pointer (some ⟨b.q, 0, none⟩), .int .i64 x] w fun e w' => ∃ v', e = .returned (ntV (d.ping k x) v') ∧ Ro.Own w.heap.size v' (d.ping k x).u w' ∧ Sx k Bp p b (d.next.told k x) l w' ∧ Stp p b w b w' := by
  have ba := below_alloc w (.cells (ntC 0 0 0 0 0 (.slice none 0 0)) 37)
  have hZ := Bn.new 0 0 0 0 0 (.slice none 0 0) w
  have h1 := h.below ba
  have hA := h.away (w' := w.alloc (.cells (ntC 0 0 0 0 0 (.slice none 0 0)) 37)) (Nat.le_refl _) hZ.lt
  obtain ⟨w1, HW1⟩ : ∃ w1, Hid (w1 = w.alloc (.cells (ntC 0 0 0 0 0 (.slice none 0 0)) 37)) := ⟨_, rfl⟩
  rw [← HW1.out] at ba hZ h1 hA
  obtain ⟨h2, s2⟩ := h1.setN (d' := d.next) 6 (.int .u64 (u64w (d.la + 1))) rfl h1.dt.ok.next rfl rfl rfl rfl rfl rfl
  have hZ2 := hZ.keep (s2.keep hA)
  have hA2 := hA.stp s2
  have hz : w.heap.size < w1.heap.size := hZ.lt
  have c6 := h1.dt.c6
  have f6 := h1.dt.free 6
  have hnw : Hid (d.news k x = d.next.news k x) := rfl
  have hu : IntKind.u64.wrap (d.la + 1) = u64w (d.la + 1) := rfl
  have hla := h1.dt.ok.la
  unfold Det.ping
  obtain ⟨y, HY⟩ : ∃ y, Hid (u64w (d.la + 1) = y) := ⟨_, rfl⟩
  rw [HY.out] at h2 s2 hZ2 hA2 hu ⊢
  obtain ⟨w2, HW2⟩ : ∃ w2, Hid (w2 = w1.setCell ⟨b.q, 6, none⟩ (.int .u64 y)) := ⟨_, rfl⟩
  rw [← HW2.out] at h2 s2 hZ2 hA2
  have hz2 := s2.size
  have c6' := h2.dt.c6
  rw [show d.next.la = y from HY.out] at c6'
  have hsay := say_any h2 1 0 x y 0
  go_enter Tryz.func89, Tryz.ntmps89
  go_upto_region 1 with fail
  rw [← HW1.out]
  go_upto_region 2 with fail
  rw [← HW2.out]
  go_wp2_with fail
  refine hsay.mono ?_
  rintro e w3 ⟨v', rfl, hR, h3, s3⟩
  obtain ⟨a, L, cap, rfl⟩ : ∃ a L cap, v' = .slice a L cap := by obtain ⟨a, cap, e, _⟩ := hR.ru; exact ⟨a, _, cap, e⟩
  have hZ3 := hZ2.keep (s3.keep hA2)
  have hend := hZ3.set6 1 k x y 0 (.slice a L cap)
  have hQ := below_set6 (Below.refl w.heap.size w3) (Nat.le_refl w.heap.size) (.int .i64 1) (.int .i64 k) (.int .i64 x) (.int .u64 y) (.int .i64 0) (.slice a L cap)
  have hv' : ∀ g, (Value.slice a L cap).ownBlock = some g → w.heap.size < g := fun g hg => by have := (hR.lt g hg).1; omega
  have hR4 : Ro.Own w2.heap.size (.slice a L cap) (d.next.news k x) ((((((w3.setCell ⟨w.heap.size, 0, none⟩ (.int .i64 1)).setCell ⟨w.heap.size, 1, none⟩ (.int .i64 k)).setCell ⟨w.heap.size, 2, none⟩ (.int .i64 x)).setCell ⟨w.heap.size, 3, none⟩ (.int .u64 y)).setCell ⟨w.heap.size, 4, none⟩ (.int .i64 0)).setCell ⟨w.heap.size, 5, none⟩ (.slice a L cap)) :=
    hR.keep fun g hg _ => by
      have hne : g ≠ w.heap.size := Nat.ne_of_gt (hv' g hg)
      simp only [Below.heap_setCell _ _ _ _ (show g ≠ (⟨w.heap.size, _, none⟩ : Addr).block from hne)]
  have r0 := hZ3.c0
  have r1 := hZ3.c1
  have r2 := hZ3.c2
  have r3 := hZ3.c3
  have r4 := hZ3.c4
  have r5 := hZ3.c5
  have g0 := hZ3.free 0
  have g1 := hZ3.free 1
  have g2 := hZ3.free 2
  have g3 := hZ3.free 3
  have g4 := hZ3.free 4
  have g5 := hZ3.free 5
  obtain ⟨w4, HW4⟩ : ∃ w4, Hid (w4 = (((((w3.setCell ⟨w.heap.size, 0, none⟩ (.int .i64 1)).setCell ⟨w.heap.size, 1, none⟩ (.int .i64 k)).setCell ⟨w.heap.size, 2, none⟩ (.int .i64 x)).setCell ⟨w.heap.size, 3, none⟩ (.int .u64 y)).setCell ⟨w.heap.size, 4, none⟩ (.int .i64 0)).setCell ⟨w.heap.size, 5, none⟩ (.slice a L cap)) := ⟨_, rfl⟩
  rw [← HW4.out] at hend hQ hR4
  go_wp2_with fail
  rw [← HW4.out]
  clear r0 r1 r2 r3 r4 r5 g0 g1 g2 g3 g4 g5
  have r0 := hend.c0
  have r1 := hend.c1
  have r2 := hend.c2
  have r3 := hend.c3
  have r4 := hend.c4
  have r5 := hend.c5
  refine bodyPost_ret (v := .agg (ntC 1 k x y 0 (.slice a L cap))) ?_ rfl ⟨_, rfl, Ro.Own.mono hR4 (by omega), h.high h3 hQ, (((Stp.of ba).trans s2).trans s3).high hQ⟩
  rw [results_cell rfl]
  go_simp
set_option maxRecDepth 100000 in
set_option maxHeartbeats 1000000 in
theorem miss_any (h : Sx k Bp p b d l w) (x : Int) (hx : Nd x) :
    Calls Tryz.prog 76 #[.pointer (some ⟨b.q, 0, none⟩), .int .i64 x, .pointer (some ⟨p, 0, none⟩)] w fun e w' => e = .returned (.tuple #[]) ∧ ∃ b', Sx k Bp p b' (d.miss k x l).1 (d.miss k x l).2 w' ∧ Stp p b w b' w' ∧ b'.vw = b.vw := by
  have c0 := h.dt.c0
  have hg := get_any b.r k x d.f w h.dt.roll
  have hyi : U64 (ud (getS d.f x)).i := by
    unfold getS
    rw [if_pos hx]
    cases e : d.f x.toNat with
    | none => decide
    | some u => exact (h.dt.ok.inv.may _ u e).2.2
  obtain ⟨R, HR⟩ : ∃ R, Hid (d.miss k x l = R) := ⟨_, rfl⟩
  rw [HR.out]
  have HR' : Hid (R = if (getS d.f x).isSome = true ∧ (ud (getS d.f x)).s = 0 then (d.take k ⟨x, (ud (getS d.f x)).i, 1⟩ k l).2 else (d, l)) := HR.out.symm
  clear HR
  generalize (getS d.f x).isSome = sm at *
  generalize ud (getS d.f x) = y at *
  have bA1 := fun w1 => below_alloc w1 (.cells #[.int .i64 y.n, .int .u64 y.i, .int .i64 y.s] 39)
  have hB := fun w1 => Bx.new 39 y.n y.i y.s w1
  cases hs : (y.s == 0) <;> cases sm
  all_goals
    have hs' : Hid ((y.s == 0) = _) := hs
    go_enter Tryz.func76, Tryz.ntmps76
    go_wp2_with fail
    refine hg.mono ?_
    rintro e w1 ⟨rfl, hb1⟩
    have h2 := (h.below hb1).below (bA1 w1)
    have hY := hB w1
    have y0 := hY.c0
    have y1 := hY.c1
    have y2 := hY.c2
    have S2 : Stp p b w b _ := (Stp.of hb1).then (bA1 w1)
    go_wp2_with fail
  · go_end0
    rw [HR'.out, if_neg (by simp)]
    exact ⟨rfl, b, h2, S2, rfl⟩
  · go_end0
    rw [HR'.out, if_neg (by have := hs'.out; simp at this; simp [this])]
    exact ⟨rfl, b, h2, S2, rfl⟩
  · go_end0
    rw [HR'.out, if_neg (by simp)]
    exact ⟨rfl, b, h2, S2, rfl⟩
  · obtain ⟨w2, HW2⟩ : ∃ w2, Hid (w2 = w1.alloc (.cells #[.int .i64 y.n, .int .u64 y.i, .int .i64 y.s] 39)) := ⟨_, rfl⟩
    rw [← HW2.out] at h2 hY y0 y1 y2 S2 ⊢
    go_region_with (first
      | (go_at_call 44; refine (me_any h2.drew).mono ?_; rintro e w3 ⟨rfl, hb3⟩; have h3 := h2.drew.below hb3; have hY3 := hY.drew.below hb3; have y1 := hY3.c1)
      | (go_at_call 43; refine (takein_any h3 ⟨x, y.i, 1⟩ k hyi).mono ?_; rintro e w4 ⟨rfl, b4, h4, s4, u4⟩))
    all_goals
      go_wp2_with fail
      go_end0
      rw [HR'.out, if_pos (by have := hs'.out; simp at this; simp [this])]
      exact ⟨rfl, b4, h4, (S2.drew.then hb3).trans s4, u4⟩
end
theorem Tryz.infoW : (Tryz.prog.info? 133).map (fun i => (i.zero, i.size, i.bytes)) = some (some (.agg #[.int .i64 0, .int .u64 0, .int .u64 0, .bool false]), 4, 32) := by kernel_rfl
theorem Tryz.zeroW (w : World) : (zeroValue 133).run Tryz.prog w = .ok (.agg #[.int .i64 0, .int .u64 0, .int .u64 0, .bool false]) w := by
  have h : Tryz.t133.zero = some (.agg #[.int .i64 0, .int .u64 0, .int .u64 0, .bool false]) := by kernel_rfl
  simp [zeroValue, h]
section
variable {g cap : Nat} {l : List Wch} {w : World}
abbrev cellsW (x : Wch) : Array Value := #[.int .i64 x.n, .int .u64 x.q, .int .u64 x.a, .bool x.h]
theorem OwE.atW {T : TypeId} {B : Nat} {v : Value} (h : OwE encW T B v l w) (hv : v = .slice (some ⟨g, 0, none⟩) l.length cap) (j : Nat) (hj : j < l.length) : w.cell? ⟨g, j * 4, none⟩ = some (.int .i64 l[j].n) ∧ w.cell? ⟨g, j * 4 + 1, none⟩ = some (.int .u64 l[j].q) ∧ w.cell? ⟨g, j * 4 + 2, none⟩ = some (.int .u64 l[j].a) ∧ w.cell? ⟨g, j * 4 + 3, none⟩ = some (.bool l[j].h) := by
  obtain ⟨a, c, e, _, _, h3⟩ := h.rd
  rw [hv] at e; cases e
  rcases h3 with h3 | ⟨g', off, e, h3⟩
  · omega
  · cases e
    have h0 := fun c hc => h3 j c hj hc
    simp only [Nat.zero_add] at h0
    exact ⟨h0 0 (by decide), h0 1 (by decide), h0 2 (by decide), h0 3 (by decide)⟩
structure BW (g : Nat) (x : Wch) (w : World) : Prop where
  heap : w.heap[g]? = some (.cells (cellsW x) 133 (0, 0))
theorem BW.c0 {x : Wch} (h : BW g x w) : w.cell? ⟨g, 0, none⟩ = some (.int .i64 x.n) := by simp [World.cell?, h.heap]
theorem BW.c1 {x : Wch} (h : BW g x w) : w.cell? ⟨g, 1, none⟩ = some (.int .u64 x.q) := by simp [World.cell?, h.heap]
theorem BW.c2 {x : Wch} (h : BW g x w) : w.cell? ⟨g, 2, none⟩ = some (.int .u64 x.a) := by simp [World.cell?, h.heap]
theorem BW.c3 {x : Wch} (h : BW g x w) : w.cell? ⟨g, 3, none⟩ = some (.bool x.h) := by simp [World.cell?, h.heap]
theorem BW.free {x : Wch} (h : BW g x w) (j : Nat) : w.frozen? ⟨g, j, none⟩ = false := free_of h.heap j
theorem BW.lt {x : Wch} (h : BW g x w) : g < w.heap.size := (Array.getElem?_eq_some_iff.1 h.heap).1
theorem BW.keep {x : Wch} {w' : World} (h : BW g x w) (e : w'.heap[g]? = w.heap[g]?) : BW g x w' := ⟨e.trans h.heap⟩
theorem BW.below {x : Wch} {w' : World} (h : BW g x w) (b : Below w.heap.size w w') : BW g x w' := h.keep (b.block g h.lt)
theorem BW.drew {x : Wch} (h : BW g x w) : BW g x w.drew := ⟨h.heap⟩
theorem BW.new (x : Wch) (w : World) : BW w.heap.size x (w.alloc (.cells (cellsW x) 133)) := ⟨heap_alloc_new w _⟩
theorem BW.rd {x : Wch} (h : BW g x w) : RdE encW (.slice (some ⟨g, 0, none⟩) 1 1) [x] w :=
  ⟨_, 1, rfl, Nat.le_refl _, by unfold maxLen; omega, Or.inr ⟨g, 0, rfl, fun j c hj hc => by
    obtain rfl : j = 0 := by simpa using hj
    have hc : c < 4 := hc
    simp [World.cell?, h.heap, encW, cellsW]⟩⟩
set_option maxRecDepth 100000 in
set_option maxHeartbeats 1000000 in
theorem indexfW_any (J : World → Prop) (hJb : ∀ w w', J w → Below w.heap.size w w' → J w') (F : FuncId) (caps : Array Value) (f : Wch → Bool) (hs : l.length ≤ 1000000) (hO : OwE encW 133 0 (.slice (some ⟨g, 0, none⟩) l.length cap) l w) (hF : ∀ args w', (callFunc F args).run Tryz.prog w' = .ok (.enter F args) w')
    (hcl : ∀ x ∈ l, ∀ w', J w' → Calls Tryz.prog F (#[.agg (cellsW x)] ++ caps) w' fun e w'' => e = .returned (.bool (f x)) ∧ Below w'.heap.size w' w'') (hJ : J w) :
    Calls Tryz.prog 176 #[.slice (some ⟨g, 0, none⟩) l.length cap, .func (.func F) #[] caps] w fun e w' => ((∃ n : Nat, e = .returned (.int .i64 n) ∧ ∃ h : n < l.length, f l[n] = true ∧ ∀ x ∈ l.take n, f x = false) ∨ (e = .returned (.int .i64 (-1)) ∧ ∀ x ∈ l, f x = false)) ∧ Below w.heap.size w w' := by
  go_enter Tryz.func176, Tryz.ntmps176
  go_wp2_with fail
  go_loopg [8] l.length (fun gk t8 wr => ∃ i : Nat, i + gk = l.length ∧ t8 = .int .i64 i ∧ (∀ x ∈ l.take i, f x = false) ∧ J wr ∧ Below w.heap.size w wr)
  case atStart => exact ⟨0, by omega, rfl, by simp, hJ, Below.refl _ _⟩
  case round =>
    obtain ⟨i, hi, rfl, hx, hJr, hB⟩ := hrel
    by_cases hlt : (i : Int) < l.length
    · have i0 : (0 : Int) ≤ i := by omega
      have hil : i < l.length := by omega
      obtain ⟨c0, c1, c2, c3⟩ := (hO.below hB).atW rfl i hil
      have hb := hcl l[i] (List.getElem_mem hil) wr hJr
      have HX : Hid (∀ x ∈ l.take i, f x = false) := hx
      have hat : Hid (f l[i] = true → ∃ h : i < l.length, f l[i] = true ∧ ∀ x ∈ l.take i, f x = false) := fun e => ⟨hil, e, HX.out⟩
      have hns : Hid (f l[i] = false → ∀ x ∈ l.take (i + 1), f x = false) := fun e x hm => by
        rw [List.take_add_one, List.getElem?_eq_getElem hil] at hm
        rcases List.mem_append.1 hm with hm | hm
        · exact HX.out x hm
        · have e' : x = l[i] := by simpa using hm
          rw [e']; exact e
      clear hcl hx
      obtain ⟨y, HY⟩ : ∃ y, Hid (y = l[i]) := ⟨l[i], rfl⟩
      rw [← HY.out] at hb hns c0 c1 c2 c3
      cases hbk : f y
      case false =>
        rw [hbk] at hb
        have hns := hns.out hbk
        go_wp2_with fail
        refine hb.mono ?_
        rintro e w1 ⟨rfl, hb1⟩
        go_wp2_with fail
        go_roundg (gk - 1)
        case rel => exact ⟨i + 1, by omega, by go_num, hns, hJb _ _ hJr hb1, hB.trans (hb1.mono hB.size)⟩
        case measure => omega
      case true =>
        rw [hbk] at hb
        have HK : Hid (f y = true) := hbk
        go_wp2_with fail
        refine hb.mono ?_
        rintro e w1 ⟨rfl, hb1⟩
        go_wp2_with fail
        go_ret
        exact ⟨Or.inl ⟨i, rfl, hat.out (by rw [← HY.out]; exact HK.out)⟩, hB.trans (hb1.mono hB.size)⟩
    · obtain rfl : i = l.length := by omega
      rw [List.take_length] at hx
      have HX : Hid _ := hx
      clear hx
      go_wp2_with fail
      go_ret
      exact ⟨Or.inr ⟨rfl, HX.out⟩, hB⟩
theorem Tryz.elemW : Tryz.prog.underlying 91 = some (.slice (Tryz.prog.elem 91)) := by kernel_rfl
theorem Tryz.sizeW (w : World) : (sizeOf (Tryz.prog.elem 91)).run Tryz.prog w = .ok 4 w := by
  rw [show Tryz.prog.elem 91 = 133 by kernel_rfl]
  simp [sizeOf]
  kernel_rfl
theorem cutW (g N i cap : Nat) (hi : i < N) (hN : N ≤ cap) : ∀ w', (Instr.slice 91 (.slice (some ⟨g, 0, none⟩) N cap) (some (.int .i64 (i : Int))) none none).run Tryz.prog w' = .ok (.slice (some ⟨g, i * 4, none⟩) (N - i) (cap - i)) w' := fun w' => by
  rw [run_slice_l (P := Tryz.prog) (w := w') 91 (some ⟨g, 0, none⟩) N cap Tryz.elemW .i64 (i : Int) (by omega) (by omega), Tryz.sizeW]
  show Result.ok (sliced _ _ _ _ _) _ = _
  rw [sliced, if_neg (by omega)]
  simp [Addr.add]
  omega
theorem but_bW {g : Nat} {a w w' : World} (h : Ro.But a.heap.size g a w) (k : Below w.heap.size w w') : Ro.But a.heap.size g a w' := h.trans ((Ro.But.of k).mono h.size)
set_option maxRecDepth 100000 in
set_option maxHeartbeats 2000000 in
theorem deleteW_any (J : World → Prop) (hJb : ∀ w w', J w → Below w.heap.size w w' → J w') (hJs : ∀ w j v, J w → J (w.setCell ⟨g, j, none⟩ v)) (F : FuncId) (caps : Array Value) (f : Wch → Bool) (hs : l.length ≤ 1000000) (hO : OwE encW 133 0 (.slice (some ⟨g, 0, none⟩) l.length cap) l w) (hF : ∀ args w', (callFunc F args).run Tryz.prog w' = .ok (.enter F args) w')
    (hcl : ∀ x ∈ l, ∀ w', J w' → Calls Tryz.prog F (#[.agg (cellsW x)] ++ caps) w' fun e w'' => e = .returned (.bool (f x)) ∧ Below w'.heap.size w' w'') (hJ : J w) :
    Calls Tryz.prog 146 #[.slice (some ⟨g, 0, none⟩) l.length cap, .func (.func F) #[] caps] w fun e w' => (e = .returned (.slice (some ⟨g, 0, none⟩) (l.filter (fun x => !f x)).length cap) ∧ OwE encW 133 0 (.slice (some ⟨g, 0, none⟩) (l.filter (fun x => !f x)).length cap) (l.filter (fun x => !f x)) w') ∧ J w' ∧ Ro.But w.heap.size g w w' := by
  have hI := indexfW_any J hJb F caps f hs hO hF hcl hJ
  obtain ⟨_, hcur, _, hlc, hcm, _⟩ := hO.block rfl
  have hgz : g < w.heap.size := (Array.getElem?_eq_some_iff.1 hcur).1
  clear hcur
  obtain ⟨t, HT⟩ : ∃ t, Hid (l.filter (fun x => !f x) = t) := ⟨_, rfl⟩
  rw [HT.out]
  go_enter Tryz.func146, Tryz.ntmps146
  go_wp2_with fail
  refine hI.mono ?_
  rintro e w1 ⟨(⟨n, rfl, hn, hb, hx⟩ | ⟨rfl, hx⟩), hb1⟩
  · have HD : Hid (DelG f l l n (n + 1)) := DelG.start hn hb hx
    have hn1 : ((n : Int) == -1) = false := by rw [beq_eq_false_iff_ne]; omega
    have hJ1 := hJb _ _ hJ hb1
    have hO1 := hO.below hb1
    have hB1 : Ro.But w.heap.size g w w1 := Ro.But.of hb1
    clear hb hx hI hO hJ hb1
    go_wp2_with fail
    go_loopg [5, 6] l.length (fun gk t5 t6 wr => ∃ (i j : Nat) (r : List Wch), l.length ≤ j + gk ∧ t5 = .int .i64 i ∧ t6 = .int .i64 j ∧ Hid (DelG f l r i j) ∧ OwE encW 133 0 (.slice (some ⟨g, 0, none⟩) r.length cap) r wr ∧ J wr ∧ Ro.But w.heap.size g w wr)
    case atStart => exact ⟨n, n + 1, l, by omega, rfl, by go_num, HD, hO1, hJ1, hB1⟩
    case round =>
      obtain ⟨i, j, r, hg, rfl, rfl, HD, hOr, hJr, hB⟩ := hrel
      have hlen := HD.out.len
      have hij := HD.out.lt
      have hjl := HD.out.le
      by_cases hlt : (j : Int) < l.length
      · have hj : j < l.length := by omega
        have j0 : (0 : Int) ≤ j := by omega
        have i0 : (0 : Int) ≤ i := by omega
        have i1 : (i : Int) < l.length := by omega
        obtain ⟨c0, c1, c2, c3⟩ := hOr.atW rfl j (by omega)
        rw [HD.out.at hj] at c0 c1 c2 c3
        have hsk : f l[j] = true → Hid (DelG f l r i (j + 1)) := fun e => HD.out.skip hj e
        have hpt : f l[j] = false → Hid (DelG f l (r.set i l[j]) (i + 1) (j + 1)) := fun e => HD.out.put hj e
        have hcj := hcl l[j] (List.getElem_mem hj)
        clear HD
        generalize l[j] = y at *
        have bY := below_alloc wr (.cells (cellsW y) 133)
        have hY := BW.new y wr
        have hO2 := hOr.below bY
        have hJ2 := hJb _ _ hJr bY
        have hB2 := but_bW hB bY
        have hb := hcj _ hJ2
        obtain ⟨w2, HW2⟩ : ∃ w2, Hid (w2 = wr.alloc (.cells (cellsW y) 133)) := ⟨_, rfl⟩
        rw [← HW2.out] at hY hO2 hJ2 hB2 hb
        have x0 := hY.c0
        have x1 := hY.c1
        have x2 := hY.c2
        have x3 := hY.c3
        cases hbk : f y
        case true =>
          have hsk := hsk hbk
          rw [hbk] at hb
          clear hpt
          go_upto_region 8 with fail
          rw [← HW2.out]
          go_wp2_with fail
          refine hb.mono ?_
          rintro e w3 ⟨rfl, hb3⟩
          go_wp2_with fail
          go_roundg (gk - 1)
          case rel => exact ⟨i, j + 1, r, by omega, rfl, by go_num, hsk, hO2.below hb3, hJb _ _ hJ2 hb3, but_bW hB2 hb3⟩
          case measure => omega
        case false =>
          have hpt := hpt hbk
          rw [hbk] at hb
          clear hsk
          go_upto_region 8 with fail
          rw [← HW2.out]
          go_wp2_with fail
          refine hb.mono ?_
          rintro e w3 ⟨rfl, hb3⟩
          have hY3 := hY.below hb3
          have hO3 := hO2.below hb3
          have hJ3 := hJb _ _ hJ2 hb3
          have hB3 := but_bW hB2 hb3
          obtain ⟨e0, e1, e2, e3⟩ := hO3.atW rfl i (by omega)
          have f0 := hO3.free rfl (i * 4)
          have f1 := hO3.free rfl (i * 4 + 1)
          have f2 := hO3.free rfl (i * 4 + 2)
          have f3 := hO3.free rfl (i * 4 + 3)
          clear x0 x1 x2 x3
          have x0 := hY3.c0
          have x1 := hY3.c1
          have x2 := hY3.c2
          have x3 := hY3.c3
          have hO4 := hO3.set rfl i (by omega) y
          have hB4 := (Ro.But.setCell (Ro.But.setCell (Ro.But.setCell (Ro.But.setCell hB3 (r := ⟨g, i * 4, none⟩) (Or.inl rfl) (.int .i64 y.n)) (r := ⟨g, i * 4 + 1, none⟩) (Or.inl rfl) (.int .u64 y.q)) (r := ⟨g, i * 4 + 2, none⟩) (Or.inl rfl) (.int .u64 y.a)) (r := ⟨g, i * 4 + 3, none⟩) (Or.inl rfl) (.bool y.h))
          have hJ4 := (hJs _ (i * 4 + 3) (.bool y.h) (hJs _ (i * 4 + 2) (.int .u64 y.a) (hJs _ (i * 4 + 1) (.int .u64 y.q) (hJs _ (i * 4) (.int .i64 y.n) hJ3))))
          obtain ⟨w4, HW4⟩ : ∃ w4, Hid (w4 = (((w3.setCell ⟨g, i * 4, none⟩ (.int .i64 y.n)).setCell ⟨g, i * 4 + 1, none⟩ (.int .u64 y.q)).setCell ⟨g, i * 4 + 2, none⟩ (.int .u64 y.a)).setCell ⟨g, i * 4 + 3, none⟩ (.bool y.h)) := ⟨_, rfl⟩
          have hO4' : OwE encW 133 0 (.slice (some ⟨g, 0, none⟩) r.length cap) (r.set i y) w4 := by rw [HW4.out]; exact hO4
          rw [← HW4.out] at hB4 hJ4
          generalize r[i]'(by omega) = z at *
          go_wp2_with fail
          rw [← HW4.out]
          go_roundg (gk - 1)
          case rel => exact ⟨i + 1, j + 1, r.set i y, by omega, by go_num, by go_num, hpt, by rw [List.length_set]; exact hO4', hJ4, hB4⟩
          case measure => omega
      · obtain rfl : j = l.length := by omega
        have hd := HD.out.done
        rw [List.take_length, HT.out] at hd
        have hti : t.length = i := by rw [← hd, List.length_take]; omega
        have hcut := cutW g l.length i cap hij hlc
        have hclear := fun ty => run_clear_rows (P := Tryz.prog) wr 91 133 ty (.agg #[.int .i64 0, .int .u64 0, .int .u64 0, .bool false]) Tryz.underlying91 Tryz.zeroW (by decide) g (i * 4) (l.length - i) (cap - i) (by omega) (fun m hm => hOr.some_ rfl _ (by show _ < cap * 4; have : m < (l.length - i) * 4 := hm; omega)) (fun m _ => hOr.free rfl _)
        have hOc := hOr.cut rfl i (by omega) (i * 4) (Nat.le_refl _) (Builtin.zeroCells (Value.agg #[.int .i64 0, .int .u64 0, .int .u64 0, .bool false]).cells (l.length - i)).toList
        have hBc := but_setCells (Builtin.zeroCells (Value.agg #[.int .i64 0, .int .u64 0, .int .u64 0, .bool false]).cells (l.length - i)).toList (i * 4) wr hB
        have hJc : ∀ (vs : List Value) (o : Nat) (w : World), J w → J (w.setCells g o vs) := fun vs => by
          induction vs with
          | nil => intro o w h; exact h
          | cons v r ih => intro o w h; exact ih _ _ (hJs _ _ _ h)
        have hJc := hJc (Builtin.zeroCells (Value.agg #[.int .i64 0, .int .u64 0, .int .u64 0, .bool false]).cells (l.length - i)).toList (i * 4) wr hJr
        generalize wr.setCells g (i * 4) (Builtin.zeroCells (Value.agg #[.int .i64 0, .int .u64 0, .int .u64 0, .bool false]).cells (l.length - i)).toList = w5 at *
        rw [hd] at hOc
        have HOC : Hid _ := hOc
        have hic : (i : Int) ≤ cap := by omega
        have HD' : Hid _ := hti
        clear hd hcl HD hOc hOr hti
        go_wp2_with fail
        go_ret
        rw [HD'.out]
        exact ⟨⟨rfl, HOC.out⟩, hJc, hBc⟩
  · have ht : l = t := by rw [← HT.out]; exact (List.filter_eq_self.2 (fun x hm => by rw [hx x hm]; rfl)).symm
    have hJ1 := hJb _ _ hJ hb1
    have hO1 := hO.below hb1
    have hB1 : Ro.But w.heap.size g w w1 := Ro.But.of hb1
    clear hx hI
    subst ht
    go_wp2_with fail
    go_ret
    exact ⟨⟨rfl, hO1⟩, hJ1, hB1⟩
end
structure Er (g : Nat) (x : Int) (w : World) : Prop where
  heap : w.heap[g]? = some (.cells #[.int .i64 x] 47 (0, 0))
section
variable {g : Nat} {x : Int} {w w' : World}
theorem Er.c (h : Er g x w) : w.cell? ⟨g, 0, none⟩ = some (.int .i64 x) := by simp [World.cell?, h.heap]
theorem Er.free (h : Er g x w) : w.frozen? ⟨g, 0, none⟩ = false := by simp [World.frozen?, h.heap]
theorem Er.lt (h : Er g x w) : g < w.heap.size := (Array.getElem?_eq_some_iff.1 h.heap).1
theorem Er.keep (h : Er g x w) (e : w'.heap[g]? = w.heap[g]?) : Er g x w' := ⟨e.trans h.heap⟩
theorem Er.set (h : Er g x w) (y : Int) : Er g y (w.setCell ⟨g, 0, none⟩ (.int .i64 y)) := ⟨by simp [World.setCell, Array.getElem?_modify, h.heap]⟩
theorem Er.new (w : World) : Er w.heap.size 0 (w.alloc (.cells #[.int .i64 0] 47)) := ⟨heap_alloc_new w _⟩
end
theorem catch_panicking (g : Nat) (x y : Int) (older : List PanicEntry) (w : World) (hE : Er g x w) :
    CallsD Tryz.prog 101 #[.pointer (some ⟨g, 0, none⟩)] (.panicking ({ v := .iface 47 (.int .i64 y), recovered := false } :: older)) w fun e u' w' =>
      e = .returned (.tuple #[]) ∧ u' = .panicking ({ v := .iface 47 (.int .i64 y), recovered := true } :: older) ∧ w' = w.setCell ⟨g, 0, none⟩ (.int .i64 y) := by
  have hc := hE.c
  have hz := hE.free
  refine callsD_of_wpS Tryz.func101 rfl fun c₀ cs hu => ?_
  apply wpS_seq
  apply wpS_region
  simp [wpOpsS, go_sem, recoverD, hu, Tryz.ntmps101, Exit.thenS]
  refine wpS_of_wp ?_
  rw [show (#[Value.pointer (some ⟨g, 0, none⟩)] ++ ((Array.replicate 6 undef).setIfInBounds 1 (Value.iface 47 (.int .i64 y))).setIfInBounds 0 (Value.iface 47 (.int .i64 y)) : Array Value) = #[.pointer (some ⟨g, 0, none⟩), .iface 47 (.int .i64 y), .iface 47 (.int .i64 y), undef, undef, undef, undef] from rfl]
  have hta : ∀ w : World, (Instr.typeAssert (.iface 47 (.int .i64 y)) 20 47 false).run Tryz.prog w = .ok (.int .i64 y) w := fun w => by kernel_rfl
  go_wp2_with fail
  cases c₀
  simp_all [bodyPostS, results, Tryz.results101]
theorem catch_idle (g : Nat) (w : World) :
    CallsD Tryz.prog 101 #[.pointer (some ⟨g, 0, none⟩)] .returning w fun e u' w' => e = .returned (.tuple #[]) ∧ u' = .returning ∧ w' = w := by
  refine callsD_of_wpS Tryz.func101 rfl fun c₀ cs hu => ?_
  apply wpS_seq
  apply wpS_region
  simp [wpOpsS, go_sem, recoverD, hu, Tryz.ntmps101, Exit.thenS]
  refine wpS_of_wp ?_
  rw [show (#[Value.pointer (some ⟨g, 0, none⟩)] ++ ((Array.replicate 6 undef).setIfInBounds 1 Value.nilIface).setIfInBounds 0 Value.nilIface : Array Value) = #[.pointer (some ⟨g, 0, none⟩), .nilIface, .nilIface, undef, undef, undef, undef] from rfl]
  go_wp2_with fail
  cases c₀
  simp_all [bodyPostS, results, Tryz.results101]
section
variable {k Bp p : Nat} {b : Bl} {d : Det} {l : List Int} {w : World}
set_option maxRecDepth 100000 in
set_option maxHeartbeats 1000000 in
theorem know_any (h : Sx k Bp p b d l w) (u : Upd) (hu : U64 u.i) :
    Calls Tryz.prog 17 #[.pointer (some ⟨b.q, 0, none⟩), .agg #[.int .i64 u.n, .int .u64 u.i, .int .i64 u.s], .pointer (some ⟨p, 0, none⟩)] w fun e w' => e = .returned (.int .i64 (d.take k u k l).1) ∧ ∃ b', Sx k Bp p b' (d.take k u k l).2.1 (d.take k u k l).2.2 w' ∧ Stp p b w b' w' := by
  have ba := below_alloc w (.cells #[.int .i64 u.n, .int .u64 u.i, .int .i64 u.s] 39)
  have hX := Bx.new 39 u.n u.i u.s w
  have h1 := h.below ba
  obtain ⟨w1, HW1⟩ : ∃ w1, Hid (w1 = w.alloc (.cells #[.int .i64 u.n, .int .u64 u.i, .int .i64 u.s] 39)) := ⟨_, rfl⟩
  rw [← HW1.out] at ba hX h1
  have x0 := hX.c0
  have x1 := hX.c1
  have x2 := hX.c2
  go_enter Tryz.func17, Tryz.ntmps17
  go_upto_region 1 with fail
  rw [← HW1.out]
  go_region_with (first
    | (go_at_call 44; refine (me_any h1.drew).mono ?_; rintro e w3 ⟨rfl, hb3⟩; have h3 := h1.drew.below hb3; have hX3 := hX.drew.below hb3; have x0 := hX3.c0; have x1 := hX3.c1; have x2 := hX3.c2)
    | (go_at_call 43; refine (takein_any h3 u k hu).mono ?_; rintro e w4 ⟨rfl, b4, h4, s4, u4⟩))
  all_goals
    go_wp2_with fail
    go_ret
    exact ⟨rfl, b4, h4, ((Stp.of ba).drew.then hb3).trans s4⟩
end
end Go.Proofs.YtpoofjnfaijjjaaGreatDoor
