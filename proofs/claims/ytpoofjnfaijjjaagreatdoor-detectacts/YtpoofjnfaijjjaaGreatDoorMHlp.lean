/-
  The next one of the round. A region that draws its order, whose last store writes a cell that it has loaded: loads are taken first, as long as S holds behind all that may come ahead of them. Tick: the box of the detector, the closure that reads it, Over. New. helped.
-/
import Derived.Test.YtpoofjnfaijjjaaGreatDoorMFMt
import Derived.OrdersHeld
import Derived.Deep.RegionHeld
namespace Go.Proofs.YtpoofjnfaijjjaaGreatDoor
open Go.RowKit Go.Proofs.YtpoofjnfaijjjaaGreatDoor.Ro
theorem oth_nodup (k : Nat) (f : Tab) : (othS k f).Nodup := (Bnd.lst_sorted _).imp fun h => by omega
theorem oth_nd {k : Nat} {f : Tab} {x : Int} (h : x ∈ othS k f) : Nd x := Bnd.lst_range h
theorem nxt_nd2 {s o : List Int} (l : List Int) (hs : s.Nodup) (ho : o.Nodup) : (Rn.nxtS s o l).2.1.Nodup := by
  unfold Rn.nxtS
  split
  · exact hs
  · split
    · exact (((Rn.shufS_perm _ _).nodup_iff).2 ho).sublist (List.tail_sublist _)
    · exact hs.sublist ((List.tail_sublist _).trans (List.dropWhile_sublist _))
theorem nxt_sub {s o : List Int} (l : List Int) {x : Int} (h : x ∈ (Rn.nxtS s o l).2.1) : x ∈ s ∨ x ∈ o := by
  unfold Rn.nxtS at h
  split at h
  · exact .inl h
  · split at h
    · exact .inr ((Rn.shufS_perm _ _).mem_iff.1 ((List.tail_sublist _).mem h))
    · exact .inl (((List.tail_sublist _).trans (List.dropWhile_sublist _)).mem h)
theorem nxt_in {s o : List Int} (l : List Int) (h : (Rn.nxtS s o l).1.2 = true) : (Rn.nxtS s o l).1.1 ∈ o := by
  refine (Rn.nxt_mem l (fun e => ?_)).2
  subst e
  rw [Rn.nxtS_nil] at h
  cases h
section
variable {k Bp p : Nat} {b : Bl} {d : Det} {l : List Int} {w : World}
theorem nextd_any (h : Sx k Bp p b d l w) (v : Value) (o : List Int) (ho : o.length ≤ 64) (hon : o.Nodup) (hor : ∀ x ∈ o, Nd x) (hv : Rn.Rd .i64 v o w) (hvo : ∀ g, v.ownBlock = some g → g ≠ b.q) :
    Calls Tryz.prog 87 #[.pointer (some ⟨b.q, 1, none⟩), v, .pointer (some ⟨p, 0, none⟩)] w fun e w' => e = .returned (.tuple #[.int .i64 (Rn.nxtS d.s o l).1.1, .bool (Rn.nxtS d.s o l).1.2]) ∧ ∃ b', Sx k Bp p b' { d with s := (Rn.nxtS d.s o l).2.1 } (Rn.nxtS d.s o l).2.2 w' ∧ Stp p b w b' w' ∧ b'.vw = b.vw := by
  have hsl := h.dt.ok.sl
  refine (Rn.rnext_any Bp b.q p v d.s o l w (by omega) (by omega) hv hvo h.dt.rn h.lots h.lok h.qout h.norow).mono ?_
  rintro e w' ⟨rfl, hR, hL, hM⟩
  exact ⟨rfl, h.setS hR hL hM (Rn.nxtS_ok _ _ h.lok) (nxt_nd2 l h.dt.ok.s1 hon) (fun x hx => (nxt_sub l hx).elim (h.dt.ok.s2 x) (hor x))⟩
end
end Go.Proofs.YtpoofjnfaijjjaaGreatDoor
namespace Go.Proofs.YtpoofjnfaijjjaaGreatDoor
section
variable {P : Program} {ops : Array Oper} {Q : Exit → Act → World → Prop} {md : Region.Mode} {S : World → Prop} {D : Nat → Bool}
def wpAnyD (P : Program) (md : Region.Mode) (ops : Array Oper) (Q : Exit → Act → World → Prop) (S : World → Prop) (D : Nat → Bool) : Nat → Array Bool → Act → World → Prop
  | 0, listed, a, w => Region.ready md ops listed = [] ∧ Q .normal a w
  | fuel + 1, listed, a, w =>
    (Region.ready md ops listed = [] → Q .normal a w) ∧
    ∀ i ∈ Region.ready md ops listed, wpOp P ops Q i (fun a' w' => (D i = false → S w') ∧ wpAnyD P md ops Q S D fuel (listed.setIfInBounds i true) a' w') a w
theorem wpAny_of_D : ∀ (fuel : Nat) (listed : Array Bool) (a : Act) (w : World), wpAnyD P md ops Q S D fuel listed a w → wpAny P md ops Q fuel listed a w
  | 0, _, _, _, h => h
  | fuel + 1, _, _, _, h => ⟨h.1, fun i hi => wpOp_mono (fun a' w' h' => wpAny_of_D fuel _ a' w' h'.2) (h.2 i hi)⟩
def waitsFor (md : Region.Mode) (ops : Array Oper) (D : Nat → Bool) (i : Nat) : Bool :=
  (List.range ops.size).all fun j => !D j || (match ops[j]? with | none => true | some o => o.after.any fun e => Region.binds md e && e.on == i)
theorem waits_spec {i : Nat} (h : waitsFor md ops D i = true) {j : Nat} {oj : Oper} (hj : D j = true) (ho : ops[j]? = some oj) : ∃ e ∈ oj.after, Region.binds md e = true ∧ e.on = i := by
  have hlt : j < ops.size := (Array.getElem?_eq_some_iff.1 ho).1
  have := List.all_eq_true.1 h j (List.mem_range.2 hlt)
  rw [ho, hj] at this
  simp only [Bool.not_true, Bool.false_or, Array.any_eq_true] at this
  obtain ⟨m, hm, h1⟩ := this
  simp only [Bool.and_eq_true, beq_iff_eq] at h1
  exact ⟨_, Array.getElem_mem hm, h1.1, h1.2⟩
theorem wpAnyD_first {i : Nat} {oi : Oper} {v : Value} (hi : ops[i]? = some oi) (hsel : ∀ (j : Nat) (o : Oper) cs b, ops[j]? = some o → o.op ≠ .select cs b)
    (hQ : ∀ c a w, Q (.panic c) (a.put oi.dst v) w → Q (.panic c) a w) (hD : waitsFor md ops D i = true) :
    ∀ (fuel : Nat) (listed : Array Bool) (a : Act) (w : World),
      (∀ j oj, ops[j]? = some oj → j ≠ i → listed.getD j true = false → (∀ e ∈ oj.after, Region.binds md e = true → e.on ≠ i) → oi.apart ops oj = true) →
      i ∈ Region.ready md ops listed → YieldsIf P ops S oi v a → S w →
      wpAnyD P md ops Q S D fuel (listed.setIfInBounds i true) (a.put oi.dst v) w → wpAnyD P md ops Q S D (fuel + 1) listed a w := by
  intro fuel
  induction fuel with
  | zero =>
    intro listed a w _ hr hy hS H
    refine ⟨fun h => (by rw [h] at hr; cases hr), fun j hj => ?_⟩
    by_cases hji : j = i
    · subst hji; exact hy.wpOp hi hS ⟨fun _ => hS, H⟩
    · have := ready_mono hj hji
      rw [H.1] at this
      cases this
  | succ fuel ih =>
    intro listed a w hfree hr hy hS H
    refine ⟨fun h => (by rw [h] at hr; cases hr), fun j hj => ?_⟩
    by_cases hji : j = i
    · subst hji; exact hy.wpOp hi hS ⟨fun _ => hS, H⟩
    · have h1 := H.2 j (ready_mono hj hji)
      obtain ⟨hjun, oj, hoj, hall⟩ := mem_ready.1 hj
      have hnot : ∀ e ∈ oj.after, Region.binds md e = true → e.on ≠ i := fun e he hb heq => by
        have h1 := hall e he hb
        have h0 := (mem_ready.1 hr).1
        rw [heq] at h1
        rcases Nat.lt_or_ge i listed.size with h' | h'
        · simp [h'] at h0 h1; rw [h0] at h1; cases h1
        · simp [Array.getElem?_eq_none h'] at h1
      have hDj : D j = false := by
        cases e : D j
        · rfl
        · obtain ⟨x, hx, hb, ho⟩ := waits_spec hD e hoj
          exact absurd ho (hnot x hx hb)
      have h2 := wpOp_putIf hoj (hfree j oj hoj hji hjun hnot) (fun cs b => hsel i oi cs b hi) (fun cs b => hsel j oj cs b hoj) hQ hy h1
      have hfree' : ∀ k ok, ops[k]? = some ok → k ≠ i → (listed.setIfInBounds j true).getD k true = false →
          (∀ e ∈ ok.after, Region.binds md e = true → e.on ≠ i) → oi.apart ops ok = true := fun k ok hk hki hun hno => by
        refine hfree k ok hk hki ?_ hno
        by_cases hjk : j = k
        · subst hjk; exact hjun
        · rw [getD_set_ne true hjk] at hun; exact hun
      refine wpOp_mono (fun a' w' h3 => ⟨h3.2.1, ih (listed.setIfInBounds j true) a' w' hfree' (ready_mono hr (Ne.symm hji)) h3.1 (h3.2.1 hDj) ?_⟩) h2
      rw [Array.setIfInBounds_comm _ _ hji]
      exact h3.2.2
theorem wpAnyD_take {i : Nat} {oi : Oper} {v : Value} {fuel : Nat} {listed : Array Bool} {a : Act} {w : World} (hi : ops[i]? = some oi)
    (hs : Region.noSelect ops = true) (hf : Region.free md ops listed i = true) (hr : (Region.ready md ops listed).contains i = true) (hD : waitsFor md ops D i = true)
    (hQ : ∀ c a w, Q (.panic c) (a.put oi.dst v) w → Q (.panic c) a w) (hy : YieldsIf P ops S oi v a) (hS : S w)
    (h : wpAnyD P md ops Q S D fuel (listed.setIfInBounds i true) (a.put oi.dst v) w) : wpAnyD P md ops Q S D (fuel + 1) listed a w :=
  wpAnyD_first hi (Region.noSelect_spec hs) hQ hD fuel listed a w (Region.free_spec hi hf) (by simpa using hr) hy hS h
theorem wpAnyD_one {i : Nat} {o : Oper} {fuel : Nat} {listed : Array Bool} {a : Act} {w : World} (hr : Region.ready md ops listed = [i]) (ho : ops[i]? = some o)
    (h : ∀ K' : Act → World → Prop, (∀ a w, (D i = false → S w) → wpAnyD P md ops Q S D fuel (listed.setIfInBounds i true) a w → K' a w) → if Region.wanted o (yielded ops a.tmps) = true then Oper.wp P o a w K' Q else K' (a.put o.dst undef) w) :
    wpAnyD P md ops Q S D (fuel + 1) listed a w := by
  refine ⟨fun h0 => (by rw [hr] at h0; cases h0), fun j hj => ?_⟩
  rw [hr] at hj
  obtain rfl := List.mem_singleton.1 hj
  exact wpOp_step ho (fun K' hK => h K' (fun a w hS hW => hK a w ⟨hS, hW⟩))
theorem wpAnyD_done {listed : Array Bool} {a : Act} {w : World} (hr : Region.ready md ops listed = []) (h : Q .normal a w) : ∀ fuel, wpAnyD P md ops Q S D fuel listed a w
  | 0 => ⟨hr, h⟩
  | _ + 1 => ⟨fun _ => h, by rw [hr]; simp⟩
theorem wp_region_D (S : World → Prop) (D : Nat → Bool) {id : Nat} {a : Act} {w : World} (hm : P.follows .mixedOrders = true)
    (h : wpAnyD P .any ops Q S D ops.size (Array.replicate ops.size false) a w.drew) : (Code.region id ops true).wp P Q a w :=
  wp_region_any hm (wpAny_of_D _ _ _ _ h)
end
end Go.Proofs.YtpoofjnfaijjjaaGreatDoor
namespace Go.Proofs.YtpoofjnfaijjjaaGreatDoor
open Go.RowKit Go.Proofs.YtpoofjnfaijjjaaGreatDoor.Ro
theorem box_cell (w : World) (v : Value) (T : TypeId) : (w.alloc (.cells #[v] T)).cell? ⟨w.heap.size, 0, none⟩ = some v := by
  simp only [World.cell?]
  rw [heap_alloc_new]
  rfl
structure Bq (g q : Nat) (no : Int) (w : World) : Prop where
  bx : w.cell? ⟨g, 0, none⟩ = some (.pointer (some ⟨q, 0, none⟩))
  no : w.cell? ⟨q, 7, none⟩ = some (.int .u64 no)
section
variable {g q : Nat} {no : Int} {w w' : World}
theorem Bq.glt (h : Bq g q no w) : g < w.heap.size := World.block_lt_of_cell? _ _ h.bx
theorem Bq.qlt (h : Bq g q no w) : q < w.heap.size := World.block_lt_of_cell? _ _ h.no
theorem Bq.keep (h : Bq g q no w) (e1 : w'.heap[g]? = w.heap[g]?) (e2 : w'.heap[q]? = w.heap[q]?) : Bq g q no w' :=
  ⟨(World.cell?_of_block (w := w) (a := ⟨g, 0, none⟩) e1).trans h.bx, (World.cell?_of_block (w := w) (a := ⟨q, 7, none⟩) e2).trans h.no⟩
theorem Bq.below (h : Bq g q no w) (hb : Below w.heap.size w w') : Bq g q no w' := h.keep (hb.block g h.glt) (hb.block q h.qlt)
theorem Bq.other (h : Bq g q no w) {i : Nat} (h1 : g ≠ i) (h2 : q ≠ i) (j : Nat) (v : Value) : Bq g q no (w.setCell ⟨i, j, none⟩ v) := h.keep (Below.heap_setCell _ _ _ _ h1) (Below.heap_setCell _ _ _ _ h2)
set_option maxRecDepth 100000 in
theorem tick1_any (hB : Bq g q no w) (x : Ern) : Calls Tryz.prog 41 (#[.agg (cellsE x)] ++ #[.pointer (some ⟨g, 0, none⟩)]) w fun e w' => e = .returned (.bool (decide (4 ≤ u64w (no - x.a)))) ∧ Below w.heap.size w w' := by
  have ba := below_alloc w (.cells (cellsE x) 112)
  have hX := BE.new x w
  have hB1 := hB.below ba
  have n0 := hB1.bx
  have n7 := hB1.no
  have x2 := hX.c2
  obtain ⟨w1, HW1⟩ : ∃ w1, Hid (w1 = w.alloc (.cells (cellsE x) 112)) := ⟨_, rfl⟩
  rw [← HW1.out] at ba n0 n7 x2
  obtain ⟨z, HZ⟩ : ∃ z, Hid (u64w (no - x.a) = z) := ⟨_, rfl⟩
  have hz1 : IntKind.u64.wrap (no - x.a) = z := HZ.out
  have hz2 : (no - x.a) % 18446744073709551616 = z := by rw [← IntKind.wrap_u64]; exact hz1
  rw [HZ.out]
  obtain ⟨c, HC⟩ : ∃ c, Hid (decide (4 ≤ z) = c) := ⟨_, rfl⟩
  have hc : decide (4 ≤ z) = c := HC.out
  rw [hc]
  go_enter Tryz.func41, Tryz.ntmps41
  go_upto_region 1 with fail
  rw [← HW1.out]
  go_quiet (fail)
  go_wp2_with fail
  go_ret
  exact ⟨rfl, bT ba (Ro.below_drewN _ _ _)⟩
end
section
variable {k Bp p : Nat} {b : Bl} {d : Det} {l : List Int} {w : World}
theorem dover_any (h : Sx k Bp p b d l w) (now : Int) : Calls Tryz.prog 42 #[.pointer (some ⟨b.q, 3, none⟩), .int .u64 now] w fun e w' =>
    (∃ v, e = .returned v ∧ Ro.Own w.heap.size v ((Do.overD d.D now).map Do.deadOf) w' ∧ ∀ g, v.ownBlock = some g → Away p b w' g) ∧ Sx k Bp p b { d with D := Do.stayD d.D now } l w' ∧ Stp p b w b w' := by
  refine (Do.over_any b.q b.md d.D now w h.dt.du).mono ?_
  rintro e w' ⟨⟨v, rfl, hO⟩, hQ, hM⟩
  obtain ⟨h1, s1⟩ := h.setD hQ hM
  exact ⟨⟨v, rfl, hO, fun g hg => h.away (hO.lt g hg).1 (hO.lt g hg).2⟩, h1, s1⟩
theorem dead_inc (h : d.Ok k) (now : Int) : ∀ u ∈ (Do.overD d.D now).map Do.deadOf, U64 u.i := fun u hu => by
  obtain ⟨x, hx, rfl⟩ := List.mem_map.1 hu
  have := h.di.ok x (List.mem_filter.1 hx).1
  exact ⟨this.i0, this.i1⟩
theorem dead_drop (k : Nat) (d : Det) (U : List Upd) (l : List Int) (j : Nat) (hj : j < U.length) : d.dead k (U.drop j) l = (d.take k U[j] k l).2.1.dead k (U.drop (j + 1)) (d.take k U[j] k l).2.2 := by
  rw [List.drop_eq_getElem_cons hj]
  rfl
end
section
variable {k : Nat} {b : Bl} {d : Det} {w w' : World}
theorem Dt.setQ (hD : Dt k b d w) {m' : Option Nat} {L' : List Ru.Itm} (hQ : Ru.Qu (b.xq d) b.q m' L' w') (hm : Ru.Mv b.q b.mq m' w w') (hl : L'.length ≤ 32) :
    Dt k { b with mq := m' } { d with Q := L' } w' := by
  have hs : ∀ i, i ≠ 2 → Bl.own { b with mq := m' } i = b.own i := own_but 2 (fun _ => rfl) (fun _ => rfl) (fun e => absurd rfl e) (fun _ => rfl) (fun _ => rfl) (fun _ => rfl) (fun _ => rfl)
  have hc : Bl.own { b with mq := m' } 2 = b.own 2 ∨ ∀ g, Bl.own { b with mq := m' } 2 = some g → w.heap.size ≤ g := hm.at_
  have hk : ∀ i g, i ≠ 0 → i ≠ 2 → b.own i = some g → w'.heap[g]? = w.heap[g]? := fun i g h0 h2 hg =>
    hm.block g (hD.sep.lt i g hg).2 (fun e => h0 (hD.sep.one i 0 g hg (by rw [e]; rfl))) (fun e => h2 (hD.sep.one i 2 g hg e.symm))
  refine ⟨⟨hD.ok.k64, hD.ok.inv, hQ.qi, hl, hD.ok.di, hD.ok.s1, hD.ok.s2, hD.ok.W, hD.ok.E, hD.ok.el, hD.ok.la, hD.ok.no⟩, hQ.heap, hD.roll.keep (hk 1 _ (by decide) (by decide) rfl), hD.row.keep fun g hg _ => hk 4 g (by decide) (by decide) hg, hQ.none_, hQ.some_, hD.dn, fun g hg => (hD.dm g hg).keep (hk 3 g (by decide) (by decide) hg), hD.ws.keep fun g hg _ => hk 5 g (by decide) (by decide) hg, hD.es.keep fun g hg _ => hk 6 g (by decide) (by decide) hg,
    hD.tab.keep (hm.block 1 hD.tab.lt (fun e => by have := hD.sep.lt 0 _ rfl; omega) (fun e => by have := hD.sep.lt 2 _ e.symm; omega)), ?_⟩
  exact hD.sep.upd 2 hD.tab.lt hm.size hs (hc.imp id fun e g hg => ⟨e g hg, hQ.mlt g hg⟩)
def bare (k : Nat) : Det := ⟨newS k, [], [], [], [], [], 0, 0, false⟩
def bareB (q r : Nat) : Bl := ⟨q, r, none, none, .slice none 0 0, .slice none 0 0, .slice none 0 0⟩
theorem u0 : U64 0 := ⟨by decide, by decide⟩
theorem bare_ok (hk : k < 64) : (bare k).Ok k :=
  ⟨hk, inv_new hk, ⟨List.Pairwise.nil, List.Pairwise.nil, fun x hx => by cases hx⟩, Nat.zero_le _, ⟨List.Pairwise.nil, fun x hx => by cases hx⟩, List.Pairwise.nil, (fun x hx => by cases hx), (fun x hx => by cases hx), (fun x hx => by cases hx), Nat.zero_le _, u0, u0⟩
theorem bare_dt (hk : k < 64) {q r : Nat} (hq : w.heap[q]? = some (.cells ((bareB q r).cells (bare k)) 94 (0, 0))) (hr : Rl r k (newS k) w) (hT : Bnd.Tab w) (h1 : 1 < r) (h2 : r < q) (h3 : q < w.heap.size) : Dt k (bareB q r) (bare k) w :=
  ⟨bare_ok hk, hq, hr, ⟨none, 0, rfl, Nat.le_refl _, Nat.zero_le _, fun _ => rfl, Or.inl rfl⟩, (fun _ => rfl), (fun g hg => by cases hg), (fun _ => rfl), (fun g hg => by cases hg), OwE.nil _ _ _ _, OwE.nil _ _ _ _, hT,
    ⟨fun i j g hi hj => by
      have hi' : ∀ i g, (bareB q r).own i = some g → (i = 0 ∧ g = q) ∨ (i = 1 ∧ g = r) := fun i g h => by
        rcases sep_idx (i := i) with e | e | e | e | e | e | e | e
        · subst e; exact .inl ⟨rfl, (Option.some.inj h).symm⟩
        · subst e; exact .inr ⟨rfl, (Option.some.inj h).symm⟩
        all_goals first | (subst e; cases h) | (rw [own_hi _ e] at h; cases h)
      rcases hi' i g hi with h | h <;> rcases hi' j g hj with h' | h' <;> omega, fun i g h => by
      rcases sep_idx (i := i) with e | e | e | e | e | e | e | e
      · subst e; obtain rfl : q = g := Option.some.inj h; omega
      · subst e; obtain rfl : r = g := Option.some.inj h; omega
      all_goals first | (subst e; cases h) | (rw [own_hi _ e] at h; cases h)⟩⟩
set_option maxRecDepth 100000 in
set_option maxHeartbeats 1000000 in
theorem dnew_any (me : Int) (w : World) (hT : Bnd.Tab w) : Calls Tryz.prog 9 #[.int .i64 me] w fun e w' =>
    (∀ k : Nat, me = k → k < 64 → ∃ b, e = .returned (.pointer (some ⟨b.q, 0, none⟩)) ∧ Dt k b (Det.new k) w' ∧ ∀ i g, b.own i = some g → w.heap.size ≤ g) ∧ (¬ (0 ≤ me ∧ me < 64) → e = .returned (.pointer none)) ∧ Below w.heap.size w w' := by
  have hn := new_any me w
  by_cases hme : 0 ≤ me ∧ me < 64
  · obtain ⟨k, rfl⟩ : ∃ k : Nat, me = k := ⟨me.toNat, by omega⟩
    have hk : k < 64 := by omega
    go_enter Tryz.func9, Tryz.ntmps9
    go_wp2_with fail
    refine hn.mono ?_
    rintro e w1 ⟨h1, _, b1⟩
    obtain ⟨r, rfl, hrz, hR⟩ := h1 k rfl hk
    have hT1 := hT.below hT.lt b1
    have hrl := hR.lt
    have b2 := below_alloc w1 (.cells ((bareB w1.heap.size r).cells (bare k)) 94)
    have hq2 : (w1.alloc (.cells ((bareB w1.heap.size r).cells (bare k)) 94)).heap[w1.heap.size]? = _ := heap_alloc_new w1 _
    obtain ⟨q, HQ⟩ : ∃ q, Hid (w1.heap.size = q) := ⟨_, rfl⟩
    obtain ⟨w2, HW2⟩ : ∃ w2, Hid (w2 = w1.alloc (.cells ((bareB q r).cells (bare k)) 94)) := ⟨_, rfl⟩
    rw [HQ.out, ← HW2.out] at hq2
    rw [HQ.out, ← HW2.out] at b2
    have hb12 : Below w1.heap.size w1 w2 := by rw [HQ.out]; exact b2
    have hrq : r < q := by rw [← HQ.out]; exact hrl
    have hT2 : Bnd.Tab w2 := hT1.keep (b2.block 1 (by rw [← HQ.out]; exact hT1.lt))
    have hd2 : Dt k (bareB q r) (bare k) w2 := bare_dt hk hq2 (hR.keep (b2.block r hrq)) hT2 (by have := hT.lt; omega) hrq (Array.getElem?_eq_some_iff.1 hq2).1
    have HW3 : Hid (w2 = w1.alloc (.cells #[.pointer (some ⟨r, 0, none⟩), .slice none 0 0, .map none, .map none, .slice none 0 0, .slice none 0 0, .int .u64 0, .int .u64 0, .bool false] 94)) := HW2.out
    have hS1 : w2.cell? ⟨q, 0, none⟩ = some (.pointer (some ⟨r, 0, none⟩)) := hd2.c0
    have hmi := fun w' hR' => mine_any r k (newS k) hk w' hR'
    rw [show newS k k = some ⟨k, 0, 0⟩ from Tab.set_same _ _ _] at hmi
    have hmi : ∀ w', Rl r k (newS k) w' → Calls Tryz.prog 33 #[.pointer (some ⟨r, 0, none⟩)] w' fun e w'' => e = .returned (.agg #[.int .i64 k, .int .u64 0, .int .i64 0]) ∧ Below w'.heap.size w' w'' := hmi
    go_upto_region 5 with fail
    rw [HQ.out, ← HW3.out]
    go_region_held3 (fun w' => w'.cell? ⟨q, 0, none⟩ = some (.pointer (some ⟨r, 0, none⟩))) (first | exact hS1 | exact hS3 | exact hS4) ((first
      | (go_at_call 33; go_must (refine (hmi _ hd2.drew.roll).mono ?_; rintro e w3 ⟨rfl, b3⟩; have hd3 := hd2.drew.below b3; have hS3 : w3.cell? ⟨q, 0, none⟩ = some (.pointer (some ⟨r, 0, none⟩)) := hd3.c0))
      | (go_at_call 32; go_must (refine (Ru.put_any (X := (bareB q r).xq (bare k)) q none [] (Nat.zero_le _) k 0 0 u0 w3 hd3.qu).mono ?_; rintro e w4 ⟨rfl, m4, hQ4, hM4⟩; have hd4 := hd3.setQ hQ4 hM4 (Ru.putQ_length (Nat.zero_le _) _); have hS4 : w4.cell? ⟨q, 0, none⟩ = some (.pointer (some ⟨r, 0, none⟩)) := hd4.c0))))
    go_wp2_with fail
    go_ret
    refine ⟨fun k' e hk' => ?_, fun h => absurd hme h, ?_⟩
    · obtain rfl : k = k' := by omega
      have hz1 := b1.size
      have hz2 : q < w2.heap.size := hd2.qlt
      have hz3 := b3.size
      have e3 : w2.drew.heap.size = w2.heap.size := rfl
      refine ⟨_, rfl, hd4, fun i g hg => ?_⟩
      rcases sep_idx (i := i) with e | e | e | e | e | e | e | e
      · subst e; obtain rfl : q = g := Option.some.inj hg; omega
      · subst e; obtain rfl : r = g := Option.some.inj hg; omega
      · subst e
        rcases hM4.at_ with e' | e'
        · rw [show Bl.own { bareB q r with mq := m4 } 2 = m4 from rfl, e'] at hg; cases hg
        · have := e' g hg; omega
      all_goals first | (subst e; cases hg) | (rw [own_hi _ e] at hg; cases hg)
    · have hz2 : w1.heap.size < w2.heap.size := by rw [HQ.out]; exact hd2.qlt
      have bq2 : Below w.heap.size w w2 := bT b1 (by rw [HQ.out]; exact b2)
      have bq3 : Below w.heap.size w w3 := bT (bD bq2) b3
      have hz1 := b1.size
      have hz3 := bq3.size
      exact ⟨by rw [hM4.os, bq3.os], by rw [hM4.tape, bq3.tape], by rw [hM4.output, bq3.output], Nat.le_trans hz3 hM4.size, fun g hg => by
        rw [hM4.block g (by omega) (fun e => by rw [e] at hg; rw [HQ.out] at hz1; exact absurd hg (by show ¬ q < _; omega)) (fun e => by cases e), bq3.block g hg]⟩
  · go_enter Tryz.func9, Tryz.ntmps9
    go_wp2_with fail
    refine hn.mono ?_
    rintro e w1 ⟨_, h1, b1⟩
    obtain rfl := h1 hme
    go_wp2_with fail
    go_ret
    exact ⟨fun k e hk => absurd ⟨by omega, by omega⟩ hme, fun _ => rfl, b1⟩
end
section
variable {k Bp p : Nat} {b : Bl} {d : Det} {l : List Int} {w : World}
set_option maxRecDepth 100000 in
set_option maxHeartbeats 2000000 in
theorem helped_any (h : Sx k Bp p b d l w) (n : Nte) (ho : Nd n.o) (hf : Nd n.f) (hq : U64 n.q) (na : Option Addr) (nl nc : Nat) :
    Calls Tryz.prog 105 #[.pointer (some ⟨b.q, 0, none⟩), ntV n (.slice na nl nc)] w fun e w' => ∃ v X b', e = .returned v ∧ Sd p b' w v X w' ∧ X.map NtX.n = (d.helped k n).1 ∧ Sx k Bp p b' (d.helped k n).2 l w' ∧ Stp p b w b' w' := by
  obtain ⟨K, F, T, Q, O, U⟩ := n
  dsimp only at ho hf hq
  have ba := below_alloc w (.cells (ntC K F T Q O (.slice na nl nc)) 37)
  have hN := Bn.new K F T Q O (.slice na nl nc) w
  have h1 := h.below ba
  have hA := h.away (w' := w.alloc (.cells (ntC K F T Q O (.slice na nl nc)) 37)) (Nat.le_refl _) hN.lt
  obtain ⟨w1, HW1⟩ : ∃ w1, Hid (w1 = w.alloc (.cells (ntC K F T Q O (.slice na nl nc)) 37)) := ⟨_, rfl⟩
  rw [← HW1.out] at ba hN h1 hA
  have hS1 := hN.c4
  obtain ⟨R, HR⟩ : ∃ R, Hid (d.helped k ⟨K, F, T, Q, O, U⟩ = R) := ⟨_, rfl⟩
  rw [HR.out]
  have HR' : Hid (R = if O = (k : Int) then d.pinged k ⟨K, F, T, Q, O, U⟩ else ([d.ping k O], { (d.next).told k O with E := (if 32 ≤ d.E.length then d.E.tail else d.E) ++ [⟨O, u64w (d.la + 1), d.no, F, Q⟩] })) := HR.out.symm
  clear HR
  cases hok : (O == (k : Int))
  case true =>
    have e1 : O = (k : Int) := by simpa using hok
    rw [if_pos e1] at HR'
    clear e1
    go_enter Tryz.func105, Tryz.ntmps105
    go_upto_region 1 with fail
    rw [← HW1.out]
    go_region_held3 (fun w' => w'.cell? ⟨w.heap.size, 4, none⟩ = some (.int .i64 O)) (first | exact hS1 | exact hS2) ((first
      | (go_at_call 44; refine (me_any h1.drew).mono ?_; rintro e w2 ⟨rfl, hb2⟩; have h2 := h1.drew.below hb2; have hN2 := hN.drew.below hb2; have hS2 := hN2.c4)))
    have x0 := hN2.c0
    have x1 := hN2.c1
    have x2 := hN2.c2
    have x3 := hN2.c3
    have x4 := hN2.c4
    have x5 := hN2.c5
    have S2 : Stp p b w b w2 := (Stp.of ba).drew.then hb2
    have hA2 := hA.drew.stp (Stp.of hb2)
    have hpg := pinged_any h2 K F T Q O na nl nc
    go_wp2_with fail
    refine hpg.mono ?_
    rintro e w3 ⟨v3, X3, rfl, hs3, hX3, h3, s3⟩
    obtain ⟨a3, L3, c3, rfl⟩ : ∃ a L c, v3 = .slice a L c := (by obtain ⟨a, cap, e, _⟩ := hs3.row.len; exact ⟨a, _, cap, e⟩)
    go_wp2_with fail
    go_ret
    rw [HR'.out]
    exact ⟨_, X3, b, rfl, hs3.up S2.size, hX3, h3, S2.trans s3⟩
  case false =>
  have e1 : ¬ O = (k : Int) := by simpa using hok
  rw [if_neg e1] at HR'
  clear e1
  have hel := h.dt.ok.el
  go_enter Tryz.func105, Tryz.ntmps105
  go_upto_region 1 with fail
  rw [← HW1.out]
  go_region_held3 (fun w' => w'.cell? ⟨w.heap.size, 4, none⟩ = some (.int .i64 O)) (first | exact hS1 | exact hS2) ((first
    | (go_at_call 44; refine (me_any h1.drew).mono ?_; rintro e w2 ⟨rfl, hb2⟩; have h2 := h1.drew.below hb2; have hN2 := hN.drew.below hb2; have hS2 := hN2.c4)))
  have S2 : Stp p b w b w2 := (Stp.of ba).drew.then hb2
  have hA2 := hA.drew.stp (Stp.of hb2)
  clear h1 hN hA ba hS1 hS2 hb2
  obtain ⟨va, vcap, hve, hvc, _⟩ := h2.dt.es.len
  obtain ⟨E1, HE1⟩ : ∃ E1, Hid ((if 32 ≤ d.E.length then d.E.tail else d.E) = E1) := ⟨_, rfl⟩
  rw [HE1.out] at HR'
  have c5 := h2.dt.c5
  rw [hve] at c5
  go_upto_if 19 with fail
  go_cut [] from 19 to 27 (fun wx => ∃ b1, Sx k Bp p b1 { d with E := E1 } l wx ∧ Stp p b w b1 wx ∧ Bn w.heap.size K F T Q O (.slice na nl nc) wx ∧ Away p b1 wx w.heap.size ∧ E1.length ≤ 31)
  case first =>
    by_cases h32 : 32 ≤ d.E.length
    · have hE1 : d.E.eraseIdx 0 = E1 := by rw [← HE1.out, if_pos h32]; cases d.E <;> rfl
      obtain ⟨ge, rfl⟩ : ∃ ge, va = some ⟨ge, 0, none⟩ := by
        rcases h2.dt.es.2 with ⟨e, h0⟩ | ⟨g, cap, cur, e, _⟩
        · omega
        · rw [hve] at e; cases e; exact ⟨g, rfl⟩
      have hE2 := h2.dt.es
      rw [hve] at hE2
      have hmem := fun x (hx : x ∈ d.E.eraseIdx 0) => h.dt.ok.E x (List.mem_of_mem_eraseIdx hx)
      have hlen : (d.E.eraseIdx 0).length ≤ 31 := by rw [List.length_eraseIdx, if_pos (by omega)]; omega
      have hdl := delete1_any ge vcap d.E 0 (by omega) (by omega) w2 hE2
      rw [hE1] at hdl hmem hlen
      have h32' : (32 : Int) ≤ d.E.length := by omega
      go_wp2_with fail
      refine hdl.mono ?_
      rintro e w4 ⟨⟨rfl, hO4⟩, hB4⟩
      have hq4 : w4.heap[b.q]? = w2.heap[b.q]? := hB4.block b.q h2.dt.qlt (fun e => by have := h2.dt.sep.one 0 6 b.q rfl (by show b.ve.ownBlock = _; rw [hve, e]; rfl); omega)
      have c5' := (World.cell?_of_block (w := w2) (a := ⟨b.q, 5, none⟩) hq4).trans h2.dt.c5
      have f5' := (World.frozen?_of_block (w := w2) (a := ⟨b.q, 5, none⟩) hq4).trans (h2.dt.free 5)
      obtain ⟨h5, s5⟩ := h2.setE hO4 (by rw [hve]; exact grown_of hB4) (.inl (by rw [hve]; rfl)) hmem (by omega)
      clear c5
      go_wp2_with fail
      go_meet
      exact ⟨_, h5, S2.trans s5, hN2.stp hA2 s5, hA2.stp s5, hlen⟩
    · have hE1 : d.E = E1 := by rw [← HE1.out, if_neg h32]
      have h32' : ¬ (32 : Int) ≤ d.E.length := by omega
      have h5 : Sx k Bp p b { d with E := E1 } l w2 := by rw [← hE1]; exact h2
      have hl : E1.length ≤ 31 := by rw [← hE1]; omega
      clear hE1
      go_wp2_with fail
      go_meet
      exact ⟨_, h5, S2, hN2, hA2, hl⟩
  case rest =>
  obtain ⟨b1, h3, s3, hN3, hA3, hl3⟩ := hcut
  clear h2 S2 hN2 hA2 hve hvc c5 hel
  generalize wc = w3 at *
  have hqq : b1.q = b.q := s3.q
  have hpi := ping_any h3 O
  rw [hqq] at hpi
  have n4 := hN3.c4
  go_upto_region 5 with fail
  go_wp2_with fail
  refine hpi.mono ?_
  rintro e w4 ⟨v4, rfl, hO4, h4, s4⟩
  obtain ⟨a4, L4, c4, rfl⟩ : ∃ a L c, v4 = .slice a L c := (by obtain ⟨a, cap, e, _⟩ := hO4.ru; exact ⟨a, _, cap, e⟩)
  have hN4 := hN3.stp hA3 s4
  have hA4 := hA3.stp s4
  have S4 := s3.trans s4
  have hnw := news_away h3 hO4
  obtain ⟨y, HY⟩ : ∃ y, Hid (u64w (d.la + 1) = y) := ⟨_, rfl⟩
  have hyy : u64w (({ d with E := E1 } : Det).la + 1) = y := HY.out
  have hyu : U64 y := by rw [← HY.out]; exact u64w_ok _
  unfold Det.ping at hO4
  rw [HY.out] at HR'
  have b5 := below_alloc w4 (.cells (ntC 1 k O y 0 (.slice a4 L4 c4)) 37)
  have hP := Bn.new 1 k O y 0 (.slice a4 L4 c4) w4
  have h5 := h4.below b5
  have hN5 := hN4.below b5
  have hA5 := hA4.stp (Stp.of b5)
  have hAP := h4.away (w' := w4.alloc (.cells (ntC 1 k O y 0 (.slice a4 L4 c4)) 37)) (Nat.le_refl _) hP.lt
  have S5 := S4.then b5
  obtain ⟨w5, HW5⟩ : ∃ w5, Hid (w5 = w4.alloc (.cells (ntC 1 k O y 0 (.slice a4 L4 c4)) 37)) := ⟨_, rfl⟩
  rw [← HW5.out] at hP h5 hN5 hA5 hAP S5
  clear hN4 hA4 n4
  go_upto_region 6 with fail
  unfold Det.ping
  rw [hyy, ← HW5.out]
  obtain ⟨N, HN⟩ : ∃ N, Hid (E1.length = N) := ⟨_, rfl⟩
  obtain ⟨va, vcap, hve, hvc, _⟩ := h5.dt.es.len
  have hve : b1.ve = .slice va N vcap := by rw [← HN.out]; exact hve
  have c5 : w5.cell? ⟨b.q, 5, none⟩ = some (.slice va N vcap) := by have := h5.dt.c5; rw [hqq, hve] at this; exact this
  have c7 : w5.cell? ⟨b.q, 7, none⟩ = some (.int .u64 d.no) := by have := h5.dt.c7; rw [hqq] at this; exact this
  have hOE : OwE encE 112 0 (.slice va N vcap) E1 w5 := by have := h5.dt.es; rw [hve] at this; exact this
  have hbe := below_alloc w5 (.cells (cellsE ⟨O, y, d.no, F, Q⟩) 112)
  have hBE := (BE.new ⟨O, y, d.no, F, Q⟩ w5).drew
  have h6 := (h5.below hbe).drew
  have hN6 := (hN5.below hbe).drew
  have hP6 := (hP.below hbe).drew
  have hA6 := (hA5.stp (Stp.of hbe)).drew
  have hAP6 := (hAP.stp (Stp.of hbe)).drew
  have S6 := (S5.then hbe).drew
  have hOE6 : OwE encE 112 0 (.slice va N vcap) E1 (w5.alloc (.cells (cellsE ⟨O, y, d.no, F, Q⟩) 112)).drew := (hOE.below hbe).keep fun _ _ _ => rfl
  obtain ⟨gp, HGP⟩ : ∃ gp, Hid (w4.heap.size = gp) := ⟨_, rfl⟩
  rw [HGP.out] at hP hAP hP6 hAP6 ⊢
  have hok : ErnOk ⟨O, y, d.no, F, Q⟩ := ⟨ho, hyu, h.dt.ok.no, hf, hq⟩
  have hSS := And.intro c5 (And.intro hN5.c4 (And.intro hP.c3 (And.intro c7 (And.intro hN5.c1 hN5.c3))))
  have c5' : (w5.alloc (.cells (cellsE ⟨O, y, d.no, F, Q⟩) 112)).drew.cell? ⟨b.q, 5, none⟩ = some (.slice va N vcap) := by have := h6.dt.c5; rw [hqq, hve] at this; exact this
  have c7' : (w5.alloc (.cells (cellsE ⟨O, y, d.no, F, Q⟩) 112)).drew.cell? ⟨b.q, 7, none⟩ = some (.int .u64 d.no) := by have := h6.dt.c7; rw [hqq] at this; exact this
  have hS6 := And.intro c5' (And.intro hN6.c4 (And.intro hP6.c3 (And.intro c7' (And.intro hN6.c1 hN6.c3))))
  obtain ⟨w6, HW6⟩ : ∃ w6, Hid (w6 = (w5.alloc (.cells (cellsE ⟨O, y, d.no, F, Q⟩) 112)).drew) := ⟨_, rfl⟩
  rw [← HW6.out] at hBE h6 hN6 hP6 hA6 hAP6 S6 hOE6 hS6
  have S46 : Stp p b1 w4 b1 w6 := by rw [HW6.out]; exact ((Stp.of (by rw [HW5.out]; exact below_alloc w4 _)).then hbe).drew
  have HB6 : Hid (RdE encE (.slice (some ⟨w5.heap.size, 0, none⟩) 1 1) [⟨O, y, d.no, F, Q⟩] w6) := hBE.rd
  have HO6 : Hid (OwE encE 112 0 (.slice va N vcap) E1 w6) := hOE6
  have HS6 : Hid _ := hS6
  have HOK : Hid _ := hok
  clear hBE hOE hOE6 c5 c7 c5' c7' hbe hS6 b5 hok hyu
  refine wp_region_D (fun w' => w'.cell? ⟨b.q, 5, none⟩ = some (.slice va N vcap) ∧ w'.cell? ⟨w.heap.size, 4, none⟩ = some (.int .i64 O) ∧ w'.cell? ⟨gp, 3, none⟩ = some (.int .u64 y) ∧ w'.cell? ⟨b.q, 7, none⟩ = some (.int .u64 d.no) ∧ w'.cell? ⟨w.heap.size, 1, none⟩ = some (.int .i64 F) ∧ w'.cell? ⟨w.heap.size, 3, none⟩ = some (.int .u64 Q)) (fun j => j == 22) (by kernel_rfl) ?_
  refine wpAnyD_take (i := 0) (v := .pointer (some ⟨b.q, 0, none⟩)) rfl (by kernel_rfl) (by kernel_rfl) (by kernel_rfl) (by kernel_rfl) (fun _ _ _ h => h) (Or.inl ⟨by rfl, ?_⟩) hSS ?_
  · intro w0 hw0
    clear hw0
    go_simp
  refine wpAnyD_take (i := 1) (v := .pointer (some ⟨b.q, 0, none⟩)) rfl (by kernel_rfl) (by kernel_rfl) (by kernel_rfl) (by kernel_rfl) (fun _ _ _ h => h) (Or.inl ⟨by rfl, ?_⟩) hSS ?_
  · intro w0 hw0
    clear hw0
    go_simp
  refine wpAnyD_take (i := 2) (v := .pointer (some ⟨b.q, 0, none⟩)) rfl (by kernel_rfl) (by kernel_rfl) (by kernel_rfl) (by kernel_rfl) (fun _ _ _ h => h) (Or.inl ⟨by rfl, ?_⟩) hSS ?_
  · intro w0 hw0
    clear hw0
    go_simp
  refine wpAnyD_take (i := 3) (v := .pointer (some ⟨b.q, 5, none⟩)) rfl (by kernel_rfl) (by kernel_rfl) (by kernel_rfl) (by kernel_rfl) (fun _ _ _ h => h) (Or.inl ⟨by rfl, ?_⟩) hSS ?_
  · intro w0 hw0
    clear hw0
    go_simp
  refine wpAnyD_take (i := 4) (v := .slice va N vcap) rfl (by kernel_rfl) (by kernel_rfl) (by kernel_rfl) (by kernel_rfl) (fun _ _ _ h => h) (Or.inl ⟨by rfl, ?_⟩) hSS ?_
  · intro w0 hw0
    obtain ⟨z0, z1, z2, z3, z4, z5⟩ := hw0
    go_simp
  refine wpAnyD_take (i := 5) (v := .pointer (some ⟨w.heap.size, 4, none⟩)) rfl (by kernel_rfl) (by kernel_rfl) (by kernel_rfl) (by kernel_rfl) (fun _ _ _ h => h) (Or.inl ⟨by rfl, ?_⟩) hSS ?_
  · intro w0 hw0
    clear hw0
    go_simp
  refine wpAnyD_take (i := 6) (v := .int .i64 O) rfl (by kernel_rfl) (by kernel_rfl) (by kernel_rfl) (by kernel_rfl) (fun _ _ _ h => h) (Or.inl ⟨by rfl, ?_⟩) hSS ?_
  · intro w0 hw0
    obtain ⟨z0, z1, z2, z3, z4, z5⟩ := hw0
    go_simp
  refine wpAnyD_take (i := 7) (v := .pointer (some ⟨gp, 3, none⟩)) rfl (by kernel_rfl) (by kernel_rfl) (by kernel_rfl) (by kernel_rfl) (fun _ _ _ h => h) (Or.inl ⟨by rfl, ?_⟩) hSS ?_
  · intro w0 hw0
    clear hw0
    go_simp
  refine wpAnyD_take (i := 8) (v := .int .u64 y) rfl (by kernel_rfl) (by kernel_rfl) (by kernel_rfl) (by kernel_rfl) (fun _ _ _ h => h) (Or.inl ⟨by rfl, ?_⟩) hSS ?_
  · intro w0 hw0
    obtain ⟨z0, z1, z2, z3, z4, z5⟩ := hw0
    go_simp
  refine wpAnyD_take (i := 9) (v := .pointer (some ⟨b.q, 0, none⟩)) rfl (by kernel_rfl) (by kernel_rfl) (by kernel_rfl) (by kernel_rfl) (fun _ _ _ h => h) (Or.inl ⟨by rfl, ?_⟩) hSS ?_
  · intro w0 hw0
    clear hw0
    go_simp
  refine wpAnyD_take (i := 10) (v := .pointer (some ⟨b.q, 0, none⟩)) rfl (by kernel_rfl) (by kernel_rfl) (by kernel_rfl) (by kernel_rfl) (fun _ _ _ h => h) (Or.inl ⟨by rfl, ?_⟩) hSS ?_
  · intro w0 hw0
    clear hw0
    go_simp
  refine wpAnyD_take (i := 11) (v := .pointer (some ⟨b.q, 7, none⟩)) rfl (by kernel_rfl) (by kernel_rfl) (by kernel_rfl) (by kernel_rfl) (fun _ _ _ h => h) (Or.inl ⟨by rfl, ?_⟩) hSS ?_
  · intro w0 hw0
    clear hw0
    go_simp
  refine wpAnyD_take (i := 12) (v := .int .u64 d.no) rfl (by kernel_rfl) (by kernel_rfl) (by kernel_rfl) (by kernel_rfl) (fun _ _ _ h => h) (Or.inl ⟨by rfl, ?_⟩) hSS ?_
  · intro w0 hw0
    obtain ⟨z0, z1, z2, z3, z4, z5⟩ := hw0
    go_simp
  refine wpAnyD_take (i := 13) (v := .pointer (some ⟨w.heap.size, 1, none⟩)) rfl (by kernel_rfl) (by kernel_rfl) (by kernel_rfl) (by kernel_rfl) (fun _ _ _ h => h) (Or.inl ⟨by rfl, ?_⟩) hSS ?_
  · intro w0 hw0
    clear hw0
    go_simp
  refine wpAnyD_take (i := 14) (v := .int .i64 F) rfl (by kernel_rfl) (by kernel_rfl) (by kernel_rfl) (by kernel_rfl) (fun _ _ _ h => h) (Or.inl ⟨by rfl, ?_⟩) hSS ?_
  · intro w0 hw0
    obtain ⟨z0, z1, z2, z3, z4, z5⟩ := hw0
    go_simp
  refine wpAnyD_take (i := 15) (v := .pointer (some ⟨w.heap.size, 3, none⟩)) rfl (by kernel_rfl) (by kernel_rfl) (by kernel_rfl) (by kernel_rfl) (fun _ _ _ h => h) (Or.inl ⟨by rfl, ?_⟩) hSS ?_
  · intro w0 hw0
    clear hw0
    go_simp
  refine wpAnyD_take (i := 16) (v := .int .u64 Q) rfl (by kernel_rfl) (by kernel_rfl) (by kernel_rfl) (by kernel_rfl) (fun _ _ _ h => h) (Or.inl ⟨by rfl, ?_⟩) hSS ?_
  · intro w0 hw0
    obtain ⟨z0, z1, z2, z3, z4, z5⟩ := hw0
    go_simp
  refine wpAnyD_take (i := 17) (v := .agg (cellsE ⟨O, y, d.no, F, Q⟩)) rfl (by kernel_rfl) (by kernel_rfl) (by kernel_rfl) (by kernel_rfl) (fun _ _ _ h => h) (Or.inl ⟨by rfl, ?_⟩) hSS ?_
  · intro w0 hw0
    clear hw0
    go_simp
  refine wpAnyD_one (i := 18) (by kernel_rfl) rfl (fun K hK => ?_)
  go_simp
  rw [← HW6.out]
  refine hK _ _ (fun _ => HS6.out) ?_
  clear hK K
  refine wpAnyD_one (i := 19) (by kernel_rfl) rfl (fun K hK => ?_)
  refine step_appE Tryz.underlying92 Tryz.infoE (by decide) (by decide) w6 (by rfl) (.tmp 36) (.tmp 50) (by rfl) 0 (.slice va N vcap) E1 (by rfl) HO6.out (Nat.zero_le _) w5.heap.size 0 1 [⟨O, y, d.no, F, Q⟩] 1 rfl (by rfl) HB6.out (by simp; omega) ?_
  intro v7 w7 hO7 hg7 hv7
  obtain ⟨a7, L7, c7, rfl⟩ : ∃ a L c, v7 = .slice a L c := (by obtain ⟨a, cap, e, _⟩ := hO7.len; exact ⟨a, _, cap, e⟩)
  have hown : b1.own 6 = (Value.slice va N vcap).ownBlock := by show b1.ve.ownBlock = _; rw [hve]
  have hq7 : w7.heap[b.q]? = w6.heap[b.q]? := hg7.block b.q (hqq ▸ h6.dt.qlt) (fun e => by have := h6.dt.sep.one 0 6 b.q (by show some b1.q = _; rw [hqq]) (by rw [hown, e]); omega)
  have c5 := (World.cell?_of_block (w := w6) (a := ⟨b.q, 5, none⟩) hq7).trans HS6.out.1
  have cN := (World.cell?_of_block (w := w6) (a := ⟨b.q, 7, none⟩) hq7).trans HS6.out.2.2.2.1
  have f5 := (World.frozen?_of_block (w := w6) (a := ⟨b.q, 5, none⟩) hq7).trans (hqq ▸ h6.dt.free 5)
  have hN7 := hN6.grown hg7 (fun e => hA6.own 6 (hown.trans e))
  have hP7 := hP6.grown hg7 (fun e => hAP6.own 6 (hown.trans e))
  have hS7 := And.intro c5 (And.intro hN7.c4 (And.intro hP7.c3 (And.intro cN (And.intro hN7.c1 hN7.c3))))
  obtain ⟨h8, s8⟩ := h6.setE hO7 (by rw [hve]; exact hg7) (by rw [hve]; exact hv7.imp id (fun e g hg => by rw [e] at hg; cases hg; exact Nat.le_refl _))
    (fun x hx => (List.mem_append.1 hx).elim (fun hx => h6.dt.ok.E x hx) (fun hx => by obtain rfl := List.mem_singleton.1 hx; exact HOK.out)) (by simp; omega)
  rw [hqq] at h8 s8
  refine hK _ _ (fun _ => hS7) ?_
  clear hK K hSS
  have hSS := hS7
  refine wpAnyD_one (i := 20) (by kernel_rfl) rfl (fun K hK => ?_)
  go_simp
  refine hK _ _ (fun _ => hSS) ?_
  clear hK K
  refine wpAnyD_one (i := 21) (by kernel_rfl) rfl (fun K hK => ?_)
  go_simp
  refine hK _ _ (fun _ => hSS) ?_
  clear hK K
  refine wpAnyD_one (i := 22) (by kernel_rfl) rfl (fun K hK => ?_)
  go_simp
  refine hK _ _ (fun e => absurd e (by decide)) ?_
  clear hK K hSS hS7
  refine wpAnyD_done (by kernel_rfl) ?_ _
  have hP8 := hP6.stp hAP6 s8
  have hO8 := hO4.keep fun g hg _ => (S46.trans s8).keep (hnw g hg)
  obtain ⟨w8, HW8⟩ : ∃ w8, Hid (w8 = w7.setCell ⟨b.q, 5, none⟩ (.slice a7 L7 c7)) := ⟨_, rfl⟩
  have hAN := fun g hg => (hnw g hg).stp (S46.trans s8)
  have S8 := S6.trans s8
  rw [← HW8.out] at hP8 hO8 h8 hAN S8 ⊢
  clear c5 cN f5 hN7 hP7 hO7 hg7 hv7 s8
  have p0 := hP8.c0
  have p1 := hP8.c1
  have p2 := hP8.c2
  have p3 := hP8.c3
  have p4 := hP8.c4
  have p5 := hP8.c5
  have hz8 : w.heap.size ≤ w3.heap.size := s3.size
  have b9 := below_alloc w8 (.cells (ntC 1 k O y 0 (.slice a4 L4 c4)) 37)
  have hsd := Sd.one (w0 := w) (n := ⟨1, k, O, y, 0, d.news k O⟩) h8 S8.size (Ro.Own.mono hO8 hz8) hAN
  go_wp2_with fail
  go_ret
  rw [HR'.out]
  exact ⟨_, rfl, _, _, hsd, (by unfold Det.ping; rw [HY.out]; rfl), h8.below b9, S8.then b9⟩
end
end Go.Proofs.YtpoofjnfaijjjaaGreatDoor
