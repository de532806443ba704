/-
  A detector's leaves: Live, All, Now, me, many, knows, isNode; a struct's first field; notes. suspect, knows. learn. takeIn.
-/
import Derived.Test.YtpoofjnfaijjjaaGreatDoorMMvr
import Derived.Deep.RegionHeld3
namespace Go.Proofs.YtpoofjnfaijjjaaGreatDoor
open Go.RowKit Go.Proofs.YtpoofjnfaijjjaaGreatDoor.Ro

theorem run_node (n i s : Int) (w : World) : (Instr.field 39 (.agg #[.int .i64 n, .int .u64 i, .int .i64 s]) 0).run Tryz.prog w = .ok (.int .i64 n) w := by simp [Instr.field, go_sem, asAgg]
theorem below_alloc (w : World) (o : Obj) : Below w.heap.size w (w.alloc o) := (Below.refl _ _).alloc (Nat.le_refl _) _
theorem bA {a w : World} (h : Below a.heap.size a w) (o : Obj) : Below a.heap.size a (w.alloc o) := h.alloc h.size o
theorem bD {a w : World} (h : Below a.heap.size a w) : Below a.heap.size a w.drew := Below.drew' h
theorem bT {a w w' : World} (h : Below a.heap.size a w) (k : Below w.heap.size w w') : Below a.heap.size a w' := h.trans (k.mono h.size)
theorem bS3 {a w : World} {g : Nat} (h : Below a.heap.size a w) (hg : a.heap.size ≤ g) (x y z : Value) : Below a.heap.size a (((w.setCell ⟨g, 0, none⟩ x).setCell ⟨g, 1, none⟩ y).setCell ⟨g, 2, none⟩ z) := below_set3 h hg x y z
section
variable {k Bp p : Nat} {b : Bl} {d : Det} {l : List Int} {w : World}
theorem Det.Ok.me (h : d.Ok k) : (ud (d.f k)).n = k := by
  obtain ⟨i, hi⟩ := h.inv.mine
  rw [hi]; rfl
theorem Det.Ok.mi (h : d.Ok k) : U64 (ud (d.f k)).i := by
  obtain ⟨i, hi⟩ := h.inv.mine
  have := (h.inv.may k _ hi).2.2
  rw [hi]; exact this
theorem Det.Ok.ms (h : d.Ok k) : (ud (d.f k)).s = 0 := by
  obtain ⟨i, hi⟩ := h.inv.mine
  rw [hi]; rfl
theorem me_any (h : Sx k Bp p b d l w) : Calls Tryz.prog 44 #[.pointer (some ⟨b.q, 0, none⟩)] w fun e w' => e = .returned (.int .i64 k) ∧ Below w.heap.size w w' := by
  have hc := h.dt.c0
  have hm := mine_any b.r k d.f h.dt.ok.k64 w h.dt.roll
  have hfd := run_node (ud (d.f k)).n (ud (d.f k)).i (ud (d.f k)).s
  rw [h.dt.ok.me] at hm hfd
  go_enter Tryz.func44, Tryz.ntmps44
  go_wp2_with fail
  refine hm.mono ?_
  rintro e w1 ⟨rfl, hb⟩
  go_wp2_with fail
  go_ret
  exact ⟨rfl, hb⟩
theorem live_any (h : Sx k Bp p b d l w) : Calls Tryz.prog 27 #[.pointer (some ⟨b.q, 0, none⟩)] w fun e w' => e = .returned (.int .u64 d.live) ∧ Below w.heap.size w w' := by
  have hc := h.dt.c0
  have hm := rlive_any b.r k d.f w h.dt.roll
  unfold Det.live
  go_enter Tryz.func27, Tryz.ntmps27
  go_wp2_with fail
  refine hm.mono ?_
  rintro e w1 ⟨rfl, hb⟩
  go_wp2_with fail
  go_ret
  exact ⟨rfl, hb⟩
theorem dall_any (h : Sx k Bp p b d l w) : Calls Tryz.prog 28 #[.pointer (some ⟨b.q, 0, none⟩)] w fun e w' => (∃ v, e = .returned v ∧ Ro.Own w.heap.size v (allS d.f) w') ∧ Below w.heap.size w w' := by
  have hc := h.dt.c0
  have hm := all_any b.r k d.f w h.dt.roll
  go_enter Tryz.func28, Tryz.ntmps28
  go_wp2_with fail
  refine hm.mono ?_
  rintro e w1 ⟨⟨v, rfl, ho⟩, hb⟩
  obtain ⟨a, cap, rfl⟩ : ∃ a cap, v = .slice a (allS d.f).length cap := by
    obtain ⟨a, cap, e, _⟩ := ho.ru
    exact ⟨a, cap, e⟩
  go_wp2_with fail
  go_ret
  exact ⟨⟨_, rfl, ho⟩, hb⟩
theorem now_any (h : Sx k Bp p b d l w) : Calls Tryz.prog 59 #[.pointer (some ⟨b.q, 0, none⟩)] w fun e w' => e = .returned (.int .u64 d.no) ∧ w' = w := by
  have hc := h.dt.c7
  go_enter Tryz.func59, Tryz.ntmps59
  go_wp2_with fail
  go_ret
  exact ⟨rfl, rfl⟩
theorem many_any (h : Sx k Bp p b d l w) : Calls Tryz.prog 129 #[.pointer (some ⟨b.q, 0, none⟩)] w fun e w' => e = .returned (.int .i64 d.many) ∧ Below w.heap.size w w' := by
  have hm := live_any h
  unfold Det.many
  have hlt : d.live < Bnd.lim := bandS_lt _
  generalize d.live = x at *
  go_enter Tryz.func129, Tryz.ntmps129
  go_wp2_with fail
  refine hm.mono ?_
  rintro e w1 ⟨rfl, hb⟩
  go_wp2_with fail
  refine (Bnd.many_any x hlt w1).mono ?_
  rintro e w2 ⟨rfl, rfl⟩
  go_wp2_with fail
  go_ret
  exact ⟨rfl, hb⟩
theorem many_range (d : Det) : 0 ≤ d.many ∧ d.many ≤ 64 := by
  have := Bnd.many_le d.live
  unfold Det.many
  omega
theorem isnode_any (n : Int) (w : World) : Calls Tryz.prog 100 #[.int .i64 n] w fun e w' => e = .returned (.bool (nodeB n)) ∧ w' = w := by
  unfold nodeB
  go_enter Tryz.func100, Tryz.ntmps100
  by_cases h : 0 ≤ n
  · go_wp2_with fail
    go_ret
    exact ⟨by simp [h], rfl⟩
  · go_wp2_with fail
    go_ret
    exact ⟨by simp; omega, rfl⟩
theorem leave_any (h : Sx k Bp p b d l w) : Calls Tryz.prog 19 #[.pointer (some ⟨b.q, 0, none⟩)] w fun e w' => e = .returned (.int .i64 (if d.le = true then 5 else 0)) ∧ Sx k Bp p b { d with le := true } l w' ∧ Stp p b w b w' := by
  have hc := h.dt.c8
  have hf := h.dt.free 8
  have hok := h.dt.ok
  obtain ⟨h1, h2⟩ := h.setN (d' := { d with le := true }) 8 (.bool true) rfl ⟨hok.k64, hok.inv, hok.qi, hok.ql, hok.di, hok.s1, hok.s2, hok.W, hok.E, hok.el, hok.la, hok.no⟩ rfl rfl rfl rfl rfl rfl
  cases hle : d.le
  case true =>
    have e : ({ d with le := true } : Det) = d := by rw [← hle]
    rw [hle] at hc
    go_enter Tryz.func19, Tryz.ntmps19
    go_wp2_with fail
    go_ret
    exact ⟨rfl, by assumption, Stp.refl _ _ _⟩
  case false =>
    rw [hle] at hc
    go_enter Tryz.func19, Tryz.ntmps19
    go_wp2_with fail
    go_ret
    exact ⟨rfl, h1, h2⟩
end
end Go.Proofs.YtpoofjnfaijjjaaGreatDoor
namespace Go.Proofs.YtpoofjnfaijjjaaGreatDoor
open Go.RowKit Go.Proofs.YtpoofjnfaijjjaaGreatDoor.Ro
section
variable {k Bp p : Nat} {b : Bl} {d : Det} {l : List Int} {w : World}

set_option maxRecDepth 100000 in
set_option maxHeartbeats 1000000 in
theorem suspect_any (h : Sx k Bp p b d l w) (u : Upd) (from_ : Int) (hu : U64 u.i) : Calls Tryz.prog 86 #[.pointer (some ⟨b.q, 0, none⟩), .agg #[.int .i64 u.n, .int .u64 u.i, .int .i64 u.s], .int .i64 from_] w fun e w' => e = .returned (.tuple #[]) ∧ ∃ b', Sx k Bp p b' (d.susp u from_) l w' ∧ Stp p b w b' w' ∧ b'.vw = b.vw := by
  have ba := below_alloc w (.cells #[.int .i64 u.n, .int .u64 u.i, .int .i64 u.s] 39)
  have hX := Bx.new 39 u.n u.i u.s w
  have h1 := h.below ba
  obtain ⟨w1, HW1⟩ : ∃ w1, Hid (w1 = w.alloc (.cells #[.int .i64 u.n, .int .u64 u.i, .int .i64 u.s] 39)) := ⟨_, rfl⟩
  rw [← HW1.out] at ba hX h1
  have x0 := hX.c0
  have x1 := hX.c1
  have x2 := hX.c2
  have c7 := h1.dt.c7
  have HB : Hid (two < 2 ^ 64) := by unfold Hid; decide
  have hno := h.dt.ok.no
  have hmr := many_range d
  unfold Det.susp
  have hr := fun w' hQ => Do.raise_any (X := b.xd d) b.q b.md d.D u.n u.i u.s from_ d.no d.many two hu hno HB (by omega) w' hQ
  generalize Do.raiseS d.D u.n u.i u.s from_ d.no d.many two = R at *
  have hm := fun w' (h' : Sx k Bp p b d l w') => many_any h'
  clear HB hmr
  generalize d.many = nd at *
  go_enter Tryz.func86, Tryz.ntmps86
  go_upto_region 1 with fail
  rw [← HW1.out]
  go_region_with (first
    | (go_at_call 129; refine (hm _ (by first | exact h1.drew | exact h1)).mono ?_; rintro e w2 ⟨rfl, hb2⟩; have h2 := h1.drew.below hb2; have hX2 := hX.drew.below hb2; have x0 := hX2.c0; have x1 := hX2.c1; have x2 := hX2.c2; have c7 := h2.dt.c7)
    | (go_at_call 128; refine (hr _ h2.dt.du).mono ?_; rintro e w3 ⟨rfl, m', hQ3, hM3⟩))
  all_goals
    go_wp2_with fail
    go_end0
    obtain ⟨a1, a2⟩ := h2.setD hQ3 hM3
    exact ⟨rfl, _, a1, ((Stp.of ba).drew.then hb2).trans a2, rfl⟩

set_option maxRecDepth 100000 in
set_option maxHeartbeats 1000000 in
theorem knows_any (h : Sx k Bp p b d l w) (u : Upd) : Calls Tryz.prog 85 #[.pointer (some ⟨b.q, 0, none⟩), .agg #[.int .i64 u.n, .int .u64 u.i, .int .i64 u.s]] w fun e w' => e = .returned (.bool (d.knows u)) ∧ Below w.heap.size w w' := by
  have ba := below_alloc w (.cells #[.int .i64 u.n, .int .u64 u.i, .int .i64 u.s] 39)
  have hX := Bx.new 39 u.n u.i u.s w
  have h1 := h.below ba
  obtain ⟨w1, HW1⟩ : ∃ w1, Hid (w1 = w.alloc (.cells #[.int .i64 u.n, .int .u64 u.i, .int .i64 u.s] 39)) := ⟨_, rfl⟩
  rw [← HW1.out] at ba hX h1
  have x0 := hX.c0
  have x1 := hX.c1
  have x2 := hX.c2
  have c0 := h1.dt.c0
  have hg := fun w' hR => get_any b.r k u.n d.f w' hR
  have hE := run_eqlU (ud (getS d.f u.n)) u
  obtain ⟨r, HR⟩ : ∃ r, Hid (d.knows u = r) := ⟨_, rfl⟩
  rw [HR.out]
  have hkn : r = ((getS d.f u.n).isSome && eqU (ud (getS d.f u.n)) u) := HR.out.symm
  generalize (getS d.f u.n).isSome = sm at *
  generalize eqU (ud (getS d.f u.n)) u = eq at *
  generalize ud (getS d.f u.n) = y at *
  subst hkn
  have hsz : Hid (w.heap.size < w1.heap.size) := hX.lt
  have hold : ∀ w', Below w1.heap.size w1 w' → Below w1.heap.size w1 w' ∧ w'.cell? ⟨b.q, 0, none⟩ = some (.pointer (some ⟨b.r, 0, none⟩)) ∧ w'.cell? ⟨w.heap.size, 0, none⟩ = some (.int .i64 u.n) := fun w' hb => ⟨hb, (h1.below hb).dt.c0, (hX.below hb).c0⟩
  have hB0 : Below w1.heap.size w1 w1 := Below.refl _ _
  have hB1 : Below w1.heap.size w1 w1.drew := bD hB0
  cases sm <;> cases eq
  all_goals
    go_enter Tryz.func85, Tryz.ntmps85
    go_upto_region 1 with fail
    rw [← HW1.out]
    go_region_held3 (fun w' => Below w1.heap.size w1 w' ∧ w'.cell? ⟨b.q, 0, none⟩ = some (.pointer (some ⟨b.r, 0, none⟩)) ∧ w'.cell? ⟨w.heap.size, 0, none⟩ = some (.int .i64 u.n)) ((refine hold _ ?_; (first | assumption | (refine bD (bA ?_ _); assumption) | (refine bA ?_ _; assumption) | (refine bS3 ?_ (Nat.le_refl _) _ _ _; assumption) | (refine bS3 (bA ?_ _) (Below.size (by assumption)) _ _ _; assumption)))) ((first
      | (go_at_call 102; refine (hg _ (by first | exact (h1.below hB1).dt.roll | exact (h1.below (bD (bA hB0 _))).dt.roll)).mono ?_; rintro e w2 ⟨rfl, hb2⟩; (first | have hB2 := bT hB1 hb2 | (have hB2 := bT (bD (bA hB0 _)) hb2; have hC := (Bx.new 39 0 0 0 w1).drew.below hb2; have z0 := hC.c0; have z1 := hC.c1; have z2 := hC.c2; have f0 := hC.free 0; have f1 := hC.free 1; have f2 := hC.free 2)))))
  all_goals
    rename_i hH
    obtain ⟨hB3, _, _⟩ := hH
    have hX3 := hX.below hB3
    have v0 := hX3.c0
    have v1 := hX3.c1
    have v2 := hX3.c2
    (first | have hY := hC.set y.n y.i y.s | have hY := Bx.new 39 y.n y.i y.s w2)
    have y0 := hY.c0
    have y1 := hY.c1
    have y2 := hY.c2
    go_wp2_with fail
    go_ret
    exact ⟨rfl, ba.trans (hB3.mono ba.size)⟩
end
end Go.Proofs.YtpoofjnfaijjjaaGreatDoor
namespace Go.Proofs.YtpoofjnfaijjjaaGreatDoor
open Go.RowKit Go.Proofs.YtpoofjnfaijjjaaGreatDoor.Ro

theorem bx_stp {T : TypeId} {g : Nat} {n i s : Int} {p : Nat} {b b' : Bl} {w w' : World} (hX : Bx T g n i s w) (hA : Away p b w g) (hS : Stp p b w b' w') : Bx T g n i s w' := hX.keep (hS.keep hA)
theorem Away.drew {p : Nat} {b : Bl} {w : World} {g : Nat} (h : Away p b w g) : Away p b w.drew g := ⟨h.lt, h.p, h.own⟩
theorem wf_of {x : Int} (h : Nd x) : (Lit.int .i64 x).wf = true := Do.wf_node h.1 h.2
theorem join_perm {s : List Int} {x : Int} (l : List Int) (h : x ∉ s) : (Rn.joinS s x l).1.Perm (x :: s) := by
  unfold Rn.joinS
  rw [if_neg h]
  refine List.perm_middle.trans ?_
  rw [List.take_append_drop]
theorem join_nodup {s : List Int} (hs : s.Nodup) (x : Int) (l : List Int) : (Rn.joinS s x l).1.Nodup := by
  by_cases h : x ∈ s
  · unfold Rn.joinS; rw [if_pos h]; exact hs
  · exact ((join_perm l h).nodup_iff).2 (List.nodup_cons.2 ⟨h, hs⟩)
theorem join_range {s : List Int} (hs : ∀ y ∈ s, Nd y) {x : Int} (hx : Nd x) (l : List Int) : ∀ y ∈ (Rn.joinS s x l).1, Nd y := by
  by_cases h : x ∈ s
  · unfold Rn.joinS; rw [if_pos h]; exact hs
  · intro y hy
    rcases List.mem_cons.1 ((join_perm l h).mem_iff.1 hy) with e | e
    · rw [e]; exact hx
    · exact hs y e
section
variable {k Bp p : Nat} {b : Bl} {d : Det} {l : List Int} {w : World}
/-- A rumor is put. -/
theorem rput_any (h : Sx k Bp p b d l w) (u : Upd) (hu : U64 u.i) : Calls Tryz.prog 32 #[.pointer (some ⟨b.q, 2, none⟩), .agg #[.int .i64 u.n, .int .u64 u.i, .int .i64 u.s]] w fun e w' => (∃ z, e = .returned (.int .i64 z)) ∧ ∃ b', Sx k Bp p b' (d.tell u) l w' ∧ Stp p b w b' w' ∧ b'.vw = b.vw :=
  (Ru.put_any (X := b.xq d) b.q b.mq d.Q h.dt.ok.ql u.n u.i u.s hu w h.dt.qu).mono fun _ _ ⟨he, _, hQ, hM⟩ => ⟨⟨_, he⟩, _, (h.setQ hQ hM (Ru.putQ_length h.dt.ok.ql _)).1, (h.setQ hQ hM (Ru.putQ_length h.dt.ok.ql _)).2, rfl⟩
theorem rdrop_any (h : Sx k Bp p b d l w) (n : Int) (hn : Nd n) : Calls Tryz.prog 81 #[.pointer (some ⟨b.q, 3, none⟩), .int .i64 n] w fun e w' => (∃ z, e = .returned (.bool z)) ∧ ∃ b', Sx k Bp p b' { d with D := Do.lessD d.D n } l w' ∧ Stp p b w b' w' ∧ b'.vw = b.vw :=
  (Do.drop_any (X := b.xd d) b.q b.md d.D n (wf_of hn) w h.dt.du).mono fun _ _ ⟨he, hQ, hM⟩ => ⟨⟨_, he⟩, _, (h.setD hQ hM).1, (h.setD hQ hM).2, rfl⟩
theorem djoin_any (h : Sx k Bp p b d l w) (n : Int) (hn : Nd n) : Calls Tryz.prog 127 #[.pointer (some ⟨b.q, 1, none⟩), .int .i64 n, .pointer (some ⟨p, 0, none⟩)] w fun e w' => e = .returned (.tuple #[]) ∧ ∃ b', Sx k Bp p b' { d with s := (Rn.joinS d.s n l).1 } (Rn.joinS d.s n l).2 w' ∧ Stp p b w b' w' ∧ b'.vw = b.vw :=
  (Rn.rjoin_any (X := b.xs d) (G := b.rows w) Bp b.q p d.s l n w (by have := h.dt.ok.sl; omega) h.dt.rn h.lots h.lok h.qout h.norow).mono fun _ _ ⟨he, hR, hL, hM⟩ => ⟨he, h.setS hR hL hM (Rn.joinS_ok _ _ h.lok) (join_nodup h.dt.ok.s1 _ _) (join_range h.dt.ok.s2 hn _)⟩

set_option maxRecDepth 100000 in
set_option maxHeartbeats 1000000 in
theorem learn_any (h : Sx k Bp p b d l w) (u : Upd) (from_ : Int) (was : Bool) (hn : Nd u.n) (hu : U64 u.i) :
    Calls Tryz.prog 84 #[.pointer (some ⟨b.q, 0, none⟩), .agg #[.int .i64 u.n, .int .u64 u.i, .int .i64 u.s], .int .i64 from_, .bool was, .pointer (some ⟨p, 0, none⟩)] w fun e w' => e = .returned (.tuple #[]) ∧ ∃ b', Sx k Bp p b' (d.learn u from_ was l).1 (d.learn u from_ was l).2 w' ∧ Stp p b w b' w' ∧ b'.vw = b.vw := by
  have ba := below_alloc w (.cells #[.int .i64 u.n, .int .u64 u.i, .int .i64 u.s] 39)
  have hX := Bx.new 39 u.n u.i u.s w
  have h1 := h.below ba
  have hA1 := h.away (w' := w.alloc (.cells #[.int .i64 u.n, .int .u64 u.i, .int .i64 u.s] 39)) (Nat.le_refl _) hX.lt
  obtain ⟨w1, HW1⟩ : ∃ w1, Hid (w1 = w.alloc (.cells #[.int .i64 u.n, .int .u64 u.i, .int .i64 u.s] 39)) := ⟨_, rfl⟩
  rw [← HW1.out] at ba hX h1 hA1
  have x0 := hX.c0
  have x1 := hX.c1
  have x2 := hX.c2
  obtain ⟨R, HR⟩ : ∃ R, Hid (d.learn u from_ was l = R) := ⟨_, rfl⟩
  rw [HR.out]
  cases hs1 : (u.s == 1)
  case true =>
    have e1 : u.s = 1 := by simpa using hs1
    obtain rfl : R = ((d.tell u).susp u from_, l) := by rw [← HR.out]; unfold Det.learn; rw [if_pos e1]
    clear e1
    go_enter Tryz.func84, Tryz.ntmps84
    go_upto_region 1 with fail
    rw [← HW1.out]
    go_region_with (go_at_call 32; refine (rput_any h1.drew u hu).mono ?_; rintro e w2 ⟨⟨z, rfl⟩, b2, h2, s2, u2⟩)
    have hX2 := bx_stp hX.drew hA1.drew s2
    clear x0 x1 x2
    have x0 := hX2.c0
    have x1 := hX2.c1
    have x2 := hX2.c2
    have hq : b2.q = b.q := s2.q
    have hsus := suspect_any h2 u from_ hu
    rw [hq] at hsus
    go_wp2_with fail
    refine hsus.mono ?_
    rintro e w3 ⟨rfl, b3, h3, s3, u3⟩
    go_wp2_with fail
    refine bodyPost_ret (results_none rfl _ _ _) rfl ?_
    exact ⟨rfl, b3, h3, ((Stp.of ba).drew.trans s2).trans s3, u3.trans u2⟩
  case false =>
    have e1 : ¬ u.s = 1 := by simpa using hs1
    have HR' : Hid (R = if u.s = 0 ∧ was = false then ({ d.tell u with D := Do.lessD d.D u.n, s := (Rn.joinS d.s u.n l).1 }, (Rn.joinS d.s u.n l).2) else ({ d.tell u with D := Do.lessD d.D u.n }, l)) := by
      show _ = _
      rw [← HR.out]; unfold Det.learn; rw [if_neg e1]
    clear e1
    cases hs0 : (u.s == 0) <;> cases was
    all_goals
      have hs0' : Hid ((u.s == 0) = _) := hs0
      go_enter Tryz.func84, Tryz.ntmps84
      go_upto_region 1 with fail
      rw [← HW1.out]
      go_region_with (go_at_call 32; refine (rput_any h1.drew u hu).mono ?_; rintro e w2 ⟨⟨z, rfl⟩, b2, h2, s2, u2⟩)
      have hX2 := bx_stp hX.drew hA1.drew s2
      have hA2 := hA1.drew.stp s2
      clear x0 x1 x2
      have x0 := hX2.c0
      have x1 := hX2.c1
      have x2 := hX2.c2
      have hq : b2.q = b.q := s2.q
      go_wp2_with fail
      go_region_with (go_at_call 81; rw [← hq]; refine (rdrop_any h2.drew u.n hn).mono ?_; rintro e w3 ⟨⟨z, rfl⟩, b3, h3, s3, u3⟩)
      have hX3 := bx_stp hX2.drew hA2.drew s3
      clear x0 x1 x2
      have x0 := hX3.c0
      have x1 := hX3.c1
      have x2 := hX3.c2
      have hq3 : b3.q = b.q := s3.q.trans hq
      have S3 : Stp p b w b3 w3 := ((Stp.of ba).drew.trans s2).drew.trans s3
      go_wp2_with fail
    · go_end0
      rw [HR'.out, if_neg (by have := hs0'.out; simp at this; simp [this])]
      exact ⟨rfl, b3, h3, S3, u3.trans u2⟩
    · go_end0
      rw [HR'.out, if_neg (by simp)]
      exact ⟨rfl, b3, h3, S3, u3.trans u2⟩
    · go_region_with (go_at_call 127; rw [← hq3]; refine (djoin_any h3.drew u.n hn).mono ?_; rintro e w4 ⟨rfl, b4, h4, s4, u4⟩)
      go_wp2_with fail
      go_end0
      rw [HR'.out, if_pos (by have := hs0'.out; simp at this; simp [this])]
      exact ⟨rfl, b4, h4, S3.drew.trans s4, u4.trans (u3.trans u2)⟩
    · go_end0
      rw [HR'.out, if_neg (by simp)]
      exact ⟨rfl, b3, h3, S3, u3.trans u2⟩
end
end Go.Proofs.YtpoofjnfaijjjaaGreatDoor
namespace Go.Proofs.YtpoofjnfaijjjaaGreatDoor
open Go.RowKit Go.Proofs.YtpoofjnfaijjjaaGreatDoor.Ro

theorem hear_took {k : Nat} {f : Tab} {u : Upd} (h : (hearS k f u).1.1 = true) : Nd u.n := by
  cases hm : mayU u
  · rw [hear_not k f hm] at h; cases h
  · have := (may_iff u).1 hm
    exact ⟨this.1, this.2.1⟩
section
variable {k Bp p : Nat} {b : Bl} {d : Det} {l : List Int} {w : World}
theorem rhear_any (h : Sx k Bp p b d l w) (u : Upd) (hu : U64 u.i) : Calls Tryz.prog 83 #[.pointer (some ⟨b.r, 0, none⟩), .agg #[.int .i64 u.n, .int .u64 u.i, .int .i64 u.s]] w fun e w' => e = .returned (.tuple #[.bool (hearS k d.f u).1.1, .int .i64 (hearS k d.f u).1.2]) ∧ Sx k Bp p b { d with f := (hearS k d.f u).2 } l w' ∧ Stp p b w b w' :=
  (hear_any b.r k d.f u h.dt.ok.k64 hu.1 hu.2 w h.dt.roll).mono fun _ _ ⟨he, hR, hB⟩ => ⟨he, h.setF hR hB (hear_inv h.dt.ok.inv hu)⟩
theorem rmine_any (h : Sx k Bp p b d l w) : Calls Tryz.prog 33 #[.pointer (some ⟨b.r, 0, none⟩)] w fun e w' => e = .returned (.agg #[.int .i64 (ud (d.f k)).n, .int .u64 (ud (d.f k)).i, .int .i64 (ud (d.f k)).s]) ∧ Below w.heap.size w w' := mine_any b.r k d.f h.dt.ok.k64 w h.dt.roll

/-- What a region that reads keeps: the detector, and the box of the update. -/
structure Jx (k Bp p : Nat) (b : Bl) (d : Det) (l : List Int) (g : Nat) (u : Upd) (w0 w : World) : Prop where
  st : Sx k Bp p b d l w
  box : Bx 39 g u.n u.i u.s w
  below : Below w0.heap.size w0 w
theorem Jx.later {g : Nat} {u : Upd} {w0 w' : World} (h : Jx k Bp p b d l g u w0 w) (hb : Below w.heap.size w w') : Jx k Bp p b d l g u w0 w' := ⟨h.st.below hb, h.box.below hb, bT h.below hb⟩
theorem Jx.drew {g : Nat} {u : Upd} {w0 : World} (h : Jx k Bp p b d l g u w0 w) : Jx k Bp p b d l g u w0 w.drew := ⟨h.st.drew, h.box.drew, bD h.below⟩
theorem Jx.on {g : Nat} {u : Upd} {w0 w' : World} {x : Kept (Jx k Bp p b d l g u w0)} (hb : Below x.at_.heap.size x.at_ w') : ∃ y : Kept (Jx k Bp p b d l g u w0), w' = y.at_ := ⟨⟨w', x.is.later hb⟩, rfl⟩
theorem Jx.st' {g : Nat} {u : Upd} {w0 : World} {x : Kept (Jx k Bp p b d l g u w0)} : Sx k Bp p b d l x.at_ := x.is.st

set_option maxRecDepth 100000 in
set_option maxHeartbeats 4000000 in
theorem takein_any (h : Sx k Bp p b d l w) (u : Upd) (from_ : Int) (hu : U64 u.i) :
    Calls Tryz.prog 43 #[.pointer (some ⟨b.q, 0, none⟩), .agg #[.int .i64 u.n, .int .u64 u.i, .int .i64 u.s], .int .i64 from_, .pointer (some ⟨p, 0, none⟩)] w fun e w' => e = .returned (.int .i64 (d.take k u from_ l).1) ∧ ∃ b', Sx k Bp p b' (d.take k u from_ l).2.1 (d.take k u from_ l).2.2 w' ∧ Stp p b w b' w' ∧ b'.vw = b.vw := by
  have ba := below_alloc w (.cells #[.int .i64 u.n, .int .u64 u.i, .int .i64 u.s] 39)
  have hX := Bx.new 39 u.n u.i u.s w
  have h1 := h.below ba
  have hA1 := h.away (w' := w.alloc (.cells #[.int .i64 u.n, .int .u64 u.i, .int .i64 u.s] 39)) (Nat.le_refl _) hX.lt
  obtain ⟨w1, HW1⟩ : ∃ w1, Hid (w1 = w.alloc (.cells #[.int .i64 u.n, .int .u64 u.i, .int .i64 u.s] 39)) := ⟨_, rfl⟩
  rw [← HW1.out] at ba hX h1 hA1
  have x0 := hX.c0
  have x1 := hX.c1
  have x2 := hX.c2
  have hlim : d.live < Bnd.lim := bandS_lt _
  have htk := hear_took (k := k) (f := d.f) (u := u)
  have hhr := fun w' (h' : Sx k Bp p b d l w') => rhear_any h' u hu
  have hJ : Jx k Bp p b d l w.heap.size u w1 w1 := ⟨h1, hX, Below.refl _ _⟩
  have hne : Nonempty (Kept (Jx k Bp p b d l w.heap.size u w1)) := ⟨⟨_, hJ⟩⟩
  have k0 : ∀ x : Kept (Jx k Bp p b d l w.heap.size u w1), x.at_.cell? ⟨w.heap.size, 0, none⟩ = some (.int .i64 u.n) := fun x => x.is.box.c0
  obtain ⟨R, HR⟩ : ∃ R, Hid (d.take k u from_ l = R) := ⟨_, rfl⟩
  rw [HR.out]
  have HR' : Hid (R = _) := HR.out.symm
  unfold Det.take at HR'
  clear HR
  have hlv := fun w' (h' : Sx k Bp p b d l w') => live_any h'
  have hhas := fun w' => Bnd.has_any d.live hlim u.n w'
  clear hlim
  generalize Bnd.hasS d.live u.n = was at *
  generalize d.live = lv at *
  generalize hearS k d.f u = r at *
  obtain ⟨⟨tk, z⟩, f'⟩ := r
  dsimp only at htk hhr HR'
  cases hz1 : (z == 1)
  case true =>
    obtain rfl : z = 1 := by simpa using hz1
    rw [if_pos (Or.inl rfl)] at HR'
    clear htk hz1
    go_enter Tryz.func43, Tryz.ntmps43
    go_upto_region 1 with fail
    rw [← HW1.out]
    refine wp_region_kept (Jx k Bp p b d l w.heap.size u w1) (by kernel_rfl) (by kernel_rfl) hJ.drew ?_
    repeat (go_big_quiet_step (first
      | (refine (hlv _ Jx.st').mono ?_; rintro e w4 ⟨rfl, hb4⟩; exact ⟨rfl, Jx.on hb4⟩)
      | (refine (hhas _).mono ?_; rintro e w4 ⟨rfl, hw4⟩; exact ⟨rfl, _, hw4⟩)))
    refine wpQuiet_nil ?_
    intro w2 hJ2
    have h2 := hJ2.st
    have hX2 := hJ2.box
    have hb2 := hJ2.below
    have x0 := hX2.c0
    have x1 := hX2.c1
    have x2 := hX2.c2
    have hA2 := hA1.stp (Stp.of hb2)
    have c0 := h2.dt.c0
    go_wp2_with fail
    have hS2 := And.intro c0 (And.intro x0 (And.intro x1 x2))
    go_region_held3 (fun w' => w'.cell? ⟨b.q, 0, none⟩ = some (.pointer (some ⟨b.r, 0, none⟩)) ∧ w'.cell? ⟨w.heap.size, 0, none⟩ = some (.int .i64 u.n) ∧ w'.cell? ⟨w.heap.size, 1, none⟩ = some (.int .u64 u.i) ∧ w'.cell? ⟨w.heap.size, 2, none⟩ = some (.int .i64 u.s)) (first | exact hS2 | exact hS3) ((first
      | (go_at_call 83; refine (hhr _ h2.drew).mono ?_; rintro e w3 ⟨rfl, h3, s3⟩; have hX3 := bx_stp hX2.drew hA2.drew s3; have hS3 := And.intro h3.dt.c0 (And.intro hX3.c0 (And.intro hX3.c1 hX3.c2)))))
    clear x0 x1 x2 c0
    have x0 := hX3.c0
    have x1 := hX3.c1
    have x2 := hX3.c2
    have c0 := h3.dt.c0
    have S3 : Stp p b w b w3 := ((Stp.of ba).then hb2).drew.trans s3
    clear h1 h2 hX hX2 hA1 hA2 hb2 s3 ba hJ hJ2 hne k0 hS2 hS3
    go_wp2_with fail
    go_ret
    rw [HR'.out]
    exact ⟨rfl, b, h3, S3, rfl⟩
  case false =>
  cases hz60 : (z == 60)
  case true =>
    obtain rfl : z = 60 := by simpa using hz60
    rw [if_pos (Or.inr rfl)] at HR'
    clear htk hz60 hz1
    go_enter Tryz.func43, Tryz.ntmps43
    go_upto_region 1 with fail
    rw [← HW1.out]
    refine wp_region_kept (Jx k Bp p b d l w.heap.size u w1) (by kernel_rfl) (by kernel_rfl) hJ.drew ?_
    repeat (go_big_quiet_step (first
      | (refine (hlv _ Jx.st').mono ?_; rintro e w4 ⟨rfl, hb4⟩; exact ⟨rfl, Jx.on hb4⟩)
      | (refine (hhas _).mono ?_; rintro e w4 ⟨rfl, hw4⟩; exact ⟨rfl, _, hw4⟩)))
    refine wpQuiet_nil ?_
    intro w2 hJ2
    have h2 := hJ2.st
    have hX2 := hJ2.box
    have hb2 := hJ2.below
    have x0 := hX2.c0
    have x1 := hX2.c1
    have x2 := hX2.c2
    have hA2 := hA1.stp (Stp.of hb2)
    have c0 := h2.dt.c0
    go_wp2_with fail
    have hS2 := And.intro c0 (And.intro x0 (And.intro x1 x2))
    go_region_held3 (fun w' => w'.cell? ⟨b.q, 0, none⟩ = some (.pointer (some ⟨b.r, 0, none⟩)) ∧ w'.cell? ⟨w.heap.size, 0, none⟩ = some (.int .i64 u.n) ∧ w'.cell? ⟨w.heap.size, 1, none⟩ = some (.int .u64 u.i) ∧ w'.cell? ⟨w.heap.size, 2, none⟩ = some (.int .i64 u.s)) (first | exact hS2 | exact hS3) ((first
      | (go_at_call 83; refine (hhr _ h2.drew).mono ?_; rintro e w3 ⟨rfl, h3, s3⟩; have hX3 := bx_stp hX2.drew hA2.drew s3; have hS3 := And.intro h3.dt.c0 (And.intro hX3.c0 (And.intro hX3.c1 hX3.c2)))))
    clear x0 x1 x2 c0
    have x0 := hX3.c0
    have x1 := hX3.c1
    have x2 := hX3.c2
    have c0 := h3.dt.c0
    have S3 : Stp p b w b w3 := ((Stp.of ba).then hb2).drew.trans s3
    clear h1 h2 hX hX2 hA1 hA2 hb2 s3 ba hJ hJ2 hne k0 hS2 hS3
    go_wp2_with fail
    go_ret
    rw [HR'.out]
    exact ⟨rfl, b, h3, S3, rfl⟩
  case false =>
  rw [if_neg (by simp at hz1 hz60; omega)] at HR'
  cases tk
  case true =>
    rw [if_pos rfl] at HR'
    have hn := htk rfl
    clear htk
    go_enter Tryz.func43, Tryz.ntmps43
    go_upto_region 1 with fail
    rw [← HW1.out]
    refine wp_region_kept (Jx k Bp p b d l w.heap.size u w1) (by kernel_rfl) (by kernel_rfl) hJ.drew ?_
    repeat (go_big_quiet_step (first
      | (refine (hlv _ Jx.st').mono ?_; rintro e w4 ⟨rfl, hb4⟩; exact ⟨rfl, Jx.on hb4⟩)
      | (refine (hhas _).mono ?_; rintro e w4 ⟨rfl, hw4⟩; exact ⟨rfl, _, hw4⟩)))
    refine wpQuiet_nil ?_
    intro w2 hJ2
    have h2 := hJ2.st
    have hX2 := hJ2.box
    have hb2 := hJ2.below
    have x0 := hX2.c0
    have x1 := hX2.c1
    have x2 := hX2.c2
    have hA2 := hA1.stp (Stp.of hb2)
    have c0 := h2.dt.c0
    go_wp2_with fail
    have hS2 := And.intro c0 (And.intro x0 (And.intro x1 x2))
    go_region_held3 (fun w' => w'.cell? ⟨b.q, 0, none⟩ = some (.pointer (some ⟨b.r, 0, none⟩)) ∧ w'.cell? ⟨w.heap.size, 0, none⟩ = some (.int .i64 u.n) ∧ w'.cell? ⟨w.heap.size, 1, none⟩ = some (.int .u64 u.i) ∧ w'.cell? ⟨w.heap.size, 2, none⟩ = some (.int .i64 u.s)) (first | exact hS2 | exact hS3) ((first
      | (go_at_call 83; refine (hhr _ h2.drew).mono ?_; rintro e w3 ⟨rfl, h3, s3⟩; have hX3 := bx_stp hX2.drew hA2.drew s3; have hS3 := And.intro h3.dt.c0 (And.intro hX3.c0 (And.intro hX3.c1 hX3.c2)))))
    clear x0 x1 x2 c0
    have x0 := hX3.c0
    have x1 := hX3.c1
    have x2 := hX3.c2
    have c0 := h3.dt.c0
    have S3 : Stp p b w b w3 := ((Stp.of ba).then hb2).drew.trans s3
    clear h1 h2 hX hX2 hA1 hA2 hb2 s3 ba hJ hJ2 hne k0 hS2 hS3
    go_wp2_with fail
    refine (learn_any h3 u from_ was hn hu).mono ?_
    rintro e w4 ⟨rfl, b4, h4, s4, u4⟩
    go_wp2_with fail
    go_ret
    rw [HR'.out]
    exact ⟨rfl, b4, h4, S3.trans s4, u4⟩
  case false =>
  clear htk
  rw [if_neg (by simp)] at HR'
  cases hz0 : (z == 0)
  case true =>
    obtain rfl : z = 0 := by simpa using hz0
    rw [if_pos rfl] at HR'
    clear hz0 hz1 hz60
    go_enter Tryz.func43, Tryz.ntmps43
    go_upto_region 1 with fail
    rw [← HW1.out]
    refine wp_region_kept (Jx k Bp p b d l w.heap.size u w1) (by kernel_rfl) (by kernel_rfl) hJ.drew ?_
    repeat (go_big_quiet_step (first
      | (refine (hlv _ Jx.st').mono ?_; rintro e w4 ⟨rfl, hb4⟩; exact ⟨rfl, Jx.on hb4⟩)
      | (refine (hhas _).mono ?_; rintro e w4 ⟨rfl, hw4⟩; exact ⟨rfl, _, hw4⟩)))
    refine wpQuiet_nil ?_
    intro w2 hJ2
    have h2 := hJ2.st
    have hX2 := hJ2.box
    have hb2 := hJ2.below
    have x0 := hX2.c0
    have x1 := hX2.c1
    have x2 := hX2.c2
    have hA2 := hA1.stp (Stp.of hb2)
    have c0 := h2.dt.c0
    go_wp2_with fail
    have hS2 := And.intro c0 (And.intro x0 (And.intro x1 x2))
    go_region_held3 (fun w' => w'.cell? ⟨b.q, 0, none⟩ = some (.pointer (some ⟨b.r, 0, none⟩)) ∧ w'.cell? ⟨w.heap.size, 0, none⟩ = some (.int .i64 u.n) ∧ w'.cell? ⟨w.heap.size, 1, none⟩ = some (.int .u64 u.i) ∧ w'.cell? ⟨w.heap.size, 2, none⟩ = some (.int .i64 u.s)) (first | exact hS2 | exact hS3) ((first
      | (go_at_call 83; refine (hhr _ h2.drew).mono ?_; rintro e w3 ⟨rfl, h3, s3⟩; have hX3 := bx_stp hX2.drew hA2.drew s3; have hS3 := And.intro h3.dt.c0 (And.intro hX3.c0 (And.intro hX3.c1 hX3.c2)))))
    clear x0 x1 x2 c0
    have x0 := hX3.c0
    have x1 := hX3.c1
    have x2 := hX3.c2
    have c0 := h3.dt.c0
    have S3 : Stp p b w b w3 := ((Stp.of ba).then hb2).drew.trans s3
    clear h1 h2 hX hX2 hA1 hA2 hb2 s3 ba hJ hJ2 hne k0 hS2 hS3
    go_wp2_with fail
    go_region_with (first
      | (go_at_call 33; refine (rmine_any h3.drew).mono ?_; rintro e w4 ⟨rfl, hb4⟩; have h4 := h3.drew.below hb4)
      | (go_at_call 32; refine (rput_any h4 (ud (f' k)) h4.dt.ok.mi).mono ?_; rintro e w5 ⟨⟨zz, rfl⟩, b5, h5, s5, u5⟩))
    all_goals
      go_wp2_with fail
      go_ret
      rw [HR'.out]
      exact ⟨rfl, b5, h5, (S3.drew.then hb4).trans s5, u5⟩
  case false =>
  rw [if_neg (by simpa using hz0)] at HR'
  cases hs1 : (u.s == 1)
  case false =>
    rw [if_neg (by simp at hs1; simp [hs1])] at HR'
    go_enter Tryz.func43, Tryz.ntmps43
    go_upto_region 1 with fail
    rw [← HW1.out]
    refine wp_region_kept (Jx k Bp p b d l w.heap.size u w1) (by kernel_rfl) (by kernel_rfl) hJ.drew ?_
    repeat (go_big_quiet_step (first
      | (refine (hlv _ Jx.st').mono ?_; rintro e w4 ⟨rfl, hb4⟩; exact ⟨rfl, Jx.on hb4⟩)
      | (refine (hhas _).mono ?_; rintro e w4 ⟨rfl, hw4⟩; exact ⟨rfl, _, hw4⟩)))
    refine wpQuiet_nil ?_
    intro w2 hJ2
    have h2 := hJ2.st
    have hX2 := hJ2.box
    have hb2 := hJ2.below
    have x0 := hX2.c0
    have x1 := hX2.c1
    have x2 := hX2.c2
    have hA2 := hA1.stp (Stp.of hb2)
    have c0 := h2.dt.c0
    go_wp2_with fail
    have hS2 := And.intro c0 (And.intro x0 (And.intro x1 x2))
    go_region_held3 (fun w' => w'.cell? ⟨b.q, 0, none⟩ = some (.pointer (some ⟨b.r, 0, none⟩)) ∧ w'.cell? ⟨w.heap.size, 0, none⟩ = some (.int .i64 u.n) ∧ w'.cell? ⟨w.heap.size, 1, none⟩ = some (.int .u64 u.i) ∧ w'.cell? ⟨w.heap.size, 2, none⟩ = some (.int .i64 u.s)) (first | exact hS2 | exact hS3) ((first
      | (go_at_call 83; refine (hhr _ h2.drew).mono ?_; rintro e w3 ⟨rfl, h3, s3⟩; have hX3 := bx_stp hX2.drew hA2.drew s3; have hS3 := And.intro h3.dt.c0 (And.intro hX3.c0 (And.intro hX3.c1 hX3.c2)))))
    clear x0 x1 x2 c0
    have x0 := hX3.c0
    have x1 := hX3.c1
    have x2 := hX3.c2
    have c0 := h3.dt.c0
    have S3 : Stp p b w b w3 := ((Stp.of ba).then hb2).drew.trans s3
    clear h1 h2 hX hX2 hA1 hA2 hb2 s3 ba hJ hJ2 hne k0 hS2 hS3
    go_wp2_with fail
    go_ret
    rw [HR'.out]
    exact ⟨rfl, b, h3, S3, rfl⟩
  case true =>
  obtain ⟨kn, HK⟩ : ∃ kn, Hid (({ d with f := f' } : Det).knows u = kn) := ⟨_, rfl⟩
  have hs1' : Hid (u.s = 1) := by have := hs1; simp at this; exact this
  rw [HK.out] at HR'
  cases kn
  case false =>
    rw [if_neg (by simp)] at HR'
    go_enter Tryz.func43, Tryz.ntmps43
    go_upto_region 1 with fail
    rw [← HW1.out]
    refine wp_region_kept (Jx k Bp p b d l w.heap.size u w1) (by kernel_rfl) (by kernel_rfl) hJ.drew ?_
    repeat (go_big_quiet_step (first
      | (refine (hlv _ Jx.st').mono ?_; rintro e w4 ⟨rfl, hb4⟩; exact ⟨rfl, Jx.on hb4⟩)
      | (refine (hhas _).mono ?_; rintro e w4 ⟨rfl, hw4⟩; exact ⟨rfl, _, hw4⟩)))
    refine wpQuiet_nil ?_
    intro w2 hJ2
    have h2 := hJ2.st
    have hX2 := hJ2.box
    have hb2 := hJ2.below
    have x0 := hX2.c0
    have x1 := hX2.c1
    have x2 := hX2.c2
    have hA2 := hA1.stp (Stp.of hb2)
    have c0 := h2.dt.c0
    go_wp2_with fail
    have hS2 := And.intro c0 (And.intro x0 (And.intro x1 x2))
    go_region_held3 (fun w' => w'.cell? ⟨b.q, 0, none⟩ = some (.pointer (some ⟨b.r, 0, none⟩)) ∧ w'.cell? ⟨w.heap.size, 0, none⟩ = some (.int .i64 u.n) ∧ w'.cell? ⟨w.heap.size, 1, none⟩ = some (.int .u64 u.i) ∧ w'.cell? ⟨w.heap.size, 2, none⟩ = some (.int .i64 u.s)) (first | exact hS2 | exact hS3) ((first
      | (go_at_call 83; refine (hhr _ h2.drew).mono ?_; rintro e w3 ⟨rfl, h3, s3⟩; have hX3 := bx_stp hX2.drew hA2.drew s3; have hS3 := And.intro h3.dt.c0 (And.intro hX3.c0 (And.intro hX3.c1 hX3.c2)))))
    clear x0 x1 x2 c0
    have x0 := hX3.c0
    have x1 := hX3.c1
    have x2 := hX3.c2
    have c0 := h3.dt.c0
    have S3 : Stp p b w b w3 := ((Stp.of ba).then hb2).drew.trans s3
    clear h1 h2 hX hX2 hA1 hA2 hb2 s3 ba hJ hJ2 hne k0 hS2 hS3
    go_wp2_with fail
    refine (knows_any h3 u).mono ?_
    rw [HK.out]
    rintro e w4 ⟨rfl, hb4⟩
    go_wp2_with fail
    go_ret
    rw [HR'.out]
    exact ⟨rfl, b, h3.below hb4, S3.then hb4, rfl⟩
  case true =>
    rw [if_pos ⟨hs1'.out, rfl⟩] at HR'
    go_enter Tryz.func43, Tryz.ntmps43
    go_upto_region 1 with fail
    rw [← HW1.out]
    refine wp_region_kept (Jx k Bp p b d l w.heap.size u w1) (by kernel_rfl) (by kernel_rfl) hJ.drew ?_
    repeat (go_big_quiet_step (first
      | (refine (hlv _ Jx.st').mono ?_; rintro e w4 ⟨rfl, hb4⟩; exact ⟨rfl, Jx.on hb4⟩)
      | (refine (hhas _).mono ?_; rintro e w4 ⟨rfl, hw4⟩; exact ⟨rfl, _, hw4⟩)))
    refine wpQuiet_nil ?_
    intro w2 hJ2
    have h2 := hJ2.st
    have hX2 := hJ2.box
    have hb2 := hJ2.below
    have x0 := hX2.c0
    have x1 := hX2.c1
    have x2 := hX2.c2
    have hA2 := hA1.stp (Stp.of hb2)
    have c0 := h2.dt.c0
    go_wp2_with fail
    have hS2 := And.intro c0 (And.intro x0 (And.intro x1 x2))
    go_region_held3 (fun w' => w'.cell? ⟨b.q, 0, none⟩ = some (.pointer (some ⟨b.r, 0, none⟩)) ∧ w'.cell? ⟨w.heap.size, 0, none⟩ = some (.int .i64 u.n) ∧ w'.cell? ⟨w.heap.size, 1, none⟩ = some (.int .u64 u.i) ∧ w'.cell? ⟨w.heap.size, 2, none⟩ = some (.int .i64 u.s)) (first | exact hS2 | exact hS3) ((first
      | (go_at_call 83; refine (hhr _ h2.drew).mono ?_; rintro e w3 ⟨rfl, h3, s3⟩; have hX3 := bx_stp hX2.drew hA2.drew s3; have hS3 := And.intro h3.dt.c0 (And.intro hX3.c0 (And.intro hX3.c1 hX3.c2)))))
    clear x0 x1 x2 c0
    have x0 := hX3.c0
    have x1 := hX3.c1
    have x2 := hX3.c2
    have c0 := h3.dt.c0
    have S3 : Stp p b w b w3 := ((Stp.of ba).then hb2).drew.trans s3
    clear h1 h2 hX hX2 hA1 hA2 hb2 s3 ba hJ hJ2 hne k0 hS2 hS3
    go_wp2_with fail
    refine (knows_any h3 u).mono ?_
    rw [HK.out]
    rintro e w4 ⟨rfl, hb4⟩
    have h4 := h3.below hb4
    have hX4 := hX3.below hb4
    clear x0 x1 x2
    have x0 := hX4.c0
    have x1 := hX4.c1
    have x2 := hX4.c2
    go_wp2_with fail
    refine (suspect_any h4 u from_ hu).mono ?_
    rintro e w5 ⟨rfl, b5, h5, s5, u5⟩
    go_wp2_with fail
    go_ret
    rw [HR'.out]
    exact ⟨rfl, b5, h5, (S3.then hb4).trans s5, u5⟩
end
end Go.Proofs.YtpoofjnfaijjjaaGreatDoor
