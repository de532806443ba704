/-
  The reference's detector: what is asked of its parts. The reference's take.
-/
import Derived.Test.YtpoofjnfaijjjaaGreatDoorMOpa
namespace Go.Proofs.YtpoofjnfaijjjaaGreatDoor.Fx
open Go.RowKit Go.Proofs.YtpoofjnfaijjjaaGreatDoor Go.Proofs.YtpoofjnfaijjjaaGreatDoor.Ro
section
variable {c : Rc} {b : Rw} {d : Det} {m : List Int} {w : World}
theorem rf_get {K : List Upd} {f : Tab} {k : Nat} (ht : tabK K = f) (hg : Ro.Good k K) (n : Int) : getK K n = getS f n := by
  rw [← ht]; exact getK_get hg.inv hg.nod hg.pos n
theorem getS_me {k : Nat} (hk : k < 64) (f : Tab) : getS f k = f k := by
  unfold getS
  rw [if_pos ⟨by omega, by omega⟩, Int.toNat_natCast]
theorem fget_any (h : Ry c b d m w) (n : Int) : Calls Tryz.prog 55 #[.pointer (some ⟨c.r, 0, none⟩), .int .i64 n] w fun e w' => e = .returned (.tuple #[.agg #[.int .i64 (ud (getS d.f n)).n, .int .u64 (ud (getS d.f n)).i, .int .i64 (ud (getS d.f n)).s], .bool (getS d.f n).isSome]) ∧ Below w.heap.size w w' := by
  obtain ⟨K, ht, hg, hR⟩ := h.roll
  have := rget_any 0 c.r c.k b.v K n w (by have := hg.len; omega) hR
  rwa [rf_get ht hg] at this
theorem fmine_any (h : Ry c b d m w) : Calls Tryz.prog 36 #[.pointer (some ⟨c.r, 0, none⟩)] w fun e w' => e = .returned (.agg #[.int .i64 (ud (d.f c.k)).n, .int .u64 (ud (d.f c.k)).i, .int .i64 (ud (d.f c.k)).s]) ∧ Below w.heap.size w w' := by
  obtain ⟨K, ht, hg, hR⟩ := h.roll
  have := Ro.rmine_any 0 c.r c.k b.v K w (by have := hg.len; omega) hR
  rwa [rf_get ht hg, getS_me h.ok.k64] at this
theorem flive_any (h : Ry c b d m w) : Calls Tryz.prog 60 #[.pointer (some ⟨c.r, 0, none⟩)] w fun e w' => e = .returned (.int .u64 d.live) ∧ Below w.heap.size w w' := by
  obtain ⟨K, ht, hg, hR⟩ := h.roll
  have := rflive_any 0 c.r c.k b.v K w (by have := hg.len; omega) hR
  rw [bandK hg.inv hg.nod hg.pos, ht] at this
  exact this
theorem fall_any (h : Ry c b d m w) : Calls Tryz.prog 62 #[.pointer (some ⟨c.r, 0, none⟩)] w fun e w' => (∃ v', e = .returned v' ∧ Ro.Own w.heap.size v' (allS d.f) w') ∧ Below w.heap.size w w' := by
  obtain ⟨K, ht, hg, hR⟩ := h.roll
  have := rall_any 0 c.r c.k b.v K w (by have := hg.len; omega) hR
  rwa [ht] at this
structure Rk2 (c : Rc) (b : Rw) (d : Det) (m : List Int) (w0 w : World) : Prop where
  st : Ry c b d m w
  below : Below w0.heap.size w0 w
theorem Rk2.later {w0 w' : World} (h : Rk2 c b d m w0 w) (hb : Below w.heap.size w w') : Rk2 c b d m w0 w' := ⟨h.st.below hb, bT h.below hb⟩
theorem Rk2.drew {w0 : World} (h : Rk2 c b d m w0 w) : Rk2 c b d m w0 w.drew := ⟨h.st.drew, bD h.below⟩
theorem Rk2.me {w0 : World} (h : Rk2 c b d m w0 w) : w.cell? ⟨c.r, 0, none⟩ = some (.int .i64 c.k) := by
  obtain ⟨K, _, _, hR⟩ := h.st.roll
  exact hR.c0
set_option maxRecDepth 100000 in
set_option maxHeartbeats 1000000 in
theorem fothers_any (h : Ry c b d m w) : Calls Tryz.prog 50 #[.pointer (some ⟨c.r, 0, none⟩)] w fun e w' => (∃ v, e = .returned v ∧ Rn.Rd .i64 v (othS c.k d.f) w' ∧ ∀ g, v.ownBlock = some g → w.heap.size ≤ g) ∧ Below w.heap.size w w' := by
  have hS : Rk2 c b d m w w := ⟨h, Below.refl _ _⟩
  have hL := fun w' (h' : Ry c b d m w') => flive_any h'
  have e : othS c.k d.f = Rn.lst (Rn.lessS d.live c.k) := rfl
  rw [e]
  have hlt : d.live < Rn.lim := bandS_lt _
  clear e
  generalize d.live = x at *
  have hless := fun W => Rn.rless_any x hlt (c.k : Int) W
  have hlt2 : Rn.lessS x c.k < Rn.lim := by
    have := Bnd.lessS_lt (b := x) hlt (c.k : Int)
    exact this
  have hlist := fun W => Rn.rlist_any (Rn.lessS x c.k) hlt2 W
  generalize Rn.lessS x c.k = y at *
  go_enter Tryz.func50, Tryz.ntmps50
  go_wp2_with fail
  go_region_held3 (fun w' => w'.cell? ⟨c.r, 0, none⟩ = some (.int .i64 c.k)) (first | exact Rk2.me hS | exact Rk2.me (Rk2.drew hS)) ((first
    | (go_at_call 60; refine (hL _ (by first | exact Rk2.st hS | exact Rk2.st (Rk2.drew hS))).mono ?_; rintro e w4 ⟨rfl, hb4⟩; first | have hS := Rk2.later hS hb4 | have hS := Rk2.later (Rk2.drew hS) hb4)
    | (go_at_call 29; refine (hless _).mono ?_; rintro e w5 ⟨rfl, rfl⟩)
    | (go_at_call 63; refine (hlist _).mono ?_; rintro e w6 ⟨v6, rfl, hv6, hb6⟩; have hg6 := fun g hg => Nat.le_trans (Rk2.below hS).size (World.ownsRow.lt hv6 g hg).1; have hv6 := rd_row hv6; first | have hS := Rk2.later hS hb6 | have hS := Rk2.later (Rk2.drew hS) hb6)))
  all_goals go_wp2_with fail
  all_goals go_ret
  all_goals exact ⟨⟨v6, rfl, hv6, hg6⟩, hS.below⟩
theorem fmany_any (h : Ry c b d m w) : Calls Tryz.prog 95 #[.pointer (some ⟨c.q, 0, none⟩)] w fun e w' => e = .returned (.int .i64 d.many) ∧ Below w.heap.size w w' := by
  have hl := flive_any h
  have c1 := h.c1
  have e : d.many = ((Rn.manyS d.live : Nat) : Int) := rfl
  rw [e]
  have hlt : d.live < Rn.lim := bandS_lt _
  clear e
  generalize d.live = x at *
  have hm := fun W => Rn.rmany_any x hlt W
  generalize Rn.manyS x = y at *
  go_enter Tryz.func95, Tryz.ntmps95
  go_wp2_with fail
  refine hl.mono ?_
  rintro e w1 ⟨rfl, hb⟩
  go_wp2_with fail
  refine (hm _).mono ?_
  rintro e w2 ⟨rfl, hb2⟩
  go_wp2_with fail
  go_ret
  exact ⟨rfl, bT hb hb2⟩
theorem fhear_any (h : Ry c b d m w) (u : Upd) (hu : U64 u.i) : Calls Tryz.prog 93 #[.pointer (some ⟨c.r, 0, none⟩), .agg #[.int .i64 u.n, .int .u64 u.i, .int .i64 u.s]] w fun e w' => e = .returned (.tuple #[.bool (hearS c.k d.f u).1.1, .int .i64 (hearS c.k d.f u).1.2]) ∧ ∃ b', Ry c b' { d with f := (hearS c.k d.f u).2 } m w' ∧ Sr c b w b' w' ∧ b'.vw = b.vw := by
  obtain ⟨K, ht, hg, hR⟩ := h.roll
  have := Ro.rhear_any 0 c.r c.k b.v K u w hg hu (Nat.zero_le _) hR
  rw [ht] at this
  refine this.mono ?_
  rintro e w' ⟨he, v', K', ht', hg', hR', hM⟩
  exact ⟨he, h.setR ⟨K', ht', hg', hR'⟩ hM (hear_inv h.ok.inv hu)⟩
theorem Ry.rq (h : Ry c b d m w) : Ru.Rq (rows b.vq w) c.qq d.Q w := by
  obtain ⟨a, cap, h1, h2, h3, h4⟩ := h.que.2.is
  refine ⟨h.nrow (v := b.vq) (i := 2) (j := 6) rfl rfl (by decide), a, cap, h1, h2, fun g hg => ⟨.inl (h3 g hg).1, (h3 g hg).2⟩, h4⟩
theorem fput_any (h : Ry c b d m w) (u : Upd) (hu : U64 u.i) : Calls Tryz.prog 35 #[.pointer (some ⟨c.qq, 0, none⟩), .agg #[.int .i64 u.n, .int .u64 u.i, .int .i64 u.s]] w fun e w' => (∃ z, e = .returned (.int .i64 z)) ∧ ∃ b', Ry c b' (d.tell u) m w' ∧ Sr c b w b' w' ∧ b'.vw = b.vw := by
  refine (Ru.fput_any (rows b.vq w) c.qq d.Q h.ok.ql u.n u.i u.s w (Ry.rq h) (fun g hg => .inr hg)).mono ?_
  rintro e w' ⟨he, hQ, hB⟩
  exact ⟨⟨_, he⟩, h.setQ hQ hB (h.ok.qi.put hu) (Ru.putQ_length h.ok.ql _)⟩
theorem ftake_any (h : Ry c b d m w) (n : Nat) : Calls Tryz.prog 99 #[.pointer (some ⟨c.qq, 0, none⟩), .int .i64 (n : Int), .int .i64 d.many] w fun e w' => (∃ v, e = .returned v ∧ Ro.Own w.heap.size v ((d.Q.take n).map Ru.updOf) w') ∧ ∃ b', Ry c b' { d with Q := Ru.takeQ d.Q n (Ru.capS d.many) } m w' ∧ Sr c b w b' w' ∧ b'.vw = b.vw := by
  have hm := many_range d
  refine (Ru.ftake_any (rows b.vq w) c.qq d.Q h.ok.ql h.ok.qi (n : Int) d.many (by omega) w (Ry.rq h) (fun g hg => .inr hg)).mono ?_
  rintro e w' ⟨⟨v, he, ho⟩, hQ, hB⟩
  rw [Int.toNat_natCast] at ho
  exact ⟨⟨v, he, ho⟩, h.setQ hQ hB (h.ok.qi.takes _ (Ru.cap_range d.many (by omega)).2) (Nat.le_trans (Ru.takeQ_length h.ok.qi _ (Ru.cap_range d.many (by omega)).2) h.ok.ql)⟩
theorem Ry.rg (h : Ry c b d m w) : ∃ M, M.Perm d.D ∧ Do.Rg (rows b.vd w) c.qd M w := by
  obtain ⟨_, M, hP, hR⟩ := h.dou
  exact ⟨M, hP, hR.mono (fun g hg => .inl hg) (h.nrow (v := b.vd) (i := 3) (j := 7) rfl rfl (by decide))⟩
theorem fdrop_any (h : Ry c b d m w) (n : Int) : Calls Tryz.prog 92 #[.pointer (some ⟨c.qd, 0, none⟩), .int .i64 n] w fun e w' => (∃ z, e = .returned (.bool z)) ∧ ∃ b', Ry c b' { d with D := Do.lessD d.D n } m w' ∧ Sr c b w b' w' ∧ b'.vw = b.vw := by
  obtain ⟨M, hP, hR⟩ := Ry.rg h
  refine (Do.rdrop_any (rows b.vd w) c.qd M (by rw [hP.length_eq]; have := h.ok.di.length; omega) n w hR).mono ?_
  rintro e w' ⟨he, hQ, hB⟩
  exact ⟨⟨_, he⟩, h.setD (Do.lessD_perm hP n) (hQ.mono (fun g hg => .inr hg) hR.lt_) (Do.Mr.but hB) (h.ok.di.less n)⟩
theorem fraise_any (h : Ry c b d m w) (u : Upd) (from_ : Int) (hu : U64 u.i) : Calls Tryz.prog 94 #[.pointer (some ⟨c.qd, 0, none⟩), .agg #[.int .i64 u.n, .int .u64 u.i, .int .i64 u.s], .int .i64 from_, .int .u64 d.no, .int .i64 d.many, .float .f64 two] w fun e w' => (∃ z z', e = .returned (.tuple #[.bool z, .int .i64 z'])) ∧ ∃ b', Ry c b' (d.susp u from_) m w' ∧ Sr c b w b' w' ∧ b'.vw = b.vw := by
  obtain ⟨M, hP, hR⟩ := Ry.rg h
  have hmr := many_range d
  refine (Do.rraise_any (rows b.vd w) c.qd M d.D hP h.ok.di u.n u.i u.s from_ d.no d.many two h.ok.no (by unfold Hid; decide) (by omega) w hR (fun g hg => .inr hg)).mono ?_
  rintro e w' ⟨he, K', hP', hQ, hB⟩
  exact ⟨⟨_, _, he⟩, h.setD hP' hQ hB (Do.raise_di h.ok.di hu h.ok.no)⟩
theorem Ry.rn (h : Ry c b d m w) : Rn.Rn 0 Rn.RX 105 (rows b.vs w) c.qs d.s w :=
  ⟨Rn.hole_rx, ⟨b.vs, h.rou.1, h.rou.2, fun g hg => ⟨.inl hg, (h.lt 8 hg).2⟩⟩, h.nrow (v := b.vs) (i := 4) (j := 8) rfl rfl (by decide), (h.lt 4 rfl).2, fun g hg => .inr hg⟩
theorem fjoin_any (h : Ry c b d m w) (n : Int) (hn : Nd n) : Calls Tryz.prog 96 #[.pointer (some ⟨c.qs, 0, none⟩), .int .i64 n, .pointer (some ⟨c.y, 0, none⟩)] w fun e w' => e = .returned (.tuple #[]) ∧ ∃ b', Ry c b' { d with s := (Rn.joinS d.s n m).1 } (Rn.joinS d.s n m).2 w' ∧ Sr c b w b' w' ∧ b'.vw = b.vw := by
  have hy := h.out 4 c.qs rfl
  refine (Rn.fjoin_any c.w0 (rows b.vs w) c.qs c.y c.la c.lcap d.s c.L m n w (by have := h.ok.sl; omega) h.len (Ry.rn h) h.arr h.lots h.lok (fun e => hy.1 e.symm) (h.yrow (v := b.vs) (j := 8) rfl) hy.2).mono ?_
  rintro e w' ⟨he, hR, hL, hM⟩
  exact ⟨he, h.setS hR hL hM (Rn.joinS_ok _ _ h.lok) (join_nodup h.ok.s1 _ _) (join_range h.ok.s2 hn _)⟩
end
theorem hear_cases (k : Nat) (f : Tab) (u : Upd) :
    ((hearS k f u).1.1 = true ∧ (hearS k f u).1.2 = 0 ∧ Nd u.n) ∨ ((hearS k f u).1.1 = false ∧ (hearS k f u).1.2 = 0 ∧ eqU (ud ((hearS k f u).2 k)) (ud (f k)) = false) ∨ ((hearS k f u).1.1 = false ∧ ((hearS k f u).1.2 = 1 ∨ (hearS k f u).1.2 = 60 ∨ (hearS k f u).1.2 = 70) ∧ (hearS k f u).2 = f) := by
  cases hm : mayU u
  · rw [hear_not k f hm]; exact .inr (.inr ⟨rfl, .inl rfl, rfl⟩)
  · have hn := (may_iff u).1 hm
    unfold hearS refuteS
    rw [if_pos hm]
    split
    · rename_i hk
      split
      · rename_i hd
        split
        · exact .inr (.inr ⟨rfl, .inr (.inl rfl), rfl⟩)
        · refine .inr (.inl ⟨rfl, rfl, ?_⟩)
          dsimp only
          rw [Tab.set_same]
          show eqU ⟨k, u.i + 1, 0⟩ (ud (f k)) = false
          unfold denS at hd
          generalize ud (f k) = x at *
          have hd2 : newerS u.i u.s x.i 0 = true := by
            revert hd
            cases newerS u.i u.s x.i 0 <;> simp
          unfold newerS at hd2
          rw [← Bool.not_eq_true]
          intro he
          unfold eqU at he
          simp at he hd2
          omega
      · exact .inr (.inr ⟨rfl, .inr (.inr rfl), rfl⟩)
    · split
      · exact .inr (.inr ⟨rfl, .inr (.inr rfl), rfl⟩)
      · exact .inl ⟨rfl, rfl, hn.1, hn.2.1⟩
section
variable {c : Rc} {b : Rw} {d : Det} {m : List Int} {w : World}
theorem bx_off {T : TypeId} {g : Nat} {n i s : Int} {b' : Rw} {w' : World} (hX : Bx T g n i s w) (hA : Off c b w g) (hS : Sr c b w b' w') : Bx T g n i s w' := hX.keep (hS.keep hA)
structure Jy (c : Rc) (b : Rw) (d : Det) (m : List Int) (g : Nat) (u : Upd) (w0 w : World) : Prop where
  st : Ry c b d m w
  box : Bx 39 g u.n u.i u.s w
  below : Below w0.heap.size w0 w
theorem Jy.later {g : Nat} {u : Upd} {w0 w' : World} (h : Jy c b d m g u w0 w) (hb : Below w.heap.size w w') : Jy c b d m g u w0 w' := ⟨h.st.below hb, h.box.below hb, bT h.below hb⟩
theorem Jy.drew {g : Nat} {u : Upd} {w0 : World} (h : Jy c b d m g u w0 w) : Jy c b d m g u w0 w.drew := ⟨h.st.drew, h.box.drew, bD h.below⟩
theorem Jy.on {g : Nat} {u : Upd} {w0 w' : World} {x : Kept (Jy c b d m g u w0)} (hb : Below x.at_.heap.size x.at_ w') : ∃ y : Kept (Jy c b d m g u w0), w' = y.at_ := ⟨⟨w', x.is.later hb⟩, rfl⟩
theorem Jy.st' {g : Nat} {u : Upd} {w0 : World} {x : Kept (Jy c b d m g u w0)} : Ry c b d m x.at_ := x.is.st
theorem cb {g : Nat} {u : Upd} {w' : World} {b' : Rw} {d' : Det} {m' : List Int} (_ : Ry c b' d' m' w') (hX : Bx 39 g u.n u.i u.s w') (j : Nat) {x : Value} (hx : w'.cell? ⟨c.q, j, none⟩ = some x) : w'.cell? ⟨c.q, j, none⟩ = some x ∧ w'.cell? ⟨g, 0, none⟩ = some (.int .i64 u.n) ∧ w'.cell? ⟨g, 1, none⟩ = some (.int .u64 u.i) ∧ w'.cell? ⟨g, 2, none⟩ = some (.int .i64 u.s) := ⟨hx, hX.c0, hX.c1, hX.c2⟩
set_option maxRecDepth 100000 in
set_option maxHeartbeats 4000000 in
theorem ftk_any (h : Ry c b d m w) (u : Upd) (from_ : Int) (hu : U64 u.i) :
    Calls Tryz.prog 48 #[.pointer (some ⟨c.q, 0, none⟩), .agg #[.int .i64 u.n, .int .u64 u.i, .int .i64 u.s], .int .i64 from_, .pointer (some ⟨c.y, 0, none⟩)] w fun e w' => e = .returned (.int .i64 (d.take c.k u from_ m).1) ∧ ∃ b', Ry c b' (d.take c.k u from_ m).2.1 (d.take c.k u from_ m).2.2 w' ∧ Sr c b w b' w' ∧ b'.vw = b.vw := by
  have ba := below_alloc w (.cells #[.int .i64 u.n, .int .u64 u.i, .int .i64 u.s] 39)
  have hX := Bx.new 39 u.n u.i u.s w
  have h1 := h.below ba
  have hA1 := h.off (w' := w.alloc (.cells #[.int .i64 u.n, .int .u64 u.i, .int .i64 u.s] 39)) (Nat.le_refl _) hX.lt
  obtain ⟨w1, HW1⟩ : ∃ w1, Hid (w1 = w.alloc (.cells #[.int .i64 u.n, .int .u64 u.i, .int .i64 u.s] 39)) := ⟨_, rfl⟩
  rw [← HW1.out] at ba hX h1 hA1
  have x0 := hX.c0
  have x1 := hX.c1
  have x2 := hX.c2
  have c1 := h1.c1
  have HC : Hid _ := hear_cases c.k d.f u
  have hmi : U64 (ud (d.f c.k)).i := h.ok.mi
  have hlv := fun w' (h' : Ry c b d m w') => flive_any h'
  have hmn := fun w' (h' : Ry c b d m w') => fmine_any h'
  have hgt := fun w' (h' : Ry c b d m w') => fget_any h' u.n
  have hhr := fun w' (h' : Ry c b d m w') => fhear_any h' u hu
  have hhas := fun W => Rn.rhas_any d.live (bandS_lt _) u.n W
  have hJ : Jy c b d m w.heap.size u w1 w1 := ⟨h1, hX, Below.refl _ _⟩
  have hne : Nonempty (Kept (Jy c b d m w.heap.size u w1)) := ⟨⟨_, hJ⟩⟩
  have k0 : ∀ x : Kept (Jy c b d m w.heap.size u w1), x.at_.cell? ⟨w.heap.size, 0, none⟩ = some (.int .i64 u.n) := fun x => x.is.box.c0
  have k1 : ∀ x : Kept (Jy c b d m w.heap.size u w1), x.at_.cell? ⟨c.q, 1, none⟩ = some (.pointer (some ⟨c.r, 0, none⟩)) := fun x => x.is.st.c1
  obtain ⟨R, HR⟩ : ∃ R, Hid (d.take c.k u from_ m = R) := ⟨_, rfl⟩
  rw [HR.out]
  have HR' : Hid (R = _) := HR.out.symm
  unfold Det.take at HR'
  clear HR
  have HKN : Hid (d.knows u = ((getS d.f u.n).isSome && eqU (ud (getS d.f u.n)) u)) := rfl
  obtain ⟨was, HWAS⟩ : ∃ z, Hid (Bnd.hasS d.live u.n = z) := ⟨_, rfl⟩
  rw [HWAS.out] at HR'
  have HWAS2 : Rn.hasS d.live u.n = was := HWAS.out
  rw [HWAS2] at hhas
  clear HWAS2 HWAS
  generalize d.live = lv at *
  have HFD : Hid ((hearS c.k d.f u).1.2 = (hearS c.k d.f u).1.2) := rfl
  clear HFD
  generalize (getS d.f u.n).isSome = sm at *
  generalize ud (getS d.f u.n) = y at *
  generalize hearS c.k d.f u = r at *
  obtain ⟨⟨tk, z⟩, f'⟩ := r
  dsimp only at HC hhr HR'
  obtain ⟨m0, HM0⟩ : ∃ m0, Hid (ud (d.f c.k) = m0) := ⟨_, rfl⟩
  rw [HM0.out] at HC hmi
  simp only [HM0.out] at hmn
  go_enter Tryz.func48, Tryz.ntmps48
  go_upto_region 1 with fail
  rw [← HW1.out]
  refine wp_region_kept (Jy c b d m w.heap.size u w1) (by kernel_rfl) (by kernel_rfl) hJ.drew ?_
  repeat (go_big_quiet_step (first
    | (refine (hlv _ Jy.st').mono ?_; rintro e w4 ⟨rfl, hb4⟩; exact ⟨rfl, Jy.on hb4⟩)
    | (refine (hhas _).mono ?_; rintro e w4 ⟨rfl, hw4⟩; exact ⟨rfl, _, hw4⟩)))
  refine wpQuiet_nil ?_
  intro w2 hJ2
  have h2 := hJ2.st
  have hX2 := hJ2.box
  have hb2 := hJ2.below
  have hA2 := hA1.step (Sr.of hb2)
  have S2 : Sr c b w b w2 := (Sr.of ba).then hb2
  clear hJ hJ2 hne k0 k1 x0 x1 x2 c1 hlv hhas h1 hX hA1 hb2 ba HW1
  have c1 := h2.c1
  go_wp2_with fail
  refine (hmn _ h2).mono ?_
  rintro e w3 ⟨rfl, hb3⟩
  have h3 := h2.below hb3
  have hX3 := hX2.below hb3
  have hA3 := hA2.step (Sr.of hb3)
  have S3 := S2.then hb3
  clear h2 hX2 hA2 S2 hb3 c1
  have b4 := below_alloc w3 (.cells #[.int .i64 m0.n, .int .u64 m0.i, .int .i64 m0.s] 39)
  have hM4 := Bx.new 39 m0.n m0.i m0.s w3
  have hAM4 := h3.off (w' := w3.alloc (.cells #[.int .i64 m0.n, .int .u64 m0.i, .int .i64 m0.s] 39)) (Nat.le_refl _) hM4.lt
  have h4 := h3.below b4
  have hX4 := hX3.below b4
  have hA4 := hA3.step (Sr.of b4)
  have S4 := S3.then b4
  obtain ⟨w4, HW4⟩ : ∃ w4, Hid (w4 = w3.alloc (.cells #[.int .i64 m0.n, .int .u64 m0.i, .int .i64 m0.s] 39)) := ⟨_, rfl⟩
  rw [← HW4.out] at hM4 hAM4 h4 hX4 hA4 S4
  go_upto_region 3 with fail
  rw [← HW4.out]
  clear h3 hX3 hA3 S3 b4 HW4
  generalize w3.heap.size = gm at *
  generalize hgu : w.heap.size = gu at *
  have HGU : Hid _ := hgu
  clear hgu
  have hold : ∀ w', Below w4.heap.size w4 w' → Below w4.heap.size w4 w' ∧ w'.cell? ⟨c.q, 1, none⟩ = some (.pointer (some ⟨c.r, 0, none⟩)) ∧ w'.cell? ⟨gu, 0, none⟩ = some (.int .i64 u.n) := fun w' hb => ⟨hb, (h4.below hb).c1, (hX4.below hb).c0⟩
  have hE0 : Below w4.heap.size w4 w4 := Below.refl _ _
  have hE1 : Below w4.heap.size w4 w4.drew := bD hE0
  go_cut [11, 12] from 28 to 37 (fun t11 t12 wx => ∃ gy : Nat, t11 = .pointer (some ⟨gy, 0, none⟩) ∧ t12 = .bool sm ∧ Bx 39 gy y.n y.i y.s wx ∧ Below w4.heap.size w4 wx ∧ w4.heap.size ≤ gy)
  case first =>
    go_region_held3 (fun w' => Below w4.heap.size w4 w' ∧ w'.cell? ⟨c.q, 1, none⟩ = some (.pointer (some ⟨c.r, 0, none⟩)) ∧ w'.cell? ⟨gu, 0, none⟩ = some (.int .i64 u.n)) ((refine hold _ ?_; (first | assumption | (refine bD (bA ?_ _); assumption) | (refine bA ?_ _; assumption) | (refine bS3 ?_ (Nat.le_refl _) _ _ _; assumption) | (refine bS3 (bA ?_ _) (Below.size (by assumption)) _ _ _; assumption)))) ((first
      | (go_at_call 55; refine (hgt _ (by first | exact (h4.below hE1) | exact (h4.below (bD (bA hE0 _))))).mono ?_; rintro e w5 ⟨rfl, hb5⟩; (first | have hE2 := bT hE1 hb5 | (have hE2 := bT (bD (bA hE0 _)) hb5; have hC := (Bx.new 39 0 0 0 w4).drew.below hb5; have z0 := hC.c0; have z1 := hC.c1; have z2 := hC.c2; have e0 := hC.free 0; have e1 := hC.free 1; have e2 := hC.free 2)))))
    all_goals
      rename_i hH
      obtain ⟨hE3, _, _⟩ := hH
      (first | have hY := hC.set y.n y.i y.s | have hY := Bx.new 39 y.n y.i y.s w5)
      have hgy := hE2.size
      go_wp2_with fail
      go_meet
      exact ⟨_, rfl, rfl, hY, hE3, by first | exact Nat.le_refl _ | exact hgy⟩
  case rest =>
  obtain ⟨gy, rfl, rfl, hY5, hE5, hgy⟩ := hcut
  have h5 := h4.below hE5
  have hX5 := hX4.below hE5
  have hM5 := hM4.below hE5
  have hA5 := hA4.step (Sr.of hE5)
  have hAM5 := hAM4.step (Sr.of hE5)
  have hAY5 := h4.off (w' := wc) hgy hY5.lt
  have S5 := S4.then hE5
  clear h4 hX4 hM4 hA4 hAM4 S4 hE5 hE0 hE1 hold hgy hgt hmn
  generalize wc = w5 at *
  go_upto_region 4 with fail
  go_cut [13, 14] from 38 to 46 (fun t13 t14 wx => t13 = .bool tk ∧ t14 = .int .i64 z ∧ ∃ b', Ry c b' { d with f := f' } m wx ∧ Sr c b w5 b' wx ∧ b'.vw = b.vw)
  case first =>
    have hS5 := And.intro h5.c1 (And.intro hX5.c0 (And.intro hX5.c1 hX5.c2))
    go_region_held3 (fun w' => w'.cell? ⟨c.q, 1, none⟩ = some (.pointer (some ⟨c.r, 0, none⟩)) ∧ w'.cell? ⟨gu, 0, none⟩ = some (.int .i64 u.n) ∧ w'.cell? ⟨gu, 1, none⟩ = some (.int .u64 u.i) ∧ w'.cell? ⟨gu, 2, none⟩ = some (.int .i64 u.s)) (first | exact hS5 | exact hS6) ((first
      | (go_at_call 93; refine (hhr _ h5.drew).mono ?_; rintro e w6 ⟨rfl, b6, h6, s6, u6⟩; have hX6 := bx_off hX5.drew hA5.drew s6; have hS6 := And.intro h6.c1 (And.intro hX6.c0 (And.intro hX6.c1 hX6.c2)))))
    all_goals
      go_wp2_with fail
      go_meet
      exact ⟨rfl, rfl, b6, h6, (Sr.refl c b w5).drew.trans s6, u6⟩
  case rest =>
  obtain ⟨rfl, rfl, b6, h6, s6, u6⟩ := hcut
  have hX6 := bx_off hX5 hA5 s6
  have hM6 := bx_off hM5 hAM5 s6
  have hY6 := bx_off hY5 hAY5 s6
  have hA6 := hA5.step s6
  have S6 := S5.trans s6
  clear hX5 hM5 hY5 hA5 hAM5 hAY5 S5 s6 h5 hhr
  generalize wc = w6 at *
  have HOK : Hid _ := h6.ok
  have x0 := hX6.c0
  have x1 := hX6.c1
  have x2 := hX6.c2
  have c1 := h6.c1
  have c2 := h6.c2
  have c3 := h6.c3
  have c4 := h6.c4
  have c8 := h6.c8
  go_upto_region 5 with fail
  rcases HC.out with ⟨h1, h2, h3⟩ | ⟨h1, h2, h3⟩ | ⟨h1, h2, h3⟩
  · -- it is news
    obtain rfl := h1
    obtain rfl := h2
    have HN : Hid _ := h3
    clear h3 HC
    rw [if_neg (by decide), if_pos rfl] at HR'
    go_wp2_with fail
    have hS6 := cb h6 hX6 2 c2
    go_region_held3 (fun w' => w'.cell? ⟨c.q, 2, none⟩ = some (.pointer (some ⟨c.qq, 0, none⟩)) ∧ w'.cell? ⟨gu, 0, none⟩ = some (.int .i64 u.n) ∧ w'.cell? ⟨gu, 1, none⟩ = some (.int .u64 u.i) ∧ w'.cell? ⟨gu, 2, none⟩ = some (.int .i64 u.s)) (first | exact hS6 | exact hS7) ((first
      | (go_at_call 35; refine (fput_any h6.drew u hu).mono ?_; rintro e w7 ⟨⟨zz, rfl⟩, b7, h7, s7, u7⟩; have hX7 := bx_off hX6.drew hA6.drew s7; have hS7 := cb h7 hX7 2 h7.c2)))
    have hA7 := hA6.drew.step s7
    have S7 := S6.drew.trans s7
    clear x0 x1 x2 c1 c2 c3 c4 c8
    have x0 := hX7.c0
    have x1 := hX7.c1
    have x2 := hX7.c2
    have c3 := h7.c3
    have c4 := h7.c4
    have c8 := h7.c8
    clear hX6 hM6 hY6 hA6 S6 h6 s7
    cases hs1 : (u.s == 1)
    case true =>
      have e1 : u.s = 1 := by simpa using hs1
      obtain rfl : R = (0, (({ d with f := f' } : Det).tell u).susp u from_, m) := by
        show _ = _
        rw [HR'.out]; unfold Det.learn; rw [if_pos e1]
      clear e1 HR'
      go_wp2_with fail
      have hmy := fun w' (h' : Ry c b7 (({ d with f := f' } : Det).tell u) m w') => fmany_any h'
      have hS7 := And.intro c8 (cb h7 hX7 3 c3)
      go_region_held3 (fun w' => w'.cell? ⟨c.q, 8, none⟩ = some (.int .u64 d.no) ∧ w'.cell? ⟨c.q, 3, none⟩ = some (.pointer (some ⟨c.qd, 0, none⟩)) ∧ w'.cell? ⟨gu, 0, none⟩ = some (.int .i64 u.n) ∧ w'.cell? ⟨gu, 1, none⟩ = some (.int .u64 u.i) ∧ w'.cell? ⟨gu, 2, none⟩ = some (.int .i64 u.s)) (first | exact hS7 | exact hS8 | exact hS9) ((first
        | (go_at_call 95; refine (hmy _ h7.drew).mono ?_; rintro e w8 ⟨rfl, hb8⟩; have h8 := h7.drew.below hb8; have hX8 := hX7.drew.below hb8; have hA8 := hA7.drew.step (Sr.of hb8); have hS8 := And.intro h8.c8 (cb h8 hX8 3 h8.c3))
        | (go_at_call 94; refine (fraise_any h8 u from_ hu).mono ?_; rintro e w9 ⟨⟨zz, zz', rfl⟩, b9, h9, s9, u9⟩; have hS9 := And.intro h9.c8 (cb h9 (bx_off hX8 hA8 s9) 3 h9.c3))))
      all_goals
        go_wp2_with fail
        go_ret
        exact ⟨rfl, b9, h9, (S7.drew.then hb8).trans s9, u9.trans (u7.trans u6)⟩
    case false =>
      have e1 : ¬ u.s = 1 := by simpa using hs1
      have HR2 : Hid (R = (0, if u.s = 0 ∧ was = false then ({ (({ d with f := f' } : Det).tell u) with D := Do.lessD d.D u.n, s := (Rn.joinS d.s u.n m).1 }, (Rn.joinS d.s u.n m).2) else ({ (({ d with f := f' } : Det).tell u) with D := Do.lessD d.D u.n }, m))) := by
        show _ = _
        rw [HR'.out]; unfold Det.learn; rw [if_neg e1]
      clear e1 HR'
      go_wp2_with fail
      have hS7 := And.intro c3 x0
      go_region_held3 (fun w' => w'.cell? ⟨c.q, 3, none⟩ = some (.pointer (some ⟨c.qd, 0, none⟩)) ∧ w'.cell? ⟨gu, 0, none⟩ = some (.int .i64 u.n)) (first | exact hS7 | exact hS8) ((first
        | (go_at_call 92; refine (fdrop_any h7.drew u.n).mono ?_; rintro e w8 ⟨⟨zz, rfl⟩, b8, h8, s8, u8⟩; have hX8 := bx_off hX7.drew hA7.drew s8; have hS8 := And.intro h8.c3 hX8.c0)))
      have hA8 := hA7.drew.step s8
      have S8 := S7.drew.trans s8
      clear x0 x1 x2 c3 c4 c8
      have x0 := hX8.c0
      have x1 := hX8.c1
      have x2 := hX8.c2
      have c4 := h8.c4
      cases hs0 : (u.s == 0) <;> cases was
      all_goals
        have hs0' : Hid ((u.s == 0) = _) := hs0
        go_wp2_with fail
      · go_ret
        rw [HR2.out, if_neg (by have := hs0'.out; simp at this; simp [this])]
        exact ⟨rfl, b8, h8, S8, u8.trans (u7.trans u6)⟩
      · go_ret
        rw [HR2.out, if_neg (by simp)]
        exact ⟨rfl, b8, h8, S8, u8.trans (u7.trans u6)⟩
      · have hS8 := And.intro c4 x0
        go_region_held3 (fun w' => w'.cell? ⟨c.q, 4, none⟩ = some (.pointer (some ⟨c.qs, 0, none⟩)) ∧ w'.cell? ⟨gu, 0, none⟩ = some (.int .i64 u.n)) (first | exact hS8 | exact hS9) ((first
          | (go_at_call 96; refine (fjoin_any h8.drew u.n HN.out).mono ?_; rintro e w9 ⟨rfl, b9, h9, s9, u9⟩; have hS9 := And.intro h9.c4 (bx_off hX8.drew hA8.drew s9).c0)))
        go_wp2_with fail
        go_ret
        rw [HR2.out, if_pos (by have := hs0'.out; simp at this; simp [this])]
        exact ⟨rfl, b9, h9, S8.drew.trans s9, u9.trans (u8.trans (u7.trans u6))⟩
      · go_ret
        rw [HR2.out, if_neg (by simp)]
        exact ⟨rfl, b8, h8, S8, u8.trans (u7.trans u6)⟩
  · obtain rfl := h1
    obtain rfl := h2
    have HN : Hid _ := h3
    clear h3 HC
    rw [if_neg (by decide), if_neg (by decide), if_pos rfl] at HR'
    have hmy := fun w' (h' : Ry c b6 { d with f := f' } m w') => fmine_any h'
    have hmi6 : U64 (ud (f' c.k)).i := h6.ok.mi
    have hneq := run_neqU (ud (f' c.k)) m0
    rw [HN.out] at hneq
    have m1 := hM6.c0
    have m2 := hM6.c1
    have m3 := hM6.c2
    go_wp2_with fail
    have hSM := And.intro c1 (And.intro m1 (And.intro m2 m3))
    have hSM2 : ∀ w', Below w6.heap.size w6 w' → w'.cell? ⟨c.q, 1, none⟩ = some (.pointer (some ⟨c.r, 0, none⟩)) ∧ w'.cell? ⟨gm, 0, none⟩ = some (.int .i64 m0.n) ∧ w'.cell? ⟨gm, 1, none⟩ = some (.int .u64 m0.i) ∧ w'.cell? ⟨gm, 2, none⟩ = some (.int .i64 m0.s) := fun w' hb => ⟨(h6.below hb).c1, (hM6.below hb).c0, (hM6.below hb).c1, (hM6.below hb).c2⟩
    go_region_held3 (fun w' => w'.cell? ⟨c.q, 1, none⟩ = some (.pointer (some ⟨c.r, 0, none⟩)) ∧ w'.cell? ⟨gm, 0, none⟩ = some (.int .i64 m0.n) ∧ w'.cell? ⟨gm, 1, none⟩ = some (.int .u64 m0.i) ∧ w'.cell? ⟨gm, 2, none⟩ = some (.int .i64 m0.s)) (first | exact hSM | exact hSM3) ((first
      | (go_at_call 36; refine (hmy _ h6.drew).mono ?_; rintro e w7 ⟨rfl, hb7⟩; have hSM3 := hSM2 _ (bT (bD (Below.refl _ _)) hb7))))
    have h7 := h6.drew.below hb7
    have S7 := S6.drew.then hb7
    clear c1 c2
    have c1 := h7.c1
    have c2 := h7.c2
    go_wp2_with fail
    have hS7 := And.intro c1 c2
    go_region_held3 (fun w' => w'.cell? ⟨c.q, 1, none⟩ = some (.pointer (some ⟨c.r, 0, none⟩)) ∧ w'.cell? ⟨c.q, 2, none⟩ = some (.pointer (some ⟨c.qq, 0, none⟩))) (first | exact hS7 | exact hS8 | exact hS9) ((first
      | (go_at_call 36; refine (hmy _ h7.drew).mono ?_; rintro e w8 ⟨rfl, hb8⟩; have h8 := h7.drew.below hb8; have hS8 := And.intro h8.c1 h8.c2)
      | (go_at_call 35; refine (fput_any h8 (ud (f' c.k)) hmi6).mono ?_; rintro e w9 ⟨⟨zz, rfl⟩, b9, h9, s9, u9⟩; have hS9 := And.intro h9.c1 h9.c2)))
    all_goals
      go_wp2_with fail
      go_ret
      rw [HR'.out]
      exact ⟨rfl, b9, h9, (S7.drew.then hb8).trans s9, u9.trans u6⟩
  · obtain rfl := h1
    obtain rfl := h3
    clear HC
    rcases h2 with rfl | rfl | rfl
    · rw [if_pos (Or.inl rfl)] at HR'
      go_wp2_with fail
      go_ret
      rw [HR'.out]
      exact ⟨rfl, b6, h6, S6, u6⟩
    · rw [if_pos (Or.inr rfl)] at HR'
      go_wp2_with fail
      go_ret
      rw [HR'.out]
      exact ⟨rfl, b6, h6, S6, u6⟩
    · rw [if_neg (by decide), if_neg (by decide), if_neg (by decide)] at HR'
      have HR2 : Hid (R = if u.s = 1 ∧ (sm && eqU y u) = true then (0, d.susp u from_, m) else (0, d, m)) := by
        show _ = _
        rw [HR'.out, ← HKN.out]
      clear HR' HKN
      have hE := run_eqlU y u
      have y0 := hY6.c0
      have y1 := hY6.c1
      have y2 := hY6.c2
      cases sm
      case false =>
        go_wp2_with fail
        go_ret
        rw [HR2.out, if_neg (by simp)]
        exact ⟨rfl, b6, h6, S6, u6⟩
      case true =>
      cases heq : eqU y u
      case false =>
        rw [heq] at hE HR2
        go_wp2_with fail
        go_ret
        rw [HR2.out, if_neg (by simp)]
        exact ⟨rfl, b6, h6, S6, u6⟩
      case true =>
      rw [heq] at hE HR2
      clear heq
      cases hs1 : (u.s == 1)
      case false =>
        have HS : Hid _ := hs1
        go_wp2_with fail
        go_ret
        rw [HR2.out, if_neg (by have := HS.out; simp at this; simp [this])]
        exact ⟨rfl, b6, h6, S6, u6⟩
      case true =>
        have HS : Hid _ := hs1
        have hmy := fun w' (h' : Ry c b6 d m w') => fmany_any h'
        go_wp2_with fail
        have hS6 := And.intro c8 (cb h6 hX6 3 c3)
        go_region_held3 (fun w' => w'.cell? ⟨c.q, 8, none⟩ = some (.int .u64 d.no) ∧ w'.cell? ⟨c.q, 3, none⟩ = some (.pointer (some ⟨c.qd, 0, none⟩)) ∧ w'.cell? ⟨gu, 0, none⟩ = some (.int .i64 u.n) ∧ w'.cell? ⟨gu, 1, none⟩ = some (.int .u64 u.i) ∧ w'.cell? ⟨gu, 2, none⟩ = some (.int .i64 u.s)) (first | exact hS6 | exact hS8 | exact hS9) ((first
          | (go_at_call 95; refine (hmy _ h6.drew).mono ?_; rintro e w8 ⟨rfl, hb8⟩; have h8 := Ry.below (d := d) h6.drew hb8; have hX8 := hX6.drew.below hb8; have hA8 := hA6.drew.step (Sr.of hb8); have hS8 := And.intro h8.c8 (cb h8 hX8 3 h8.c3))
          | (go_at_call 94; refine (fraise_any h8 u from_ hu).mono ?_; rintro e w9 ⟨⟨zz, zz', rfl⟩, b9, h9, s9, u9⟩; have hS9 := And.intro h9.c8 (cb h9 (bx_off hX8 hA8 s9) 3 h9.c3))))
        all_goals
          go_wp2_with fail
          go_ret
          rw [HR2.out, if_pos (by have := HS.out; simp at this; simp [this])]
          exact ⟨rfl, b9, h9, (S6.drew.then hb8).trans s9, u9.trans u6⟩
end
end Go.Proofs.YtpoofjnfaijjjaaGreatDoor.Fx
