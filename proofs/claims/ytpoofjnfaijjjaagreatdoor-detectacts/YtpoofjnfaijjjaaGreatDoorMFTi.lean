/-
  The reference's Tick.
-/
import Derived.Test.YtpoofjnfaijjjaaGreatDoorMFWa
namespace Go.Proofs.YtpoofjnfaijjjaaGreatDoor.Fx
open Go.RowKit Go.Proofs.YtpoofjnfaijjjaaGreatDoor Go.Proofs.YtpoofjnfaijjjaaGreatDoor.Ro
section
variable {c : Rc} {b b' : Rw} {d : Det} {m : List Int} {w w' : World}
theorem setD2 (h : Ry c b d m w) {D' M : List Do.Dbt} (hP : M.Perm D') (hQ : Do.Rg (rows b.vd w) c.qd M w') (hB : Do.Mr (rows b.vd w) c.qd w w') (hq : Do.Di D') : ∃ b', Ry c b' { d with D := D' } m w' ∧ Sr c b w b' w' ∧ ∀ i, i ≠ 7 → c.own b' i = c.own b i := by
  obtain ⟨v', e1, e2, e3⟩ := hQ.is
  have hs : ∀ i, i ≠ 7 → c.own { b with vd := v' } i = c.own b i := rown_but c 7 (fun _ => rfl) (fun _ => rfl) (fun e => absurd rfl e) (fun _ => rfl) (fun _ => rfl) (fun _ => rfl)
  have hc : c.own { b with vd := v' } 7 = c.own b 7 ∨ ∀ g, c.own { b with vd := v' } 7 = some g → w.heap.size ≤ g := rows_or e3
  have hno : ∀ i g, i ≠ 3 → i ≠ 7 → c.own b i = some g → g ≠ c.qd ∧ ¬ rows b.vd w g := fun i g h3 h7 hg => ⟨fun e => h3 (h.sep.one i 3 g hg (by rw [e]; rfl)), h.nrow (v := b.vd) (j := 7) hg rfl h7⟩
  have hk : ∀ i g, i ≠ 3 → i ≠ 7 → c.own b i = some g → w'.heap[g]? = w.heap[g]? := fun i g h3 h7 hg => hB.block g (h.lt i hg).2 (hno i g h3 h7 hg).1 (hno i g h3 h7 hg).2
  have hfr := rfr_of (w := w) hs hc
  have ok := h.ok
  have hlow : ∀ g, g < c.w0.heap.size → g ≠ c.qd ∧ ¬ rows b.vd w g := fun g hg => ⟨fun e => by have := (h.out 3 c.qd rfl).2; omega, fun e => by
    rcases e with e | e
    · have := (h.out 7 g e).2; omega
    · have := h.lots.below.size; omega⟩
  refine ⟨{ b with vd := v' }, ⟨⟨ok.k64, ok.inv, ok.qi, ok.ql, hq, ok.s1, ok.s2, ok.W, ok.E, ok.el, ok.la, ok.no⟩, (hk 0 _ (by decide) (by decide) rfl).trans h.heap, h.roll.keep (hk 1 _ (by decide) (by decide) rfl) fun g => hk 5 g (by decide) (by decide), h.que.keep (hk 2 _ (by decide) (by decide) rfl) fun g => hk 6 g (by decide) (by decide), ⟨e1, M, hP, ⟨fun e => hQ.lt_ (e3 _ e), v', e1, e2, fun g hg => hg⟩⟩, h.rou.keep (hk 4 _ (by decide) (by decide) rfl) fun g => hk 8 g (by decide) (by decide), h.ws.keep fun g hg _ => hk 9 g (by decide) (by decide) hg, h.es.keep fun g hg _ => hk 10 g (by decide) (by decide) hg,
    h.sep.upd 7 h.one hB.size hs (hc.imp id fun e g hg => ⟨e g hg, (e2.lt g hg).2⟩), h.lots.keep (hB.block c.y h.lots.lt (fun e => (h.out 3 c.qd rfl).1 e.symm) (h.yrow (v := b.vd) (j := 7) rfl)) ⟨hB.os, hB.tape, hB.output, hB.size, fun g hg => hB.block g (by have := h.lots.below.size; omega) (hlow g hg).1 (hlow g hg).2⟩, h.lok, h.outs hfr, h.arr, h.len⟩,
    ⟨hfr, hB.os, hB.tape, hB.output, hB.size, fun g hg _ hn => hB.block g hg (fun e => hn 3 (by rw [e]; rfl)) fun e => ?_⟩, hs⟩
  rcases e with e | e
  · exact hn 7 e
  · omega
theorem owd_type {T : TypeId} {B : Nat} {v : Value} {l : List Do.Dbt} (h : Do.OwD T B v l w) {g : Nat} (hg : v.ownBlock = some g) : ∃ cur, w.heap[g]? = some (.cells cur T (0, 0)) := by
  rcases h.2 with ⟨rfl, _⟩ | ⟨g', cap, cur, rfl, _, h1, _⟩
  · cases hg
  · cases hg; exact ⟨cur, h1⟩
theorem fover2_any (h : Ry c b d m w) (no : Int) (hno : no = d.no) : Calls Tryz.prog 47 #[.pointer (some ⟨c.qd, 0, none⟩), .int .u64 no] w fun e w' => ∃ v b', e = .returned v ∧ Ro.Own w.heap.size v ((Do.overD d.D no).map Do.deadOf) w' ∧ (∀ g, v.ownBlock = some g → Off c b' w' g) ∧ Ry c b' { d with D := Do.stayD d.D no } m w' ∧ Sr c b w b' w' := by
  subst hno
  obtain ⟨M, hP, hR⟩ := Ry.rg h
  refine (Do.rover_any (rows b.vd w) c.qd M d.D hP h.ok.di d.no w hR (fun g hg => .inr hg)).mono ?_
  rintro e w' ⟨⟨v, he, hO⟩, ⟨K', hP', hQ⟩, hB⟩
  obtain ⟨b', h', s', hs⟩ := setD2 h hP' hQ (Do.Mr.but hB) (h.ok.di.stay _)
  refine ⟨v, b', he, hO, fun g hg => ?_, h', s'⟩
  have hlt := hO.lt g hg
  have hA := h.off hlt.1 hlt.2
  refine ⟨hA.lt, hA.y, fun i e => ?_, hA.lo⟩
  by_cases hi : i = 7
  · subst hi
    obtain ⟨_, M2, _, hR2⟩ := h'.dou
    obtain ⟨v2, _, e2, e3⟩ := hR2.is
    obtain ⟨v3, e4, e5, _⟩ := hR2.is
    have hv : v3 = b'.vd := by
      have q1 := h'.dou.1
      rw [q1] at e4
      simpa using e4.symm
    rw [hv] at e5
    obtain ⟨c1, e1⟩ := owd_type e5 e
    obtain ⟨c2, e2'⟩ := own_type hO hg
    rw [e1] at e2'
    simp at e2'
  · rw [hs i hi] at e
    exact hA.own i e
set_option maxRecDepth 100000 in
theorem ftick_left (h : Ry c b d m w) (hle : d.le = true) :
    Calls Tryz.prog 14 #[.pointer (some ⟨c.q, 0, none⟩), .pointer (some ⟨c.y, 0, none⟩)] w fun e w' => e = .returned (.slice none 0 0) ∧ w' = w := by
  have c9 := h.c9
  rw [hle] at c9
  go_enter Tryz.func14, Tryz.ntmps14
  go_wp2_with fail
  go_ret
  exact ⟨rfl, rfl⟩
set_option maxRecDepth 100000 in
set_option maxHeartbeats 8000000 in
theorem ftick_any (h : Ry c b d m w) (hWl : d.W.length ≤ 500) :
    Calls Tryz.prog 14 #[.pointer (some ⟨c.q, 0, none⟩), .pointer (some ⟨c.y, 0, none⟩)] w fun e w' => ∃ v X b', e = .returned v ∧ Fx.Sd c b' w v X w' ∧ X.map NtX.n = (d.tick c.k m).1 ∧ Ry c b' (d.tick c.k m).2.1 (d.tick c.k m).2.2 w' ∧ Sr c b w b' w' := by
  by_cases hle : d.le = true
  · unfold Det.tick
    rw [if_pos hle]
    refine (ftick_left h hle).mono ?_
    rintro e w' ⟨rfl, rfl⟩
    exact ⟨_, [], b, rfl, Fx.Sd.nil _ _ _ _, rfl, h, Sr.refl _ _ _⟩
  have hle' : d.le = false := by simpa using hle
  obtain ⟨R, HR⟩ : ∃ R, Hid (d.tick c.k m = R) := ⟨_, rfl⟩
  rw [HR.out]
  have HR1 := HR
  unfold Det.tick at HR1
  rw [if_neg hle] at HR1
  dsimp only at HR1
  have c9 := h.c9
  have c8 := h.c8
  have f8 := h.free 8
  rw [hle'] at c9
  obtain ⟨y, HY⟩ : ∃ y, Hid (u64w (d.no + 1) = y) := ⟨_, rfl⟩
  rw [HY.out] at HR1
  have hyy : IntKind.u64.wrap (d.no + 1) = y := HY.out
  have hy2 : (d.no + 1) % 18446744073709551616 = y := by rw [← IntKind.wrap_u64]; exact hyy
  have hyu : U64 y := by rw [← HY.out]; exact u64w_ok _
  have hok := h.ok
  obtain ⟨h2, s2⟩ := h.setN (d' := { d with no := y }) 8 (.int .u64 y) (by simp [Rc.cells]) ⟨hok.k64, hok.inv, hok.qi, hok.ql, hok.di, hok.s1, hok.s2, hok.W, hok.E, hok.el, hok.la, hyu⟩ rfl rfl rfl rfl rfl rfl
  obtain ⟨w2, HW2⟩ : ∃ w2, Hid (w2 = w.setCell ⟨c.q, 8, none⟩ (.int .u64 y)) := ⟨_, rfl⟩
  rw [← HW2.out] at h2 s2
  have hlk := flook_any h2 (Nat.le_trans hWl (by decide))
  obtain ⟨L, HL⟩ : ∃ L, Hid (({ d with no := y } : Det).lookAfter c.k m = L) := ⟨_, rfl⟩
  have hWL : L.2.1.W.length ≤ 500 := by
    have := (look_fr c.k d.W ({ d with no := y } : Det) m).2.2.2.2.2
    rw [← HL.out]
    exact Nat.le_trans this hWl
  have hLl : L.1.length ≤ 100000 := by
    rw [← HL.out]
    refine Nat.le_trans (look_len c.k d.W ({ d with no := y } : Det) m) ?_
    omega
  rw [HL.out] at hlk HR1
  obtain ⟨L1, L2, L3⟩ := L
  dsimp only at hlk HR1 hWL hLl
  go_enter Tryz.func14, Tryz.ntmps14
  go_upto_region 4 with fail
  rw [← HW2.out]
  clear c9 c8 f8
  go_upto_region 5 with (go_at_call 46; go_must (refine hlk.mono ?_; rintro e w3 ⟨v3, X3, b3, rfl, hs3, hX3, h3, s3⟩))
  obtain ⟨a3, L3', c3, rfl⟩ : ∃ a L cc, v3 = .slice a L cc := (by obtain ⟨a, cap, e, _⟩ := hs3.row.len; exact ⟨a, _, cap, e⟩)
  have S3 := s2.trans s3
  have hs3 := hs3.up s2.size
  have hXl : X3.length ≤ 100000 := by
    have q1 := congrArg List.length hX3
    rw [List.length_map] at q1
    rw [q1]
    exact hLl
  clear hlk hyy hy2 s3 hLl
  obtain ⟨va, vcap, hve, _⟩ := h3.es.len
  obtain ⟨N, HN⟩ : ∃ N, Hid (L2.E.length = N) := ⟨_, rfl⟩
  have hel := h3.ok.el
  rw [HN.out] at hve hel
  have b4 := below_alloc w3 (.cells #[] 116)
  have n4 : (w3.alloc (.cells #[] 116)).heap[w3.heap.size]? = _ := heap_alloc_new w3 _
  have hO4 := OwE.empty encE 116 w3.heap.size w3.heap.size n4 (Nat.le_refl _)
  clear n4
  obtain ⟨w4, HW4⟩ : ∃ w4, Hid (w4 = w3.alloc (.cells #[] 116)) := ⟨_, rfl⟩
  rw [← HW4.out] at b4 hO4
  go_upto_region 6 with fail
  rw [← HW4.out]
  go_wp2_with fail
  go_loopg [6, 7] N (fun gk t6 t7 wr => ∃ i : Nat, i + gk = N ∧ t7 = .int .i64 i ∧ Below w3.heap.size w3 wr ∧ OwE encE 116 w3.heap.size t6 ((L2.E.take i).filter (fun x => !decide (4 ≤ u64w (L2.no - x.a)))) wr)
  case atStart => exact ⟨0, by omega, rfl, b4, by simpa using hO4⟩
  case round =>
    obtain ⟨i, hi, rfl, hb, hO⟩ := hrel
    have h4 := h3.below hb
    have c6 := h4.c6
    rw [hve] at c6
    obtain ⟨a6, L6, c6', e6⟩ : ∃ a L cc, u6 = .slice a L cc := (by obtain ⟨a, cap, e, _⟩ := hO.len; exact ⟨a, _, cap, e⟩)
    subst e6
    by_cases hlt : (i : Int) < N
    · have i0 : (0 : Int) ≤ i := by omega
      have hil : i < L2.E.length := by rw [HN.out]; omega
      obtain ⟨ge, o, rfl, -, -, hrd⟩ := h4.es.at_ hil hve
      obtain ⟨x0, x1, x2, x3, x4⟩ := hrd.atE i hil
      have hfil : Hid ((L2.E.take (i + 1)).filter (fun x => !decide (4 ≤ u64w (L2.no - x.a))) = if 4 ≤ u64w (L2.no - L2.E[i].a) then (L2.E.take i).filter (fun x => !decide (4 ≤ u64w (L2.no - x.a))) else (L2.E.take i).filter (fun x => !decide (4 ≤ u64w (L2.no - x.a))) ++ [L2.E[i]]) := by
        show _ = _
        rw [List.take_add_one, List.getElem?_eq_getElem hil, List.filter_append]
        by_cases hk : 4 ≤ u64w (L2.no - L2.E[i].a)
        · rw [if_pos hk]; simp [hk]
        · rw [if_neg hk]; simp [hk]
      have hfl : ((L2.E.take i).filter (fun x => !decide (4 ≤ u64w (L2.no - x.a)))).length ≤ 100 := Nat.le_trans (List.length_filter_le _ _) (by rw [List.length_take]; omega)
      generalize L2.E[i] = x at *
      obtain ⟨KE, HK⟩ : ∃ KE, Hid ((L2.E.take i).filter (fun x => !decide (4 ≤ u64w (L2.no - x.a))) = KE) := ⟨_, rfl⟩
      rw [HK.out] at hfil hO hfl
      obtain ⟨z, HZ⟩ : ∃ z, Hid (u64w (L2.no - x.a) = z) := ⟨_, rfl⟩
      have hz1 : IntKind.u64.wrap (L2.no - x.a) = z := HZ.out
      have hz2 : (L2.no - x.a) % 18446744073709551616 = z := by rw [← IntKind.wrap_u64]; exact hz1
      rw [HZ.out] at hfil
      have c8 := h4.c8
      go_upto_region 9 with fail
      go_quiet (fail)
      have bq := Ro.below_drewN wr.heap.size wr nq
      have hb5 := bT hb bq
      have hO5 := hO.below bq
      have h5 := h3.below hb5
      have hk5 : ∀ (a : Addr) (v : Value), wr.cell? a = some v → (wr.drewN nq).cell? a = some v := fun a v hv => (Below.cell (p := a) bq (World.block_lt_of_cell? _ _ hv)).trans hv
      have x0 := hk5 _ _ x0
      have x1 := hk5 _ _ x1
      have x2 := hk5 _ _ x2
      have x3 := hk5 _ _ x3
      have x4 := hk5 _ _ x4
      obtain ⟨w5, HW5⟩ : ∃ w5, Hid (w5 = wr.drewN nq) := ⟨_, rfl⟩
      rw [← HW5.out] at hb5 hO5 h5 x0 x1 x2 x3 x4 ⊢
      clear c6 c8 hz1 hz2 HZ hb hO hrd hk5
      by_cases h4z : 4 ≤ z
      · have hfil2 := hfil.out
        rw [if_pos h4z] at hfil2
        have hz4 : ¬ z < 4 := by omega
        go_wp2_with fail
        go_roundg (gk - 1)
        case rel => exact ⟨i + 1, by omega, by go_num, hb5, by rw [hfil2]; exact hO5⟩
        case measure => omega
      · have hfil2 := hfil.out
        rw [if_neg h4z] at hfil2
        have hz4 : z < 4 := by omega
        have c6 := h5.c6
        rw [hve] at c6
        have b6 := below_alloc w5 (.cells (cellsE x) 116)
        have hOne := (BE.new x w5).rd
        have hb6 := bT hb5 b6
        have hO6 := hO5.below b6
        have hz6 := hb6.size
        obtain ⟨w6, HW6⟩ : ∃ w6, Hid (w6 = w5.alloc (.cells (cellsE x) 116)) := ⟨_, rfl⟩
        rw [← HW6.out] at b6 hOne hb6 hO6 hz6
        go_wp2_with (at_builtin; go_must (rw [← HW6.out]; refine wpList_appE Tryz.undEr Tryz.infoEr (by decide) (by decide) w6 rfl (.tmp 51) (.tmp 59) rfl w3.heap.size (.slice a6 L6 c6') KE rfl hO6 hz6 w5.heap.size 0 1 [x] 1 rfl rfl hOne (by simp; omega) ?_; intro v7 w7 hO7 hg7 hv7))
        go_roundg (gk - 1)
        case rel => exact ⟨i + 1, by omega, by go_num, ⟨hg7.os.trans hb6.os, hg7.tape.trans hb6.tape, hg7.output.trans hb6.output, Nat.le_trans hz6 hg7.size, fun g hg => (hg7.block g (by omega) (fun e => by have := (hO6.lt g e.symm).1; omega)).trans (hb6.block g hg)⟩, by rw [hfil2]; exact hO7⟩
        case measure => omega
    · obtain rfl : i = N := by omega
      rw [List.take_of_length_le (by rw [HN.out]; exact Nat.le_refl _)] at hO
      obtain ⟨h5, s5⟩ := h3.setE (w' := wr) (OwE.qu hO) (grown_below hb) (.inr fun g e => (hO.lt g e).1) (fun x hx => h3.ok.E x (List.mem_filter.1 hx).1) (Nat.le_trans (List.length_filter_le _ _) (by rw [HN.out]; exact hel))
      have f6 := h4.free 6
      have hs5 := hs3.stp s5
      have S5 := S3.trans s5
      obtain ⟨b5, HB5⟩ : ∃ b5 : Rw, Hid (({ b3 with ve := .slice a6 L6 c6' } : Rw) = b5) := ⟨_, rfl⟩
      rw [HB5.out] at h5 hs5 S5
      obtain ⟨w5, HW5⟩ : ∃ w5, Hid (w5 = wr.setCell ⟨c.q, 6, none⟩ (.slice a6 L6 c6')) := ⟨_, rfl⟩
      rw [← HW5.out] at h5 hs5 S5
      go_upto_region 12 with fail
      rw [← HW5.out]
      clear c6 f6 h4 hO hb s5 hO4 b4
      obtain ⟨D1, HD1⟩ : ∃ D1 : Det, Hid (({ L2 with E := L2.E.filter (fun x => !decide (4 ≤ u64w (L2.no - x.a))) } : Det) = D1) := ⟨_, rfl⟩
      rw [HD1.out] at h5
      have hD1n : D1.no = L2.no := by rw [← HD1.out]
      have hD1D : D1.D = L2.D := by rw [← HD1.out]
      have hD1W : D1.W = L2.W := by rw [← HD1.out]
      have hov := fover2_any h5.drew L2.no hD1n.symm
      obtain ⟨U, HU⟩ : ∃ U, Hid ((Do.overD L2.D L2.no).map Do.deadOf = U) := ⟨_, rfl⟩
      rw [hD1D, HU.out] at hov
      have hS5 := And.intro h5.c3 (show w5.cell? ⟨c.q, 8, none⟩ = some (.int .u64 L2.no) by have := h5.c8; rw [hD1n] at this; exact this)
      go_region_held3 (fun w' => w'.cell? ⟨c.q, 3, none⟩ = some (.pointer (some ⟨c.qd, 0, none⟩)) ∧ w'.cell? ⟨c.q, 8, none⟩ = some (.int .u64 L2.no)) (first | exact hS5 | exact hS7) ((first
        | (go_at_call 47; go_must (refine hov.mono ?_; rintro e w7 ⟨v7, b7, rfl, hO7, hA7, h7, s7⟩; obtain ⟨a7, c7, rfl⟩ : ∃ a cc, v7 = .slice a U.length cc := (by obtain ⟨a, cap, e, _⟩ := hO7.ru; exact ⟨a, cap, e⟩); have hS7 := And.intro h7.c3 (show w7.cell? ⟨c.q, 8, none⟩ = some (.int .u64 L2.no) by have := h7.c8; rw [← hD1n]; exact this)))))
      have S7 := S5.drew.trans s7
      have hs7 := (hs5.stp (Sr.refl _ _ _).drew).stp s7
      have hin := dead_inc h5.ok L2.no
      rw [hD1D, HU.out] at hin
      obtain ⟨D7, HD7⟩ : ∃ D7 : Det, Hid (({ D1 with D := Do.stayD L2.D L2.no } : Det) = D7) := ⟨_, rfl⟩
      rw [HD7.out] at h7
      have HR2 : Hid ((L1 ++ ((D7.dead c.k U L3).1.pingNext c.k (D7.dead c.k U L3).2).1, ((D7.dead c.k U L3).1.pingNext c.k (D7.dead c.k U L3).2).2) = R) := by
        show _ = _
        rw [← HR1.out, ← HU.out, ← HD7.out, ← HD1.out]
      have hUl : U.length ≤ 64 := by
        rw [← HU.out, List.length_map]
        exact Nat.le_trans (Do.over_length _ _) h3.ok.di.length
      have hDW : D7.W.length ≤ 500 := by rw [← HD7.out]; show D1.W.length ≤ 500; rw [hD1W]; exact hWL
      clear hS5 hS7 hov s7 HR1 HR h3 hs3 S3 h5 hs5 S5
      obtain ⟨a', cap', e', q1, q2, q3⟩ := hO7.ru
      cases e'
      have hO7r := hO7.ru
      go_wp2_with fail
      go_loopg [9] U.length (fun gk t9 wr => ∃ (j : Nat) (dj : Det) (lj : List Int) (bj : Rw), j + gk = U.length ∧ t9 = .int .i64 j ∧ Hid (dj.dead c.k (U.drop j) lj = D7.dead c.k U L3) ∧ Ry c bj dj lj wr ∧ Sr c b7 w7 bj wr)
      case atStart => exact ⟨0, D7, L3, b7, by omega, rfl, by show _ = _; rw [List.drop_zero], h7, Sr.refl _ _ _⟩
      case round =>
        obtain ⟨j, dj, lj, bj, hj, rfl, hr, hjx, hjs⟩ := hrel
        by_cases hlt2 : (j : Int) < U.length
        · have hj' : j < U.length := by omega
          have j0 : (0 : Int) ≤ j := by omega
          have hUj := hO7r.keep fun g e _ => hjs.keep (hA7 g e)
          obtain ⟨gn, off, rfl⟩ : ∃ gn off, a7 = some ⟨gn, off, none⟩ := by
            rcases q3 with q3 | ⟨gn, off, e, _⟩
            · omega
            · exact ⟨gn, off, e⟩
          obtain ⟨x0, x1, x2⟩ : wr.cell? ⟨gn, off + j * 3, none⟩ = some (.int .i64 U[j].n) ∧ wr.cell? ⟨gn, off + j * 3 + 1, none⟩ = some (.int .u64 U[j].i) ∧ wr.cell? ⟨gn, off + j * 3 + 2, none⟩ = some (.int .i64 U[j].s) := by
            obtain ⟨_, _, e, _, _, e3⟩ := hUj
            cases e
            rcases e3 with e3 | ⟨g', off', e, e3⟩
            · omega
            · cases e; exact e3 j hj'
          have i0 := hin U[j] (List.getElem_mem hj')
          have hst : Hid (D7.dead c.k U L3 = _) := hr.out.symm.trans (dead_drop c.k dj U lj j hj')
          clear hr hUj
          generalize U[j] = u at *
          have hAg : Off c bj wr gn := (hA7 gn rfl).step hjs
          have c0 := hjx.c0
          have hS8 := And.intro c0 (And.intro x0 (And.intro x1 x2))
          go_upto_region 16 with fail
          go_region_held3 (fun w' => w'.cell? ⟨c.q, 0, none⟩ = some (.int .i64 c.k) ∧ w'.cell? ⟨gn, off + j * 3, none⟩ = some (.int .i64 u.n) ∧ w'.cell? ⟨gn, off + j * 3 + 1, none⟩ = some (.int .u64 u.i) ∧ w'.cell? ⟨gn, off + j * 3 + 2, none⟩ = some (.int .i64 u.s)) (first | exact hS8 | exact hS9) ((first
            | (go_at_call 48; refine (ftk_any hjx.drew u c.k i0).mono ?_; rintro e w9 ⟨rfl, b9, h9, s9, u9⟩; have hq9 := s9.keep hAg.drew; have hS9 := And.intro h9.c0 (And.intro ((World.cell?_of_block (w := wr.drew) (a := ⟨gn, off + j * 3, none⟩) hq9).trans x0) (And.intro ((World.cell?_of_block (w := wr.drew) (a := ⟨gn, off + j * 3 + 1, none⟩) hq9).trans x1) ((World.cell?_of_block (w := wr.drew) (a := ⟨gn, off + j * 3 + 2, none⟩) hq9).trans x2))))))
          all_goals
            have S9 := hjs.drew.trans s9
            go_wp2_with fail
            go_roundg (gk - 1)
            case rel => exact ⟨j + 1, _, _, b9, by omega, by go_num, hst.out.symm, h9, S9⟩
            case measure => omega
        · obtain rfl : j = U.length := by omega
          have hend : Hid ((dj, lj) = D7.dead c.k U L3) := by
            have := hr.out
            rw [List.drop_length] at this
            exact this
          clear hr
          rw [← hend.out] at HR2
          have hWj : dj.W.length ≤ 500 := by
            have := (dead_fr c.k U D7 L3).1
            rw [← hend.out] at this
            dsimp only at this
            rw [this]; exact hDW
          have hsj := hs7.stp hjs
          have Sj := S7.trans hjs
          clear hs7 hjs S7 h7 hO7 hO7r hA7 hin hend
          obtain ⟨wj, HWJ⟩ : ∃ wj, Hid (wj = wr) := ⟨_, rfl⟩
          rw [← HWJ.out] at hjx hsj Sj ⊢
          have hol := oth_len c.k dj.f
          have hon := oth_nodup c.k dj.f
          have hor : ∀ x ∈ othS c.k dj.f, Nd x := fun x hx => oth_nd hx
          have hnin := nxt_in (s := dj.s) (o := othS c.k dj.f) lj
          have HR3 : Hid (R = (L1 ++ (dj.pingNext c.k lj).1, (dj.pingNext c.k lj).2)) := HR2.out.symm
          unfold Det.pingNext at HR3
          have hS9 := And.intro hjx.c4 hjx.c1
          have hoth := fothers_any hjx.drew
          have hnext := fun (w' : World) (h' : Ry c bj dj lj w') v hv hvo => fnext_any h' v (othS c.k dj.f) hol hon hor hv hvo
          generalize othS c.k dj.f = o at *
          generalize (Rn.nxtS dj.s o lj).1.1 = x at *
          generalize (Rn.nxtS dj.s o lj).1.2 = is at *
          generalize (Rn.nxtS dj.s o lj).2.1 = s' at *
          generalize (Rn.nxtS dj.s o lj).2.2 = l' at *
          go_upto_region 17 with fail
          go_region_held3 (fun w' => w'.cell? ⟨c.q, 4, none⟩ = some (.pointer (some ⟨c.qs, 0, none⟩)) ∧ w'.cell? ⟨c.q, 1, none⟩ = some (.pointer (some ⟨c.r, 0, none⟩))) (first | exact hS9 | exact hS10 | exact hS11) ((first
            | (go_at_call 50; refine hoth.mono ?_; rintro e w10 ⟨⟨vo, rfl, hro, hgo⟩, hb10⟩; have h10 := hjx.drew.below hb10; have hS10 := And.intro h10.c4 h10.c1)
            | (go_at_call 49; refine (hnext w10 h10 vo hro (fun g hg => by have q1 := hgo g hg; have q2 := (hjx.lt 4 rfl).2; have q3 : wj.drew.heap.size = wj.heap.size := rfl; omega)).mono ?_; rintro e w11 ⟨rfl, b11, h11, s11, u11⟩; have hS11 := And.intro h11.c4 h11.c1)))
          all_goals
            have s1011 : Sr c bj wj b11 w11 := ((Sr.refl c bj wj).drew.then hb10).trans s11
            have S11 := Sj.trans s1011
            have hs11 := hsj.stp s1011
            clear h10 hS9 hS10 hS11 hb10 hro hgo s11 hoth hnext hsj Sj s1011 hjx
            cases is
            case false =>
              go_wp2_with fail
              go_ret
              rw [HR3.out]
              first
                | exact ⟨_, rfl, X3, b11, hs11, by simp [hX3], h11, S11⟩
                | exact ⟨_, X3, b11, rfl, hs11, by simp [hX3], h11, S11⟩
            case true =>
              obtain ⟨yy, HYY⟩ : ∃ yy, Hid (u64w (dj.la + 1) = yy) := ⟨_, rfl⟩
              have hyy : IntKind.u64.wrap (dj.la + 1) = yy := HYY.out
              have hy2 : (dj.la + 1) % 18446744073709551616 = yy := by rw [← IntKind.wrap_u64]; exact hyy
              have hyyu : U64 yy := by rw [← HYY.out]; exact u64w_ok _
              have hxn := hor x (hnin rfl)
              have c7 := h11.c7
              have f7 := h11.free 7
              have ok := h11.ok
              obtain ⟨h12, s12⟩ := h11.setN (d' := { dj with s := s', la := yy }) 7 (.int .u64 yy) (by simp [Rc.cells]) ⟨ok.k64, ok.inv, ok.qi, ok.ql, ok.di, ok.s1, ok.s2, ok.W, ok.E, ok.el, hyyu, ok.no⟩ rfl rfl rfl rfl rfl rfl
              have hs12 := hs11.stp s12
              have S12 := S11.trans s12
              obtain ⟨w12, HW12⟩ : ∃ w12, Hid (w12 = w11.setCell ⟨c.q, 7, none⟩ (.int .u64 yy)) := ⟨_, rfl⟩
              rw [← HW12.out] at h12 hs12 S12
              go_upto_region 21 with fail
              rw [← HW12.out]
              clear c7 f7 ok h11 hs11 S11 s12 hyy hy2
              have h13 := h12.drew
              have hs13 := hs12.stp (Sr.refl _ _ _).drew
              have S13 := S12.drew
              obtain ⟨wd, HWD⟩ : ∃ wd, Hid (wd = w12.drew) := ⟨_, rfl⟩
              rw [← HWD.out] at h13 hs13 S13
              clear h12 hs12 S12
              obtain ⟨v6, HV6⟩ : ∃ v6, Hid (b11.vw = v6) := ⟨_, rfl⟩
              have c5 := h13.c5
              rw [HV6.out] at c5
              have hSS := And.intro c5 (And.intro h13.c7 h13.c8)
              dsimp only at hSS
              have b14 := below_alloc wd (.cells (cellsW ⟨x, yy, dj.no, false⟩) 65)
              have hY14 := (BW.new ⟨x, yy, dj.no, false⟩ wd).rd
              have h14 := h13.below b14
              have s14 : Sr c b11 wd b11 _ := Sr.of b14
              have hs14 := hs13.stp s14
              have S14 := S13.trans s14
              obtain ⟨w14, HW14⟩ : ∃ w14, Hid (w14 = wd.alloc (.cells (cellsW ⟨x, yy, dj.no, false⟩) 65)) := ⟨_, rfl⟩
              rw [← HW14.out] at hY14 h14 hs14 S14
              have hrow14 := h14.ws
              have c5' := h14.c5
              rw [HV6.out] at hrow14 c5'
              have hSS14 := And.intro c5' (And.intro h14.c7 h14.c8)
              dsimp only at hSS14
              have HROW : Hid (OwE encW 65 0 v6 dj.W w14) := hrow14
              have HY14 : Hid _ := hY14
              clear hrow14 c5 c5' hY14 b14 s14
              refine wp_region_D (fun w' => w'.cell? ⟨c.q, 5, none⟩ = some v6 ∧ w'.cell? ⟨c.q, 7, none⟩ = some (.int .u64 yy) ∧ w'.cell? ⟨c.q, 8, none⟩ = some (.int .u64 dj.no)) (fun j => j == 19) (by kernel_rfl) ?_
              rw [← HWD.out]
              refine wpAnyD_take (i := 0) (v := .pointer (some ⟨c.q, 0, none⟩)) rfl (by kernel_rfl) (by kernel_rfl) (by kernel_rfl) (by kernel_rfl) (fun _ _ _ h => h) (Or.inl ⟨by rfl, ?_⟩) hSS ?_
              · intro w0 hw0
                clear hw0
                go_simp
              refine wpAnyD_take (i := 1) (v := .pointer (some ⟨c.q, 0, none⟩)) rfl (by kernel_rfl) (by kernel_rfl) (by kernel_rfl) (by kernel_rfl) (fun _ _ _ h => h) (Or.inl ⟨by rfl, ?_⟩) hSS ?_
              · intro w0 hw0
                clear hw0
                go_simp
              refine wpAnyD_take (i := 2) (v := .pointer (some ⟨c.q, 0, none⟩)) rfl (by kernel_rfl) (by kernel_rfl) (by kernel_rfl) (by kernel_rfl) (fun _ _ _ h => h) (Or.inl ⟨by rfl, ?_⟩) hSS ?_
              · intro w0 hw0
                clear hw0
                go_simp
              refine wpAnyD_take (i := 3) (v := .pointer (some ⟨c.q, 5, none⟩)) rfl (by kernel_rfl) (by kernel_rfl) (by kernel_rfl) (by kernel_rfl) (fun _ _ _ h => h) (Or.inl ⟨by rfl, ?_⟩) hSS ?_
              · intro w0 hw0
                clear hw0
                go_simp
              refine wpAnyD_take (i := 4) (v := v6) rfl (by kernel_rfl) (by kernel_rfl) (by kernel_rfl) (by kernel_rfl) (fun _ _ _ h => h) (Or.inl ⟨by rfl, ?_⟩) hSS ?_
              · intro w0 hw0
                obtain ⟨z0, z1, z2⟩ := hw0
                go_simp
              refine wpAnyD_take (i := 5) (v := .int .i64 x) rfl (by kernel_rfl) (by kernel_rfl) (by kernel_rfl) (by kernel_rfl) (fun _ _ _ h => h) (Or.inl ⟨by rfl, ?_⟩) hSS ?_
              · intro w0 hw0
                clear hw0
                go_simp
              refine wpAnyD_take (i := 6) (v := .pointer (some ⟨c.q, 0, none⟩)) rfl (by kernel_rfl) (by kernel_rfl) (by kernel_rfl) (by kernel_rfl) (fun _ _ _ h => h) (Or.inl ⟨by rfl, ?_⟩) hSS ?_
              · intro w0 hw0
                clear hw0
                go_simp
              refine wpAnyD_take (i := 7) (v := .pointer (some ⟨c.q, 0, none⟩)) rfl (by kernel_rfl) (by kernel_rfl) (by kernel_rfl) (by kernel_rfl) (fun _ _ _ h => h) (Or.inl ⟨by rfl, ?_⟩) hSS ?_
              · intro w0 hw0
                clear hw0
                go_simp
              refine wpAnyD_take (i := 8) (v := .pointer (some ⟨c.q, 7, none⟩)) rfl (by kernel_rfl) (by kernel_rfl) (by kernel_rfl) (by kernel_rfl) (fun _ _ _ h => h) (Or.inl ⟨by rfl, ?_⟩) hSS ?_
              · intro w0 hw0
                clear hw0
                go_simp
              refine wpAnyD_take (i := 9) (v := .int .u64 yy) rfl (by kernel_rfl) (by kernel_rfl) (by kernel_rfl) (by kernel_rfl) (fun _ _ _ h => h) (Or.inl ⟨by rfl, ?_⟩) hSS ?_
              · intro w0 hw0
                obtain ⟨z0, z1, z2⟩ := hw0
                go_simp
              refine wpAnyD_take (i := 10) (v := .pointer (some ⟨c.q, 0, none⟩)) rfl (by kernel_rfl) (by kernel_rfl) (by kernel_rfl) (by kernel_rfl) (fun _ _ _ h => h) (Or.inl ⟨by rfl, ?_⟩) hSS ?_
              · intro w0 hw0
                clear hw0
                go_simp
              refine wpAnyD_take (i := 11) (v := .pointer (some ⟨c.q, 0, none⟩)) rfl (by kernel_rfl) (by kernel_rfl) (by kernel_rfl) (by kernel_rfl) (fun _ _ _ h => h) (Or.inl ⟨by rfl, ?_⟩) hSS ?_
              · intro w0 hw0
                clear hw0
                go_simp
              refine wpAnyD_take (i := 12) (v := .pointer (some ⟨c.q, 8, none⟩)) rfl (by kernel_rfl) (by kernel_rfl) (by kernel_rfl) (by kernel_rfl) (fun _ _ _ h => h) (Or.inl ⟨by rfl, ?_⟩) hSS ?_
              · intro w0 hw0
                clear hw0
                go_simp
              refine wpAnyD_take (i := 13) (v := .int .u64 dj.no) rfl (by kernel_rfl) (by kernel_rfl) (by kernel_rfl) (by kernel_rfl) (fun _ _ _ h => h) (Or.inl ⟨by rfl, ?_⟩) hSS ?_
              · intro w0 hw0
                obtain ⟨z0, z1, z2⟩ := hw0
                go_simp
              refine wpAnyD_take (i := 14) (v := .agg (cellsW ⟨x, yy, dj.no, false⟩)) rfl (by kernel_rfl) (by kernel_rfl) (by kernel_rfl) (by kernel_rfl) (fun _ _ _ h => h) (Or.inl ⟨by rfl, ?_⟩) hSS ?_
              · intro w0 hw0
                clear hw0
                go_simp
              refine wpAnyD_one (i := 15) (by kernel_rfl) rfl (fun K hK => ?_)
              go_simp
              rw [← HW14.out]
              refine hK _ _ (fun _ => hSS14) ?_
              clear hK K
              refine wpAnyD_one (i := 16) (by kernel_rfl) rfl (fun K hK => ?_)
              refine step_appE Tryz.undWr Tryz.infoWr (by decide) (by decide) w14 (by rfl) (.tmp 120) (.tmp 131) (by rfl) 0 v6 dj.W (by rfl) HROW.out (Nat.zero_le _) wd.heap.size 0 1 [⟨x, yy, dj.no, false⟩] 1 rfl (by rfl) HY14.out (by simp; omega) ?_
              intro v15 w15 hO15 hg15 hv15
              obtain ⟨a15, L15, c15, rfl⟩ : ∃ a L cc, v15 = .slice a L cc := (by obtain ⟨a, cap, e, _⟩ := hO15.len; exact ⟨a, _, cap, e⟩)
              have hown : c.own b11 9 = v6.ownBlock := by rw [← HV6.out]; rfl
              have hq15 : w15.heap[c.q]? = w14.heap[c.q]? := hg15.block c.q h14.qlt (fun e => by have := h14.sep.one 0 9 c.q rfl (by rw [hown, ← e]); omega)
              have f5 := (World.frozen?_of_block (w := w14) (a := ⟨c.q, 5, none⟩) hq15).trans (h14.free 5)
              have hSS15 := And.intro ((World.cell?_of_block (w := w14) (a := ⟨c.q, 5, none⟩) hq15).trans hSS14.1) (And.intro ((World.cell?_of_block (w := w14) (a := ⟨c.q, 7, none⟩) hq15).trans hSS14.2.1) ((World.cell?_of_block (w := w14) (a := ⟨c.q, 8, none⟩) hq15).trans hSS14.2.2))
              obtain ⟨h16, s16⟩ := h14.setW hO15 (by rw [HV6.out]; exact hg15) (by rw [HV6.out]; exact hv15.imp id (fun e g hg => by rw [e] at hg; cases hg; exact Nat.le_refl _)) (fun z hz => (List.mem_append.1 hz).elim (fun hz => h14.ok.W z hz) (fun hz => by obtain rfl := List.mem_singleton.1 hz; exact ⟨hxn, hyyu, h14.ok.no⟩))
              refine hK _ _ (fun _ => hSS15) ?_
              clear hK K hSS hSS14
              have hSS := hSS15
              refine wpAnyD_one (i := 17) (by kernel_rfl) rfl (fun K hK => ?_)
              go_simp
              refine hK _ _ (fun _ => hSS) ?_
              clear hK K
              refine wpAnyD_one (i := 18) (by kernel_rfl) rfl (fun K hK => ?_)
              go_simp
              refine hK _ _ (fun _ => hSS) ?_
              clear hK K
              refine wpAnyD_one (i := 19) (by kernel_rfl) rfl (fun K hK => ?_)
              go_simp
              refine hK _ _ (fun e => absurd e (by decide)) ?_
              clear hK K
              refine wpAnyD_done (by kernel_rfl) ?_ _
              have hs16 := hs14.stp s16
              have S16 := S14.trans s16
              obtain ⟨b16, HB16⟩ : ∃ b16 : Rw, Hid (({ b11 with vw := .slice a15 L15 c15 } : Rw) = b16) := ⟨_, rfl⟩
              rw [HB16.out] at h16 hs16 S16
              obtain ⟨w16, HW16⟩ : ∃ w16, Hid (w16 = w15.setCell ⟨c.q, 5, none⟩ (.slice a15 L15 c15)) := ⟨_, rfl⟩
              rw [← HW16.out] at h16 hs16 S16 ⊢
              clear hSS hSS15 f5 hq15 hown h14 hs14 S14 s16
              have hsay := fsay_any h16 1 0 x yy 0
              have c7 := h16.c7
              dsimp only at c7
              go_wp2_with (first
                | (go_at_call 51; go_must (refine hsay.mono ?_; rintro e w17 ⟨v17, rfl, hO17, b17, h17, s17, u17, hA17⟩; obtain ⟨a17, L17, c17, rfl⟩ : ∃ a L cc, v17 = .slice a L cc := (by obtain ⟨a, cap, e, _⟩ := hO17.ru; exact ⟨a, _, cap, e⟩); have b18 := below_alloc w17 (.cells (ntC 1 c.k x yy 0 (.slice a17 L17 c17)) 52); have h18 := h17.below b18; have S17 := S16.trans s17; have S18 := S17.then b18; have hone := Fx.Sd.one (c := c) (w0 := w) (n := ⟨1, c.k, x, yy, 0, dj.news c.k x⟩) h17 S17.size (Ro.Own.mono hO17 S16.size) hA17; have hs18 := (hs16.stp s17).stp (Sr.of b18); have hrow18 := hs18.row; have hz18 := S18.size; have hord := hone.row.rd))
                | (at_builtin; go_must (refine wpList_appE Tryz.undNr Tryz.infoNr (by decide) (by decide) _ rfl (.tmp 135) (.tmp 144) rfl w.heap.size (.slice a3 L3' c3) X3 rfl hrow18 hz18 w17.heap.size 0 1 [⟨⟨1, c.k, x, yy, 0, dj.news c.k x⟩, a17, L17, c17⟩] 1 rfl rfl hord (by simp; omega) ?_; intro v19 w19 hO19 hg19 hv19)))
              obtain ⟨a19, L19, c19, rfl⟩ : ∃ a L cc, v19 = .slice a L cc := (by obtain ⟨a, cap, e, _⟩ := hO19.len; exact ⟨a, _, cap, e⟩)
              have hs19 := Fx.Sd.app h18 hs18 hone hO19 hg19 hv19 (fun g hg => (hO19.lt g hg).2)
              have h19 := h18.apart ((Ap.refl c b17 _).grown hg19 fun g e => .inl (hs18.away g e))
              have S19 := S18.high ⟨hg19.os, hg19.tape, hg19.output, hg19.size, fun g hg => hg19.block g (Nat.lt_of_lt_of_le hg hz18) (fun e => by have := (hrow18.lt g e.symm).1; omega)⟩
              have HR4 : Hid (R = (L1 ++ [⟨1, c.k, x, yy, 0, dj.news c.k x⟩], ({ dj with s := s', la := yy, W := dj.W ++ [⟨x, yy, dj.no, false⟩] } : Det).told c.k x, l')) := by
                show _ = _
                rw [HR3.out, ← HYY.out]
                rfl
              rw [HR4.out]
              have hXX : (X3 ++ [(⟨⟨1, c.k, x, yy, 0, dj.news c.k x⟩, a17, L17, c17⟩ : NtX)]).map NtX.n = L1 ++ [⟨1, c.k, x, yy, 0, dj.news c.k x⟩] := by rw [List.map_append, hX3]; rfl
              first
                | exact bodyPost_ret (v := .slice a19 L19 c19) (by simp [results, Tryz.results14, go_sem]) rfl ⟨_, rfl, _, b17, hs19, hXX, h19, S19⟩
                | exact bodyPost_ret (v := .slice a19 L19 c19) (by simp [results, Tryz.results14, go_sem]) rfl ⟨_, _, b17, rfl, hs19, hXX, h19, S19⟩
end
end Go.Proofs.YtpoofjnfaijjjaaGreatDoor.Fx
