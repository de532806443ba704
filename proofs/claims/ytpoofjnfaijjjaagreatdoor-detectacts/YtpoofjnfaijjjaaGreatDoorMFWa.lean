/-
  The reference's watches, looked after.
-/
import Derived.Test.YtpoofjnfaijjjaaGreatDoorMFAc
namespace Go.Proofs.YtpoofjnfaijjjaaGreatDoor.Fx
open Go.RowKit Go.Proofs.YtpoofjnfaijjjaaGreatDoor Go.Proofs.YtpoofjnfaijjjaaGreatDoor.Ro
theorem getS_inc {k : Nat} {d : Det} (h : d.Ok k) {x : Int} (hx : Nd x) : U64 (ud (getS d.f x)).i := by
  unfold getS
  rw [if_pos hx]
  cases e : d.f x.toNat with
  | none => decide
  | some u => exact (h.inv.may _ u e).2.2
structure Lq (c : Rc) (b : Rw) (d : Det) (m : List Int) (w : World) (vo : Value) (i : Nat) (v5 : Value) (wr : World) : Prop where
  ex : ∃ (X : List NtX) (KW : List Wch) (di : Det) (li : List Int) (bi : Rw),
    d.look c.k d.W m = (X.map NtX.n ++ (di.look c.k (d.W.drop i) li).1, KW ++ (di.look c.k (d.W.drop i) li).2.1, (di.look c.k (d.W.drop i) li).2.2) ∧
    X.length ≤ 64 * i ∧ KW.length ≤ i ∧ Fx.Sd c bi w v5 X wr ∧ Ry c bi (di.setw KW) li wr ∧ Sr c b w bi wr ∧ di.no = d.no ∧ OwE encW 65 0 vo d.W wr ∧ (∀ g, vo.ownBlock = some g → Off c bi wr g)
section
variable {c : Rc} {b : Rw} {d : Det} {m : List Int} {w : World}
set_option maxRecDepth 100000 in
set_option maxHeartbeats 8000000 in
theorem flook_any (h : Ry c b d m w) (hWl : d.W.length ≤ 1000) :
    Calls Tryz.prog 46 #[.pointer (some ⟨c.q, 0, none⟩), .pointer (some ⟨c.y, 0, none⟩)] w fun e w' => ∃ v X b', e = .returned v ∧ Fx.Sd c b' w v X w' ∧ X.map NtX.n = (d.lookAfter c.k m).1 ∧ Ry c b' (d.lookAfter c.k m).2.1 (d.lookAfter c.k m).2.2 w' ∧ Sr c b w b' w' := by
  have hok := h.ok.W
  obtain ⟨va, vcap, hvw, hvc, _⟩ := h.ws.len
  obtain ⟨N, HN⟩ : ∃ N, Hid (d.W.length = N) := ⟨_, rfl⟩
  rw [HN.out] at hWl hvw hvc
  have ba := below_alloc w (.cells #[] 52)
  have hsd1 := Sd.empty h
  have h1 := h.below ba
  obtain ⟨w1, HW1⟩ : ∃ w1, Hid (w1 = w.alloc (.cells #[] 52)) := ⟨_, rfl⟩
  rw [← HW1.out] at ba hsd1 h1
  have c5 := h1.c5
  have f5 := h1.free 5
  rw [hvw] at c5
  obtain ⟨h2, s2, ho2⟩ := Ry.noW h1
  have hsd2 := (Fx.Sd.stp (b := b) (w := w1) (by exact ⟨hsd1.row, fun g hg => Off.more (hsd1.away g hg) (by rw [HW1.out]; exact Nat.le_refl _), hsd1.news, hsd1.naw⟩) s2)
  have hold2 : OwE encW 65 0 b.vw d.W (w1.setCell ⟨c.q, 5, none⟩ (.slice none 0 0)) := h1.ws.keep fun g hg _ => (ho2 g hg).2
  have hA2 := fun g hg => (ho2 g hg).1
  rw [hvw] at hold2 hA2
  have S2 := (Sr.of (c := c) (b := b) ba).trans s2
  obtain ⟨b2, HB2⟩ : ∃ b2 : Rw, Hid (({ b with vw := .slice none 0 0 } : Rw) = b2) := ⟨_, rfl⟩
  rw [HB2.out] at h2 hsd2 hA2 S2
  obtain ⟨w2, HW2⟩ : ∃ w2, Hid (w2 = w1.setCell ⟨c.q, 5, none⟩ (.slice none 0 0)) := ⟨_, rfl⟩
  rw [← HW2.out] at h2 hsd2 hold2 hA2 S2
  clear ho2 s2 hsd1
  go_enter Tryz.func46, Tryz.ntmps46
  go_upto_region 2 with fail
  rw [← HW1.out]
  go_upto_region 4 with fail
  rw [← HW2.out]
  clear c5 f5
  go_wp2_with fail
  go_loopg [5, 7] N (fun gk t5 t7 wr => ∃ i : Nat, i + gk = N ∧ t7 = .int .i64 i ∧ Lq c b d m w (.slice va N vcap) i t5 wr)
  case atStart => exact ⟨0, by omega, rfl, ⟨[], [], d, m, b2, by simp, by simp, by simp, hsd2, h2, S2, rfl, hold2, hA2⟩⟩
  case round =>
    obtain ⟨i, hi, rfl, ⟨X, KW, di, li, bi, hlk, hXl, hKl, hsd, hdi, hst, hdn, hold, hoA⟩⟩ := hrel
    obtain ⟨G, HG⟩ : ∃ G, Hid (G = gk) := ⟨_, rfl⟩
    by_cases hlt : (i : Int) < N
    · have i0 : (0 : Int) ≤ i := by omega
      have hil : i < d.W.length := by rw [HN.out]; omega
      obtain ⟨gw, rfl⟩ : ∃ gw, va = some ⟨gw, 0, none⟩ := by
        rcases hold.2 with ⟨e, h0⟩ | ⟨g, cap, cur, e, _⟩
        · omega
        · cases e; exact ⟨g, rfl⟩
      obtain ⟨x0, x1, x2, x3⟩ := hold.atW (by rw [HN.out]) i hil
      have HLK : Hid _ := hlk
      have hyo := hok d.W[i] (List.getElem_mem hil)
      have hdrop : Hid (d.W.drop i = d.W[i] :: d.W.drop (i + 1)) := List.drop_eq_getElem_cons hil
      clear hlk
      generalize d.W[i] = y at *
      have bY := below_alloc wr (.cells (cellsW y) 65)
      have hY := BW.new y wr
      have c8 := (hdi.below bY).c8
      rw [show (di.setw KW).no = d.no from hdn] at c8
      obtain ⟨w3, HW3⟩ : ∃ w3, Hid (w3 = wr.alloc (.cells (cellsW y) 65)) := ⟨_, rfl⟩
      obtain ⟨gb, HGB⟩ : ∃ gb, Hid (wr.heap.size = gb) := ⟨_, rfl⟩
      rw [← HW3.out] at bY hY c8
      rw [HGB.out] at hY
      go_upto_region 8 with fail
      rw [HGB.out, ← HW3.out]
      have hgb : ∀ {w' : World}, gb < w'.heap.size → Off c bi w' gb := fun hlt => hdi.off (by rw [HGB.out]; exact Nat.le_refl _) hlt
      clear x0 x1 x2 x3
      have y2 := hY.c2
      obtain ⟨z, HZ⟩ : ∃ z, Hid (u64w (di.no - y.a) = z) := ⟨_, rfl⟩
      have hz1 : IntKind.u64.wrap (d.no - y.a) = z := by rw [← hdn]; exact HZ.out
      have hz2 : (d.no - y.a) % 18446744073709551616 = z := by rw [← IntKind.wrap_u64]; exact hz1
      have hzr : 0 ≤ z ∧ z ≤ 18446744073709551615 := by rw [← HZ.out]; exact u64w_ok _
      go_quiet (fail)
      have bq := Ro.below_drewN w3.heap.size w3 nq
      have B4 : Below wr.heap.size wr (w3.drewN nq) := bT bY bq
      have hY4 := hY.below bq
      obtain ⟨w4, HW4⟩ : ∃ w4, Hid (w4 = w3.drewN nq) := ⟨_, rfl⟩
      rw [← HW4.out] at B4 hY4 bq ⊢
      clear c8 y2
      by_cases h4z : 4 ≤ z
      · have h4 := hdi.below B4
        have s4 : Sr c bi wr bi w4 := Sr.of B4
        have hsd4 := hsd.stp s4
        have hold4 := hold.keep fun g hg _ => s4.keep (hoA g hg)
        have hA4 := fun g hg => (hoA g hg).step s4
        have hst4 := hst.trans s4
        have hAX4 : Off c bi w4 gb := hgb hY4.lt
        have hgt := fun w' (h' : Ry c bi (di.setw KW) li w') => fget_any h' y.n
        have hui : U64 (ud (getS (di.setw KW).f y.n)).i := getS_inc h4.ok hyo.n
        have hlk' : Hid (d.look c.k d.W m = (X.map NtX.n ++ ((di.miss c.k y.n li).1.look c.k (d.W.drop (i + 1)) (di.miss c.k y.n li).2).1, KW ++ ((di.miss c.k y.n li).1.look c.k (d.W.drop (i + 1)) (di.miss c.k y.n li).2).2.1, ((di.miss c.k y.n li).1.look c.k (d.W.drop (i + 1)) (di.miss c.k y.n li).2).2.2)) := by
          show _ = _
          rw [HLK.out, hdrop.out, look_miss c.k di y _ li (by rw [HZ.out]; exact h4z)]
        have hmn := (miss_W c.k di y.n li).2.1
        obtain ⟨R, HR⟩ : ∃ R, Hid (di.miss c.k y.n li = R) := ⟨_, rfl⟩
        rw [HR.out] at hlk' hmn
        have HR' : Hid (R = if (getS di.f y.n).isSome = true ∧ (ud (getS di.f y.n)).s = 0 then (di.take c.k ⟨y.n, (ud (getS di.f y.n)).i, 1⟩ c.k li).2 else (di, li)) := HR.out.symm
        clear HLK HR HZ hz1 hz2
        have ef : (di.setw KW).f = di.f := rfl
        rw [ef] at hui
        simp only [ef] at hgt
        generalize (getS di.f y.n).isSome = sm at *
        generalize ud (getS di.f y.n) = u at *
        have hkeep : ∀ w', Below w4.heap.size w4 w' → Below w4.heap.size w4 w' ∧ w'.cell? ⟨c.q, 1, none⟩ = some (.pointer (some ⟨c.r, 0, none⟩)) ∧ w'.cell? ⟨gb, 0, none⟩ = some (.int .i64 y.n) := fun w' hb => ⟨hb, (h4.below hb).c1, (hY4.below hb).c0⟩
        have hE0 : Below w4.heap.size w4 w4 := Below.refl _ _
        have hE1 : Below w4.heap.size w4 w4.drew := bD hE0
        go_upto_region 9 with fail
        rw [show decide ((4 : Int) ≤ z) = true by simpa using h4z]
        go_cut [9, 10] from 39 to 48 (fun t9 t10 wx => ∃ gy : Nat, t9 = .pointer (some ⟨gy, 0, none⟩) ∧ t10 = .bool sm ∧ Bx 39 gy u.n u.i u.s wx ∧ Below w4.heap.size w4 wx ∧ w4.heap.size ≤ gy)
        case first =>
          go_region_held3 (fun w' => Below w4.heap.size w4 w' ∧ w'.cell? ⟨c.q, 1, none⟩ = some (.pointer (some ⟨c.r, 0, none⟩)) ∧ w'.cell? ⟨gb, 0, none⟩ = some (.int .i64 y.n)) ((refine hkeep _ ?_; (first | assumption | (refine bD (bA ?_ _); assumption) | (refine bA ?_ _; assumption) | (refine bS3 ?_ (Nat.le_refl _) _ _ _; assumption) | (refine bS3 (bA ?_ _) (Below.size (by assumption)) _ _ _; assumption)))) ((first
            | (go_at_call 55; refine (hgt _ (by first | exact (h4.below hE1) | exact (h4.below (bD (bA hE0 _))))).mono ?_; rintro e w5 ⟨rfl, hb5⟩; (first | have hE2 := bT hE1 hb5 | (have hE2 := bT (bD (bA hE0 _)) hb5; have hC := (Bx.new 39 0 0 0 w4).drew.below hb5; have q0 := hC.c0; have q1 := hC.c1; have q2 := hC.c2; have e0 := hC.free 0; have e1 := hC.free 1; have e2 := hC.free 2)))))
          all_goals
            rename_i hH
            obtain ⟨hE3, _, _⟩ := hH
            (first | have hB := hC.set u.n u.i u.s | have hB := Bx.new 39 u.n u.i u.s w5)
            have hgy := hE2.size
            go_wp2_with fail
            go_meet
            exact ⟨_, rfl, rfl, hB, hE3, by first | exact Nat.le_refl _ | exact hgy⟩
        case rest =>
        obtain ⟨gy, rfl, rfl, hU, hE5, hgy⟩ := hcut
        generalize wc = w5 at *
        have s5 : Sr c bi w4 bi w5 := Sr.of hE5
        have h5 := h4.below hE5
        have hst5 := hst4.trans s5
        have hsd5 := hsd4.stp s5
        have hold5 := hold4.below hE5
        have hA5 := fun g hg => (hA4 g hg).step s5
        have hY5 := hY4.below hE5
        have hAX5 := hAX4.step s5
        have hAU5 : Off c bi w5 gy := h4.off hgy hU.lt
        clear hkeep hE0 hE1 hgt hold4 hsd4 hA4 hY4 hAX4 hE5
        have u1 := hU.c1
        have u2 := hU.c2
        have y0 := hY5.c0
        have c0 := h5.c0
        cases sm
        case false =>
          have HR2 := HR'.out
          rw [if_neg (by simp)] at HR2
          subst HR2
          go_wp2_with fail
          go_roundg (G - 1)
          case rel => exact ⟨i + 1, by have := HG.out; omega, by go_num, ⟨X, KW, di, li, bi, hlk'.out, by omega, by omega, hsd5, h5, hst5, hdn, hold5, hA5⟩⟩
          case measure => have := HG.out; omega
        case true =>
        cases hs0 : (u.s == 0)
        case false =>
          have HR2 := HR'.out
          rw [if_neg (by simp at hs0; simp [hs0])] at HR2
          subst HR2
          go_wp2_with fail
          go_roundg (G - 1)
          case rel => exact ⟨i + 1, by have := HG.out; omega, by go_num, ⟨X, KW, di, li, bi, hlk'.out, by omega, by omega, hsd5, h5, hst5, hdn, hold5, hA5⟩⟩
          case measure => have := HG.out; omega
        case true =>
          have HR2 := HR'.out
          rw [if_pos ⟨rfl, by simpa using hs0⟩] at HR2
          have HR3 : Hid _ := HR2
          clear HR' HR2
          go_wp2_with fail
          have hS5 := And.intro c0 (And.intro y0 u1)
          go_region_held3 (fun w' => w'.cell? ⟨c.q, 0, none⟩ = some (.int .i64 c.k) ∧ w'.cell? ⟨gb, 0, none⟩ = some (.int .i64 y.n) ∧ w'.cell? ⟨gy, 1, none⟩ = some (.int .u64 u.i)) (first | exact hS5 | exact hS6) ((first
            | (go_at_call 48; refine (ftk_any h5.drew ⟨y.n, u.i, 1⟩ c.k hui).mono ?_; rintro e w6 ⟨rfl, b6, h6, s6, u6⟩; have hS6 := And.intro h6.c0 (And.intro (hY5.drew.keep (s6.keep hAX5.drew)).c0 (hU.drew.keep (s6.keep hAU5.drew)).c1))))
          all_goals
            rw [take_setw] at h6
            have HR2 := HR3.out
            subst HR2
            go_wp2_with fail
            go_roundg (G - 1)
            case rel => exact ⟨i + 1, by have := HG.out; omega, by go_num, ⟨X, KW, _, _, b6, hlk'.out, by omega, by omega, (hsd5.stp (Sr.refl _ _ _).drew).stp s6, h6, hst5.drew.trans s6, hmn.trans hdn, (hold5.keep (w' := w5.drew) fun _ _ _ => rfl).keep fun g hg _ => s6.keep (hA5 g hg).drew, fun g hg => (hA5 g hg).drew.step s6⟩⟩
            case measure => have := HG.out; omega
      · by_cases hask : 2 ≤ z ∧ y.h = false
        · obtain ⟨h2z, hyh⟩ := hask
          have hak := ask_W c.k di y li
          have hHk := Rn.helpS_ok (othS c.k di.f) y.n 2 hdi.lok
          have hlk' : Hid (∀ Z : List NtX, Z.map NtX.n = (di.ask c.k y li).1 → d.look c.k d.W m = ((X ++ Z).map NtX.n ++ ((di.ask c.k y li).2.1.look c.k (d.W.drop (i + 1)) (di.ask c.k y li).2.2).1, (KW ++ [{ y with h := true }]) ++ ((di.ask c.k y li).2.1.look c.k (d.W.drop (i + 1)) (di.ask c.k y li).2.2).2.1, ((di.ask c.k y li).2.1.look c.k (d.W.drop (i + 1)) (di.ask c.k y li).2.2).2.2)) := by
            show ∀ _, _
            intro Z hZ
            rw [HLK.out, hdrop.out, look_ask c.k di y _ li (by rw [HZ.out]; exact h4z) (by rw [HZ.out]; exact ⟨h2z, hyh⟩)]
            simp [hZ]
          unfold Det.ask at hak hlk'
          dsimp only at hak hlk'
          clear HLK
          have hoth := fun w' (h' : Ry c bi (di.setw KW) li w') => fothers_any h'
          have hhel := fun w' (h' : Ry c bi (di.setw KW) li w') v (hv : Rn.Rd .i64 v (othS c.k di.f) w') => fhelpers_any h' v (othS c.k di.f) y.n 2 (by have := oth_len c.k di.f; omega) (by decide) hv
          have ef : (di.setw KW).f = di.f := rfl
          simp only [ef] at hoth
          generalize (Rn.helpS (othS c.k di.f) y.n 2 li).1 = H at *
          generalize (Rn.helpS (othS c.k di.f) y.n 2 li).2 = l' at *
          generalize othS c.k di.f = o at *
          have hHl : H.length ≤ 64 := by rw [← (helps_W c.k y H di).2.2.2]; exact hak.2.2.2
          have c8 := (hdi.below B4).c8
          rw [show (di.setw KW).no = d.no from hdn] at c8
          have y2 := hY4.c2
          have y3 := hY4.c3
          rw [hyh] at y3
          have hd2 : decide ((2 : Int) ≤ z) = true := by simpa using h2z
          go_upto_region 12 with fail
          go_quiet (fail)
          have bq2 := Ro.below_drewN w4.heap.size w4 nq
          have hY5 := hY4.below bq2
          have B5 := bT B4 bq2
          obtain ⟨w5, HW5⟩ : ∃ w5, Hid (w5 = w4.drewN nq) := ⟨_, rfl⟩
          rw [← HW5.out] at hY5 B5 ⊢
          clear c8 y2 y3 hz1 hz2 HZ
          have f3 := hY5.free 3
          have y3 := hY5.c3
          have hX6 := hY5.set3 true
          have B6 : Below wr.heap.size wr (w5.setCell ⟨gb, 3, none⟩ (.bool true)) := B5.setCell (p := ⟨gb, 3, none⟩) (by rw [HGB.out]; exact Nat.le_refl _) _
          obtain ⟨w6, HW6⟩ : ∃ w6, Hid (w6 = w5.setCell ⟨gb, 3, none⟩ (.bool true)) := ⟨_, rfl⟩
          rw [← HW6.out] at hX6 B6
          go_upto_region 14 with fail
          rw [← HW6.out]
          clear f3 y3
          have h6 := hdi.below B6
          have s6 : Sr c bi wr bi w6 := Sr.of B6
          have hAX6 : Off c bi w6 gb := hgb hX6.lt
          have hS6 := And.intro h6.c1 hX6.c0
          go_region_held3 (fun w' => w'.cell? ⟨c.q, 1, none⟩ = some (.pointer (some ⟨c.r, 0, none⟩)) ∧ w'.cell? ⟨gb, 0, none⟩ = some (.int .i64 y.n)) (first | exact hS6 | exact hS7 | exact hS8) ((first
            | (go_at_call 50; refine (hoth _ h6.drew).mono ?_; rintro e w7 ⟨⟨vo, rfl, hro, hgo⟩, hb7⟩; have h7 := h6.drew.below hb7; have hX7 := hX6.drew.below hb7; have hS7 := And.intro h7.c1 hX7.c0)
            | (go_at_call 90; refine (hhel w7 h7 vo hro).mono ?_; rintro e w8 ⟨⟨v8, rfl, hR8⟩, h8, s8⟩; obtain ⟨a8, L8, c8', HL8, rfl⟩ : ∃ a L c, L = H.length ∧ v8 = .slice a L c := (by obtain ⟨a, cap, e, _⟩ := hR8.rd; exact ⟨a, _, cap, rfl, e⟩); have hX8 := hX7.keep (s8.keep (hAX6.drew.step (Sr.of hb7))); have hS8 := And.intro h8.c1 hX8.c0)))
          all_goals
            have s7 : Sr c bi wr bi w7 := (s6.drew.then hb7)
            have s68 := s7.trans s8
            have hAX8 := (hAX6.drew.step (Sr.of hb7)).step s8
            have hAR8 : ∀ g, (Value.slice a8 L8 c8').ownBlock = some g → Off c bi w8 g := fun g hg => h7.off (hR8.own g hg).1 (hR8.own g hg).2
            have hRR : ∀ g, (Value.slice a8 L8 c8').ownBlock = some g → gb ≤ g ∧ g < w8.heap.size := fun g hg => ⟨by rw [← HGB.out]; exact Nat.le_trans s7.size (hR8.own g hg).1, (hR8.own g hg).2⟩
            have hsd8 := hsd.stp s68
            have hold8 := hold.keep fun g hg _ => s68.keep (hoA g hg)
            have hA8 := fun g hg => (hoA g hg).step s68
            have hst8 := hst.trans s68
            have hz8 : gb ≤ w8.heap.size := by rw [← HGB.out]; exact s68.size
            have hgb8 := hX8.lt
            have hRd8 := hR8.rd
            have hlow : ∀ g, u5.ownBlock = some g → g < gb ∨ w8.heap.size ≤ g := fun g hg => .inl (by rw [← HGB.out]; exact (hsd.away g hg).lt)
            subst HL8
            clear h6 h7 hX6 hX7 hS6 hS7 hS8 hb7 hro hgo s8 s7 s6 hAX6 hoth hhel hsd hold hoA hst hdi hgb hR8 B4 B5 B6 bY hY hY4 hY5 bq bq2
            go_wp2_with fail
            go_loopg [5, 12] H.length (fun gj t5 t12 wq => ∃ (j : Nat) (Z : List NtX) (dj : Det) (bj : Rw), j + gj = H.length ∧ t12 = .int .i64 j ∧ Hid (di.helps c.k y H = (Z.map NtX.n ++ (dj.helps c.k y (H.drop j)).1, (dj.helps c.k y (H.drop j)).2)) ∧ Z.length = j ∧ Fx.Sd c bj w t5 (X ++ Z) wq ∧ Ry c bj (dj.setw KW) l' wq ∧ Sr c b w bj wq ∧ BW gb { y with h := true } wq ∧ Off c bj wq gb ∧ Rn.Rd .i64 (.slice a8 H.length c8') H wq ∧ (∀ g, (Value.slice a8 H.length c8').ownBlock = some g → Off c bj wq g) ∧ OwE encW 65 0 (.slice (some ⟨gw, 0, none⟩) N vcap) d.W wq ∧ (∀ g, (Value.slice (some ⟨gw, 0, none⟩) N vcap).ownBlock = some g → Off c bj wq g) ∧ (∀ g, t5.ownBlock = some g → g < gb ∨ w8.heap.size ≤ g) ∧ w8.heap.size ≤ wq.heap.size)
            case atStart => exact ⟨0, [], di, bi, by omega, rfl, by show _ = _; simp, rfl, by rw [List.append_nil]; exact hsd8, h8, hst8, hX8, hAX8, hRd8, hAR8, hold8, hA8, hlow, Nat.le_refl _⟩
            case round =>
              obtain ⟨j, Z, dj, bj, hj, rfl, hrl, hZl, hsdj, hdj, hstj, hXj, hAXj, hRdj, hARj, holdj, hAj, hlowj, hzj⟩ := hrel
              by_cases hltj : (j : Int) < H.length
              · have j0 : (0 : Int) ≤ j := by omega
                have hjl : j < H.length := by omega
                obtain ⟨_, _, e', _, _, _, k1⟩ := id hRdj
                cases e'
                rcases k1 with k1 | ⟨g1, o1, rfl, k1⟩
                · omega
                have x1 := k1 j hjl
                have hstep : Hid (di.helps c.k y H = ((Z.map NtX.n ++ [⟨3, c.k, H[j], y.q, y.n, dj.news c.k H[j]⟩]) ++ ((dj.told c.k H[j]).helps c.k y (H.drop (j + 1))).1, ((dj.told c.k H[j]).helps c.k y (H.drop (j + 1))).2)) := by
                  show _ = _
                  rw [hrl.out, List.drop_eq_getElem_cons hjl]
                  simp [Det.helps]
                clear k1 hrl
                generalize H[j] = t at *
                have hXl2 : X.length + Z.length ≤ 100000 := by omega
                go_upto_region 18 with fail
                have hdj := hdj.drew
                have hstj := hstj.drew
                have hsdj := hsdj.stp (Sr.refl _ _ _).drew
                have hXj := hXj.drew
                have hAXj := hAXj.drew
                have hRdj := hRdj.keep (w' := wr.drew) fun _ _ _ => rfl
                have holdj := holdj.keep (w' := wr.drew) fun _ _ _ => rfl
                have hARj := fun g hg => (hARj g hg).drew
                have hAj := fun g hg => (hAj g hg).drew
                have x1 : wr.drew.cell? ⟨g1, o1 + j, none⟩ = some (.int .i64 t) := x1
                have hzj : w8.heap.size ≤ wr.drew.heap.size := hzj
                obtain ⟨wd, HWD⟩ : ∃ wd, Hid (wd = wr.drew) := ⟨_, rfl⟩
                rw [← HWD.out] at hdj hstj hsdj hXj hAXj hRdj holdj hARj hAj x1 hzj
                have hSS := And.intro x1 (And.intro hXj.c1 hXj.c0)
                have hsay := fsay_any hdj 3 0 t y.q y.n
                refine wp_region_D (fun w' => w'.cell? ⟨g1, o1 + j, none⟩ = some (.int .i64 t) ∧ w'.cell? ⟨gb, 1, none⟩ = some (.int .u64 y.q) ∧ w'.cell? ⟨gb, 0, none⟩ = some (.int .i64 y.n)) (fun _ => false) (by kernel_rfl) ?_
                rw [← HWD.out]
                refine wpAnyD_take (i := 0) (v := u5) rfl (by kernel_rfl) (by kernel_rfl) (by kernel_rfl) (by kernel_rfl) (fun _ _ _ h => h) (Or.inl ⟨by rfl, ?_⟩) hSS ?_
                · intro w0 hw0
                  clear hw0
                  go_simp
                refine wpAnyD_take (i := 1) (v := .pointer (some ⟨c.q, 0, none⟩)) rfl (by kernel_rfl) (by kernel_rfl) (by kernel_rfl) (by kernel_rfl) (fun _ _ _ h => h) (Or.inl ⟨by rfl, ?_⟩) hSS ?_
                · intro w0 hw0
                  clear hw0
                  go_simp
                refine wpAnyD_take (i := 2) (v := .slice (some ⟨g1, o1, none⟩) H.length c8') rfl (by kernel_rfl) (by kernel_rfl) (by kernel_rfl) (by kernel_rfl) (fun _ _ _ h => h) (Or.inl ⟨by rfl, ?_⟩) hSS ?_
                · intro w0 hw0
                  clear hw0
                  go_simp
                refine wpAnyD_take (i := 3) (v := .int .i64 j) rfl (by kernel_rfl) (by kernel_rfl) (by kernel_rfl) (by kernel_rfl) (fun _ _ _ h => h) (Or.inl ⟨by rfl, ?_⟩) hSS ?_
                · intro w0 hw0
                  clear hw0
                  go_simp
                refine wpAnyD_take (i := 4) (v := .pointer (some ⟨g1, o1 + j, none⟩)) rfl (by kernel_rfl) (by kernel_rfl) (by kernel_rfl) (by kernel_rfl) (fun _ _ _ h => h) (Or.inl ⟨by rfl, ?_⟩) hSS ?_
                · intro w0 hw0
                  clear hw0
                  go_simp
                refine wpAnyD_take (i := 5) (v := .int .i64 t) rfl (by kernel_rfl) (by kernel_rfl) (by kernel_rfl) (by kernel_rfl) (fun _ _ _ h => h) (Or.inl ⟨by rfl, ?_⟩) hSS ?_
                · intro w0 hw0
                  obtain ⟨z0, z1, z2⟩ := hw0
                  go_simp
                refine wpAnyD_take (i := 6) (v := .pointer (some ⟨gb, 1, none⟩)) rfl (by kernel_rfl) (by kernel_rfl) (by kernel_rfl) (by kernel_rfl) (fun _ _ _ h => h) (Or.inl ⟨by rfl, ?_⟩) hSS ?_
                · intro w0 hw0
                  clear hw0
                  go_simp
                refine wpAnyD_take (i := 7) (v := .int .u64 y.q) rfl (by kernel_rfl) (by kernel_rfl) (by kernel_rfl) (by kernel_rfl) (fun _ _ _ h => h) (Or.inl ⟨by rfl, ?_⟩) hSS ?_
                · intro w0 hw0
                  obtain ⟨z0, z1, z2⟩ := hw0
                  go_simp
                refine wpAnyD_take (i := 8) (v := .pointer (some ⟨gb, 0, none⟩)) rfl (by kernel_rfl) (by kernel_rfl) (by kernel_rfl) (by kernel_rfl) (fun _ _ _ h => h) (Or.inl ⟨by rfl, ?_⟩) hSS ?_
                · intro w0 hw0
                  clear hw0
                  go_simp
                refine wpAnyD_take (i := 9) (v := .int .i64 y.n) rfl (by kernel_rfl) (by kernel_rfl) (by kernel_rfl) (by kernel_rfl) (fun _ _ _ h => h) (Or.inl ⟨by rfl, ?_⟩) hSS ?_
                · intro w0 hw0
                  obtain ⟨z0, z1, z2⟩ := hw0
                  go_simp
                refine wpAnyD_take (i := 10) (v := .agg (ntC 3 0 t y.q y.n (.slice none 0 0))) rfl (by kernel_rfl) (by kernel_rfl) (by kernel_rfl) (by kernel_rfl) (fun _ _ _ h => h) (Or.inl ⟨by rfl, ?_⟩) hSS ?_
                · intro w0 hw0
                  clear hw0
                  go_simp
                refine wpAnyD_one (i := 11) (by kernel_rfl) rfl (fun K hK => ?_)
                go_simp
                go_at_call 51
                refine hsay.mono ?_
                rintro e w10 ⟨v10, rfl, hO10, b10, h10, s10, u10, hA10⟩
                obtain ⟨a10, L10, c10, rfl⟩ : ∃ a L cc, v10 = .slice a L cc := (by obtain ⟨a, cap, e, _⟩ := hO10.ru; exact ⟨a, _, cap, e⟩)
                have hX10 := hXj.keep (s10.keep hAXj)
                have hRd10 := hRdj.keep fun g hg _ => s10.keep (hARj g hg)
                have x10 := (World.cell?_of_block (w := wd) (a := ⟨g1, o1 + j, none⟩) (s10.keep (hARj g1 rfl))).trans x1
                have hS10 := And.intro x10 (And.intro hX10.c1 hX10.c0)
                refine hK _ _ (fun _ => hS10) ?_
                clear hK K hSS
                have b11 := below_alloc w10 (.cells (ntC 3 c.k t y.q y.n (.slice a10 L10 c10)) 52)
                have h11 := h10.below b11
                have hst10 := hstj.trans s10
                have hst11 := hst10.then b11
                have s11 : Sr c b10 w10 b10 _ := Sr.of b11
                have hone := Fx.Sd.one (c := c) (w0 := w) (n := ⟨3, c.k, t, y.q, y.n, dj.news c.k t⟩) h10 hst10.size (Ro.Own.mono hO10 hstj.size) hA10
                have hsd11 := (hsdj.stp s10).stp s11
                have hX11 := hX10.below b11
                have hRd11 := hRd10.keep fun g _ hlt => b11.block g hlt
                have hAX11 := (hAXj.step s10).step s11
                have hAR11 := fun g hg => ((hARj g hg).step s10).step s11
                have hold11 := (holdj.keep fun g hg _ => s10.keep (hAj g hg)).below b11
                have hA11 := fun g hg => ((hAj g hg).step s10).step s11
                have x11 := (World.cell?_of_block (w := w10) (a := ⟨g1, o1 + j, none⟩) (b11.block g1 (World.block_lt_of_cell? _ _ x10))).trans x10
                have hz11 : w8.heap.size ≤ (w10.alloc (.cells (ntC 3 c.k t y.q y.n (.slice a10 L10 c10)) 52)).heap.size := Nat.le_trans hzj (Nat.le_trans s10.size s11.size)
                obtain ⟨w11, HW11⟩ : ∃ w11, Hid (w11 = w10.alloc (.cells (ntC 3 c.k t y.q y.n (.slice a10 L10 c10)) 52)) := ⟨_, rfl⟩
                rw [← HW11.out] at h11 hst11 hone hsd11 hX11 hRd11 hAX11 hAR11 hold11 hA11 x11 hz11
                have hS11 := And.intro x11 (And.intro hX11.c1 hX11.c0)
                have hrow11 := hsd11.row
                have hbig11 := hst11.size
                have hord11 := hone.row.rd
                refine wpAnyD_one (i := 12) (by kernel_rfl) rfl (fun K hK => ?_)
                go_simp
                rw [← HW11.out]
                refine hK _ _ (fun _ => hS11) ?_
                clear hK K
                refine wpAnyD_one (i := 13) (by kernel_rfl) rfl (fun K hK => ?_)
                refine step_appE Tryz.undNr Tryz.infoNr (by decide) (by decide) w11 (by rfl) (.tmp 96) (.tmp 108) (by rfl) w.heap.size u5 (X ++ Z) (by rfl) hrow11 hbig11 w10.heap.size 0 1 [⟨⟨3, c.k, t, y.q, y.n, dj.news c.k t⟩, a10, L10, c10⟩] 1 rfl (by rfl) hord11 (by simp; omega) ?_
                intro v12 w12 hO12 hg12 hv12
                have hsd12 := Fx.Sd.app h11 hsd11 hone hO12 hg12 hv12 (fun g hg => (hO12.lt g hg).2)
                have h12 := h11.apart ((Ap.refl c b10 w11).grown hg12 fun g e => .inl (hsd11.away g e))
                have hst12 := hst11.high ⟨hg12.os, hg12.tape, hg12.output, hg12.size, fun g hg => hg12.block g (by omega) (fun e => by have := (hrow11.lt g e.symm).1; omega)⟩
                have hne : ∀ g, gb ≤ g → g < w8.heap.size → u5.ownBlock ≠ some g := fun g h1 h2 e => by have := hlowj g e; omega
                have hX12 := hX11.keep (hg12.block _ hX11.lt (fun e => hne gb (Nat.le_refl _) hgb8 e.symm))
                have hRd12 := hRd11.keep fun g hg hlt => hg12.block g hlt (fun e => hne g (hRR g hg).1 (hRR g hg).2 e.symm)
                have hold12 := hold11.keep fun g hg hlt => hg12.block g hlt (fun e => by obtain ⟨c1, e1⟩ := owe_type hrow11 e.symm; obtain ⟨c2, e2⟩ := owe_type hold11 hg; rw [e1] at e2; simp at e2)
                have x12 := (World.cell?_of_block (w := w11) (a := ⟨g1, o1 + j, none⟩) (hg12.block g1 (World.block_lt_of_cell? _ _ x11) (fun e => hne g1 (hRR g1 rfl).1 (hRR g1 rfl).2 e.symm))).trans x11
                have hS12 := And.intro x12 (And.intro hX12.c1 hX12.c0)
                refine hK _ _ (fun _ => hS12) ?_
                clear hK K
                refine wpAnyD_one (i := 14) (by kernel_rfl) rfl (fun K hK => ?_)
                go_simp
                refine hK _ _ (fun _ => hS12) ?_
                clear hK K
                refine wpAnyD_done (by kernel_rfl) ?_ _
                have hlow12 : ∀ g, v12.ownBlock = some g → g < gb ∨ w8.heap.size ≤ g := fun g hg => by
                  rcases hv12 with e | e
                  · exact hlowj g (e.symm.trans hg)
                  · rw [e] at hg; cases hg; exact .inr hz11
                go_wp2_with fail
                go_roundg (gk - 1)
                case rel => exact ⟨j + 1, Z ++ [⟨⟨3, c.k, t, y.q, y.n, dj.news c.k t⟩, a10, L10, c10⟩], dj.told c.k t, b10, by omega, by go_num, by show _ = _; rw [hstep.out]; simp, by simp; omega, by rw [← List.append_assoc]; exact hsd12, h12, hst12, hX12, Off.more hAX11 hg12.size, hRd12, fun g hg => Off.more (hAR11 g hg) hg12.size, hold12, fun g hg => Off.more (hA11 g hg) hg12.size, hlow12, Nat.le_trans hz11 hg12.size⟩
                case measure => omega
              · obtain rfl : j = H.length := by omega
                have hrl' : Hid (di.helps c.k y H = (Z.map NtX.n, dj)) := by
                  show _ = _
                  rw [hrl.out]
                  simp [Det.helps]
                have HLK2 : Hid _ := hlk'.out Z (by rw [hrl'.out])
                rw [hrl'.out] at HLK2
                have hdn2 : dj.no = d.no := by have := hak.2.1; rw [hrl'.out] at this; exact this.trans hdn
                have h6 := hdj
                have S6 := hstj
                have hsd6 := hsdj
                have hold6 := holdj
                have hA6 := hAj
                have hX6 := hXj
                have hAX6 := hAXj
                clear hlk' hrl hrl' hak hdj hstj hsdj holdj hAj hXj hAXj hRdj hARj h8 hst8 hX8 hAX8 hRd8 hAR8 hold8 hA8 hlow hlowj hRR hsd8
                go_upto_region 19 with fail
                have h6 := h6.drew
                have S6 := S6.drew
                have hsd6 := hsd6.stp (Sr.refl _ _ _).drew
                have hold6 := hold6.keep (w' := wr.drew) fun _ _ _ => rfl
                have hA6 := fun g hg => (hA6 g hg).drew
                have hX6 := hX6.drew
                have hAX6 := hAX6.drew
                obtain ⟨wd, HWD⟩ : ∃ wd, Hid (wd = wr.drew) := ⟨_, rfl⟩
                rw [← HWD.out] at h6 S6 hsd6 hold6 hA6 hX6 hAX6
                obtain ⟨v6, HV6⟩ : ∃ v6, Hid (bj.vw = v6) := ⟨_, rfl⟩
                have c5 := h6.c5
                rw [HV6.out] at c5
                have hSS := And.intro c5 (And.intro hX6.c0 (And.intro hX6.c1 (And.intro hX6.c2 hX6.c3)))
                have b7 := below_alloc wd (.cells (cellsW { y with h := true }) 65)
                have hY7 := BW.new { y with h := true } wd
                have s7 : Sr c bj wd bj _ := Sr.of b7
                have h7 := h6.below b7
                have S7 := S6.then b7
                have hsd7 := hsd6.stp s7
                have hold7 := hold6.below b7
                have hA7 := fun g hg => (hA6 g hg).step s7
                have hX7 := hX6.below b7
                have hAX7 := hAX6.step s7
                obtain ⟨w7, HW7⟩ : ∃ w7, Hid (w7 = wd.alloc (.cells (cellsW { y with h := true }) 65)) := ⟨_, rfl⟩
                rw [← HW7.out] at hY7 h7 S7 hsd7 hold7 hA7 hX7 hAX7
                have hrow7 := h7.ws
                have c5' := h7.c5
                rw [HV6.out] at hrow7 c5'
                have hSS7 := And.intro c5' (And.intro hX7.c0 (And.intro hX7.c1 (And.intro hX7.c2 hX7.c3)))
                have HROW : Hid (OwE encW 65 0 v6 KW w7) := hrow7
                have HY7 : Hid (RdE encW (.slice (some ⟨wd.heap.size, 0, none⟩) 1 1) [{ y with h := true }] w7) := hY7.rd
                clear hrow7 c5 c5' hY7
                refine wp_region_D (fun w' => w'.cell? ⟨c.q, 5, none⟩ = some v6 ∧ w'.cell? ⟨gb, 0, none⟩ = some (.int .i64 y.n) ∧ w'.cell? ⟨gb, 1, none⟩ = some (.int .u64 y.q) ∧ w'.cell? ⟨gb, 2, none⟩ = some (.int .u64 y.a) ∧ w'.cell? ⟨gb, 3, none⟩ = some (.bool true)) (fun j => j == 10) (by kernel_rfl) ?_
                rw [← HWD.out]
                refine wpAnyD_take (i := 0) (v := .pointer (some ⟨c.q, 0, none⟩)) rfl (by kernel_rfl) (by kernel_rfl) (by kernel_rfl) (by kernel_rfl) (fun _ _ _ h => h) (Or.inl ⟨by rfl, ?_⟩) hSS ?_
                · intro w0 hw0
                  clear hw0
                  go_simp
                refine wpAnyD_take (i := 1) (v := .pointer (some ⟨c.q, 0, none⟩)) rfl (by kernel_rfl) (by kernel_rfl) (by kernel_rfl) (by kernel_rfl) (fun _ _ _ h => h) (Or.inl ⟨by rfl, ?_⟩) hSS ?_
                · intro w0 hw0
                  clear hw0
                  go_simp
                refine wpAnyD_take (i := 2) (v := .pointer (some ⟨c.q, 0, none⟩)) rfl (by kernel_rfl) (by kernel_rfl) (by kernel_rfl) (by kernel_rfl) (fun _ _ _ h => h) (Or.inl ⟨by rfl, ?_⟩) hSS ?_
                · intro w0 hw0
                  clear hw0
                  go_simp
                refine wpAnyD_take (i := 3) (v := .pointer (some ⟨c.q, 5, none⟩)) rfl (by kernel_rfl) (by kernel_rfl) (by kernel_rfl) (by kernel_rfl) (fun _ _ _ h => h) (Or.inl ⟨by rfl, ?_⟩) hSS ?_
                · intro w0 hw0
                  clear hw0
                  go_simp
                refine wpAnyD_take (i := 4) (v := v6) rfl (by kernel_rfl) (by kernel_rfl) (by kernel_rfl) (by kernel_rfl) (fun _ _ _ h => h) (Or.inl ⟨by rfl, ?_⟩) hSS ?_
                · intro w0 hw0
                  obtain ⟨z0, z1, z2, z3, z4⟩ := hw0
                  go_simp
                refine wpAnyD_take (i := 5) (v := .agg (cellsW { y with h := true })) rfl (by kernel_rfl) (by kernel_rfl) (by kernel_rfl) (by kernel_rfl) (fun _ _ _ h => h) (Or.inl ⟨by rfl, ?_⟩) hSS ?_
                · intro w0 hw0
                  obtain ⟨z0, z1, z2, z3, z4⟩ := hw0
                  go_simp
                refine wpAnyD_one (i := 6) (by kernel_rfl) rfl (fun K hK => ?_)
                go_simp
                rw [← HW7.out]
                refine hK _ _ (fun _ => hSS7) ?_
                clear hK K
                refine wpAnyD_one (i := 7) (by kernel_rfl) rfl (fun K hK => ?_)
                refine step_appE Tryz.undWr Tryz.infoWr (by decide) (by decide) w7 (by rfl) (.tmp 114) (.tmp 116) (by rfl) 0 v6 KW (by rfl) HROW.out (Nat.zero_le _) wd.heap.size 0 1 [{ y with h := true }] 1 rfl (by rfl) HY7.out (by simp; omega) ?_
                intro v8 w8 hO8 hg8 hv8
                obtain ⟨a8, L8, c8', rfl⟩ : ∃ a L c, v8 = .slice a L c := (by obtain ⟨a, cap, e, _⟩ := hO8.len; exact ⟨a, _, cap, e⟩)
                have hown : c.own bj 9 = v6.ownBlock := by rw [← HV6.out]; rfl
                have hq8 : w8.heap[c.q]? = w7.heap[c.q]? := hg8.block c.q h7.qlt (fun e => by have := h7.sep.one 0 9 c.q rfl (by rw [hown, ← e]); omega)
                have hX8 := hX7.keep (hg8.block _ hX7.lt (fun e => hAX7.own 9 (by rw [hown, ← e])))
                have f5 := (World.frozen?_of_block (w := w7) (a := ⟨c.q, 5, none⟩) hq8).trans (h7.free 5)
                have hSS8 := And.intro ((World.cell?_of_block (w := w7) (a := ⟨c.q, 5, none⟩) hq8).trans hSS7.1) (And.intro hX8.c0 (And.intro hX8.c1 (And.intro hX8.c2 hX8.c3)))
                obtain ⟨h9, s9⟩ := h7.setW hO8 (by rw [HV6.out]; exact hg8) (by rw [HV6.out]; exact hv8.imp id (fun e g hg => by rw [e] at hg; cases hg; exact Nat.le_refl _)) (fun z hz => (List.mem_append.1 hz).elim (fun hz => h7.ok.W z hz) (fun hz => by obtain rfl := List.mem_singleton.1 hz; exact ⟨hyo.n, hyo.q, hyo.a⟩))
                refine hK _ _ (fun _ => hSS8) ?_
                clear hK K hSS hSS7
                have hSS := hSS8
                refine wpAnyD_one (i := 8) (by kernel_rfl) rfl (fun K hK => ?_)
                go_simp
                refine hK _ _ (fun _ => hSS) ?_
                clear hK K
                refine wpAnyD_one (i := 9) (by kernel_rfl) rfl (fun K hK => ?_)
                go_simp
                refine hK _ _ (fun _ => hSS) ?_
                clear hK K
                refine wpAnyD_one (i := 10) (by kernel_rfl) rfl (fun K hK => ?_)
                go_simp
                refine hK _ _ (fun e => absurd e (by decide)) ?_
                clear hK K
                refine wpAnyD_done (by kernel_rfl) ?_ _
                have hsd9 := hsd7.stp s9
                have hold9 := hold7.keep fun g hg _ => s9.keep (hA7 g hg)
                have hA9 := fun g hg => (hA7 g hg).step s9
                have S9 := S7.trans s9
                obtain ⟨w9, HW9⟩ : ∃ w9, Hid (w9 = w8.setCell ⟨c.q, 5, none⟩ (.slice a8 L8 c8')) := ⟨_, rfl⟩
                rw [← HW9.out] at h9 hsd9 hold9 hA9 S9 ⊢
                clear hSS hSS8 f5 hX8 hq8
                go_wp2_with fail
                go_roundg (G - 1)
                case rel => exact ⟨i + 1, by have := HG.out; omega, by go_num, ⟨(X ++ Z), KW ++ [{ y with h := true }], dj, l', _, HLK2.out, by first | omega | (simp; omega), by first | omega | (simp; omega), hsd9, h9, S9, hdn2, hold9, hA9⟩⟩
                case measure => have := HG.out; omega
        · have HLK2 : Hid (d.look c.k d.W m = (X.map NtX.n ++ (di.look c.k (d.W.drop (i + 1)) li).1, (KW ++ [y]) ++ (di.look c.k (d.W.drop (i + 1)) li).2.1, (di.look c.k (d.W.drop (i + 1)) li).2.2)) := by
            show _ = _
            rw [HLK.out, hdrop.out, look_stay c.k di y _ li (by rw [HZ.out]; exact h4z) (by rw [HZ.out]; exact hask)]
            simp
          have hask' : Hid (¬ (2 ≤ z ∧ y.h = false)) := hask
          clear HLK hask
          have c8 := (hdi.below B4).c8
          rw [show (di.setw KW).no = d.no from hdn] at c8
          have y2 := hY4.c2
          have y3 := hY4.c3
          cases hyh : y.h
          all_goals
            rw [hyh] at y3
            cases hd2 : decide ((2 : Int) ≤ z)
            all_goals
              first
                | (exfalso; exact hask'.out ⟨by simpa using hd2, hyh⟩)
                | (go_upto_region 12 with fail
                   go_quiet (fail)
                   have bq2 := Ro.below_drewN w4.heap.size w4 nq
                   have hX6 := hY4.below bq2
                   have B5 := bT B4 bq2
                   obtain ⟨w5, HW5⟩ : ∃ w5, Hid (w5 = w4.drewN nq) := ⟨_, rfl⟩
                   rw [← HW5.out] at hX6 B5 ⊢
                   clear c8 y2 y3 hz1 hz2 HZ
                   have h6 := hdi.below B5
                   have s6 : Sr c bi wr bi w5 := Sr.of B5
                   have hsd6 := hsd.stp s6
                   have hold6 := hold.keep fun g hg _ => s6.keep (hoA g hg)
                   have hA6 := fun g hg => (hoA g hg).step s6
                   have S6 := hst.trans s6
                   have hAX6 : Off c bi w5 gb := hgb hX6.lt
                   clear hdi hsd hold hoA hst s6 B4 hY4 hd2 hyh
                   go_upto_region 19 with fail
                   have h6 := h6.drew
                   have S6 := S6.drew
                   have hsd6 := hsd6.stp (Sr.refl _ _ _).drew
                   have hold6 := hold6.keep (w' := w5.drew) fun _ _ _ => rfl
                   have hA6 := fun g hg => (hA6 g hg).drew
                   have hX6 := hX6.drew
                   have hAX6 := hAX6.drew
                   obtain ⟨wd, HWD⟩ : ∃ wd, Hid (wd = w5.drew) := ⟨_, rfl⟩
                   rw [← HWD.out] at h6 S6 hsd6 hold6 hA6 hX6 hAX6
                   obtain ⟨v6, HV6⟩ : ∃ v6, Hid (bi.vw = v6) := ⟨_, rfl⟩
                   have c5 := h6.c5
                   rw [HV6.out] at c5
                   have hSS := And.intro c5 (And.intro hX6.c0 (And.intro hX6.c1 (And.intro hX6.c2 hX6.c3)))
                   have b7 := below_alloc wd (.cells (cellsW y) 65)
                   have hY7 := BW.new y wd
                   have s7 : Sr c bi wd bi _ := Sr.of b7
                   have h7 := h6.below b7
                   have S7 := S6.then b7
                   have hsd7 := hsd6.stp s7
                   have hold7 := hold6.below b7
                   have hA7 := fun g hg => (hA6 g hg).step s7
                   have hX7 := hX6.below b7
                   have hAX7 := hAX6.step s7
                   obtain ⟨w7, HW7⟩ : ∃ w7, Hid (w7 = wd.alloc (.cells (cellsW y) 65)) := ⟨_, rfl⟩
                   rw [← HW7.out] at hY7 h7 S7 hsd7 hold7 hA7 hX7 hAX7
                   have hrow7 := h7.ws
                   have c5' := h7.c5
                   rw [HV6.out] at hrow7 c5'
                   have hSS7 := And.intro c5' (And.intro hX7.c0 (And.intro hX7.c1 (And.intro hX7.c2 hX7.c3)))
                   have HROW : Hid (OwE encW 65 0 v6 KW w7) := hrow7
                   have HY7 : Hid (RdE encW (.slice (some ⟨wd.heap.size, 0, none⟩) 1 1) [y] w7) := hY7.rd
                   clear hrow7 c5 c5' hY7
                   refine wp_region_D (fun w' => w'.cell? ⟨c.q, 5, none⟩ = some v6 ∧ w'.cell? ⟨gb, 0, none⟩ = some (.int .i64 y.n) ∧ w'.cell? ⟨gb, 1, none⟩ = some (.int .u64 y.q) ∧ w'.cell? ⟨gb, 2, none⟩ = some (.int .u64 y.a) ∧ w'.cell? ⟨gb, 3, none⟩ = some (.bool y.h)) (fun j => j == 10) (by kernel_rfl) ?_
                   rw [← HWD.out]
                   refine wpAnyD_take (i := 0) (v := .pointer (some ⟨c.q, 0, none⟩)) rfl (by kernel_rfl) (by kernel_rfl) (by kernel_rfl) (by kernel_rfl) (fun _ _ _ h => h) (Or.inl ⟨by rfl, ?_⟩) hSS ?_
                   · intro w0 hw0
                     clear hw0
                     go_simp
                   refine wpAnyD_take (i := 1) (v := .pointer (some ⟨c.q, 0, none⟩)) rfl (by kernel_rfl) (by kernel_rfl) (by kernel_rfl) (by kernel_rfl) (fun _ _ _ h => h) (Or.inl ⟨by rfl, ?_⟩) hSS ?_
                   · intro w0 hw0
                     clear hw0
                     go_simp
                   refine wpAnyD_take (i := 2) (v := .pointer (some ⟨c.q, 0, none⟩)) rfl (by kernel_rfl) (by kernel_rfl) (by kernel_rfl) (by kernel_rfl) (fun _ _ _ h => h) (Or.inl ⟨by rfl, ?_⟩) hSS ?_
                   · intro w0 hw0
                     clear hw0
                     go_simp
                   refine wpAnyD_take (i := 3) (v := .pointer (some ⟨c.q, 5, none⟩)) rfl (by kernel_rfl) (by kernel_rfl) (by kernel_rfl) (by kernel_rfl) (fun _ _ _ h => h) (Or.inl ⟨by rfl, ?_⟩) hSS ?_
                   · intro w0 hw0
                     clear hw0
                     go_simp
                   refine wpAnyD_take (i := 4) (v := v6) rfl (by kernel_rfl) (by kernel_rfl) (by kernel_rfl) (by kernel_rfl) (fun _ _ _ h => h) (Or.inl ⟨by rfl, ?_⟩) hSS ?_
                   · intro w0 hw0
                     obtain ⟨z0, z1, z2, z3, z4⟩ := hw0
                     go_simp
                   refine wpAnyD_take (i := 5) (v := .agg (cellsW y)) rfl (by kernel_rfl) (by kernel_rfl) (by kernel_rfl) (by kernel_rfl) (fun _ _ _ h => h) (Or.inl ⟨by rfl, ?_⟩) hSS ?_
                   · intro w0 hw0
                     obtain ⟨z0, z1, z2, z3, z4⟩ := hw0
                     go_simp
                   refine wpAnyD_one (i := 6) (by kernel_rfl) rfl (fun K hK => ?_)
                   go_simp
                   rw [← HW7.out]
                   refine hK _ _ (fun _ => hSS7) ?_
                   clear hK K
                   refine wpAnyD_one (i := 7) (by kernel_rfl) rfl (fun K hK => ?_)
                   refine step_appE Tryz.undWr Tryz.infoWr (by decide) (by decide) w7 (by rfl) (.tmp 114) (.tmp 116) (by rfl) 0 v6 KW (by rfl) HROW.out (Nat.zero_le _) wd.heap.size 0 1 [y] 1 rfl (by rfl) HY7.out (by simp; omega) ?_
                   intro v8 w8 hO8 hg8 hv8
                   obtain ⟨a8, L8, c8', rfl⟩ : ∃ a L c, v8 = .slice a L c := (by obtain ⟨a, cap, e, _⟩ := hO8.len; exact ⟨a, _, cap, e⟩)
                   have hown : c.own bi 9 = v6.ownBlock := by rw [← HV6.out]; rfl
                   have hq8 : w8.heap[c.q]? = w7.heap[c.q]? := hg8.block c.q h7.qlt (fun e => by have := h7.sep.one 0 9 c.q rfl (by rw [hown, ← e]); omega)
                   have hX8 := hX7.keep (hg8.block _ hX7.lt (fun e => hAX7.own 9 (by rw [hown, ← e])))
                   have f5 := (World.frozen?_of_block (w := w7) (a := ⟨c.q, 5, none⟩) hq8).trans (h7.free 5)
                   have hSS8 := And.intro ((World.cell?_of_block (w := w7) (a := ⟨c.q, 5, none⟩) hq8).trans hSS7.1) (And.intro hX8.c0 (And.intro hX8.c1 (And.intro hX8.c2 hX8.c3)))
                   obtain ⟨h9, s9⟩ := h7.setW hO8 (by rw [HV6.out]; exact hg8) (by rw [HV6.out]; exact hv8.imp id (fun e g hg => by rw [e] at hg; cases hg; exact Nat.le_refl _)) (fun z hz => (List.mem_append.1 hz).elim (fun hz => h7.ok.W z hz) (fun hz => by obtain rfl := List.mem_singleton.1 hz; exact ⟨hyo.n, hyo.q, hyo.a⟩))
                   refine hK _ _ (fun _ => hSS8) ?_
                   clear hK K hSS hSS7
                   have hSS := hSS8
                   refine wpAnyD_one (i := 8) (by kernel_rfl) rfl (fun K hK => ?_)
                   go_simp
                   refine hK _ _ (fun _ => hSS) ?_
                   clear hK K
                   refine wpAnyD_one (i := 9) (by kernel_rfl) rfl (fun K hK => ?_)
                   go_simp
                   refine hK _ _ (fun _ => hSS) ?_
                   clear hK K
                   refine wpAnyD_one (i := 10) (by kernel_rfl) rfl (fun K hK => ?_)
                   go_simp
                   refine hK _ _ (fun e => absurd e (by decide)) ?_
                   clear hK K
                   refine wpAnyD_done (by kernel_rfl) ?_ _
                   have hsd9 := hsd7.stp s9
                   have hold9 := hold7.keep fun g hg _ => s9.keep (hA7 g hg)
                   have hA9 := fun g hg => (hA7 g hg).step s9
                   have S9 := S7.trans s9
                   obtain ⟨w9, HW9⟩ : ∃ w9, Hid (w9 = w8.setCell ⟨c.q, 5, none⟩ (.slice a8 L8 c8')) := ⟨_, rfl⟩
                   rw [← HW9.out] at h9 hsd9 hold9 hA9 S9 ⊢
                   clear hSS hSS8 f5 hX8 hq8
                   go_wp2_with fail
                   go_roundg (G - 1)
                   case rel => exact ⟨i + 1, by have := HG.out; omega, by go_num, ⟨X, KW ++ [y], di, li, _, HLK2.out, by first | omega | (simp; omega), by first | omega | (simp; omega), hsd9, h9, S9, hdn, hold9, hA9⟩⟩
                   case measure => have := HG.out; omega
                   skip)
    · obtain rfl : i = N := by omega
      have hlk' : Hid (d.look c.k d.W m = (X.map NtX.n, KW, di, li)) := by
        show _ = _
        rw [hlk, List.drop_of_length_le (by rw [HN.out]; exact Nat.le_refl _)]
        simp [Det.look]
      obtain ⟨a5, L5, c5, e5⟩ : ∃ a L cc, u5 = .slice a L cc := (by obtain ⟨a, cap, e, _⟩ := hsd.row.len; exact ⟨a, _, cap, e⟩)
      subst e5
      go_wp2_with fail
      go_ret
      unfold Det.lookAfter
      rw [hlk'.out]
      first
        | exact ⟨_, rfl, X, bi, hsd, rfl, hdi, hst⟩
        | exact ⟨_, X, bi, rfl, hsd, rfl, hdi, hst⟩
end
end Go.Proofs.YtpoofjnfaijjjaaGreatDoor.Fx
