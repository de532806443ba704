/-
  The reference's say.
-/
import Derived.Test.YtpoofjnfaijjjaaGreatDoorMFSm
namespace Go.Proofs.YtpoofjnfaijjjaaGreatDoor.Fx
open Go.RowKit Go.Proofs.YtpoofjnfaijjjaaGreatDoor Go.Proofs.YtpoofjnfaijjjaaGreatDoor.Ro
section
variable {c : Rc} {b : Rw} {d : Det} {m : List Int} {w : World}
set_option maxRecDepth 100000 in
set_option maxHeartbeats 4000000 in
theorem fsay_any (h : Ry c b d m w) (K F T Q O : Int) :
    Calls Tryz.prog 51 #[.pointer (some ⟨c.q, 0, none⟩), .agg (ntC K F T Q O (.slice none 0 0))] w fun e w' => ∃ v', e = .returned (.agg (ntC K c.k T Q O v')) ∧ Ro.Own w.heap.size v' (d.news c.k T) w' ∧ ∃ b', Ry c b' (d.told c.k T) m w' ∧ Sr c b w b' w' ∧ b'.vw = b.vw ∧ ∀ g, v'.ownBlock = some g → Off c b' w' g := by
  have bB : Below w.heap.size w ((w.alloc (.cells (ntC K F T Q O (.slice none 0 0)) 52)).alloc (.cells (ntC 0 0 0 0 0 (.slice none 0 0)) 52)) := bA (below_alloc _ _) _
  have hN : Bn w.heap.size K F T Q O (.slice none 0 0) ((w.alloc (.cells (ntC K F T Q O (.slice none 0 0)) 52)).alloc (.cells (ntC 0 0 0 0 0 (.slice none 0 0)) 52)) := (Bn.new _ _ _ _ _ _ _).below (below_alloc _ _)
  have hZ : Bn (w.heap.size + 1) 0 0 0 0 0 (.slice none 0 0) ((w.alloc (.cells (ntC K F T Q O (.slice none 0 0)) 52)).alloc (.cells (ntC 0 0 0 0 0 (.slice none 0 0)) 52)) := by
    have := Bn.new 0 0 0 0 0 (.slice none 0 0) (w.alloc (.cells (ntC K F T Q O (.slice none 0 0)) 52))
    rwa [show (w.alloc (.cells (ntC K F T Q O (.slice none 0 0)) 52)).heap.size = w.heap.size + 1 from by simp] at this
  obtain ⟨wB, HWB⟩ : ∃ wB, Hid (wB = (w.alloc (.cells (ntC K F T Q O (.slice none 0 0)) 52)).alloc (.cells (ntC 0 0 0 0 0 (.slice none 0 0)) 52)) := ⟨_, rfl⟩
  rw [← HWB.out] at bB hN hZ
  have hgt := fun w' (h' : Ry c b d m w') => fget_any h' T
  have hmi := fun w' (h' : Ry c b d m w') => fmine_any h'
  obtain ⟨P, HP⟩ : ∃ P, Hid (d.pre c.k T = P) := ⟨_, rfl⟩
  unfold Det.news Det.told
  rw [HP.out]
  have HP' : Hid (P = if (getS d.f T).isSome = true ∧ ((ud (getS d.f T)).s = 1 ∨ (ud (getS d.f T)).s = 3) then [ud (d.f c.k), ud (getS d.f T)] else [ud (d.f c.k)]) := HP.out.symm
  clear HP
  generalize (getS d.f T).isSome = sm at *
  generalize ud (getS d.f T) = y at *
  generalize ud (d.f c.k) = me at *
  have x1 := hN.c1
  have f1 := hN.free 1
  have c0 := (h.below bB).c0
  have hN2 := hN.set1 c.k
  have hZ2 := hZ.other (a := ⟨w.heap.size, 1, none⟩) (by simp) (.int .i64 c.k)
  have hB2 := bS bB (Nat.le_refl _) 1 (.int .i64 c.k)
  obtain ⟨w2, HW2⟩ : ∃ w2, Hid (w2 = wB.setCell ⟨w.heap.size, 1, none⟩ (.int .i64 c.k)) := ⟨_, rfl⟩
  rw [← HW2.out] at hN2 hZ2 hB2
  go_enter Tryz.func51, Tryz.ntmps51
  go_upto_region 1 with fail
  rw [← HWB.out]
  have c1 := (h.below hB2).c1
  go_upto_region 2 with fail
  rw [← HW2.out]
  clear x1 f1 hN hZ bB c0
  go_wp2_with fail
  refine (hmi _ (h.below hB2)).mono ?_
  rintro e w3 ⟨rfl, hb3⟩
  have hN3 := hN2.below hb3
  have hZ3 := hZ2.below hb3
  have hB3 := bT hB2 hb3
  clear hN2 hZ2 hB2 hb3 c1
  have bM := below_alloc w3 (.cells #[.int .i64 me.n, .int .u64 me.i, .int .i64 me.s] 39)
  have hM := Bx.new 39 me.n me.i me.s w3
  have hN4 := (hN3.below bM).set5 (.slice (some ⟨w3.heap.size, 0, none⟩) 1 1)
  have hz3 : Hid (w.heap.size < w3.heap.size) := hN3.lt
  have hO4 : Ro.Own w.heap.size (.slice (some ⟨w3.heap.size, 0, none⟩) 1 1) [me] ((w3.alloc (.cells #[.int .i64 me.n, .int .u64 me.i, .int .i64 me.s] 39)).setCell ⟨w.heap.size, 5, none⟩ (.slice (some ⟨w3.heap.size, 0, none⟩) 1 1)) :=
    (own_one hM (Nat.le_of_lt hz3)).keep fun g hg _ => by cases hg; exact Below.heap_setCell _ _ _ _ (show w3.heap.size ≠ w.heap.size from Nat.ne_of_gt hz3)
  have hZ4 := (hZ3.below bM).other (a := ⟨w.heap.size, 5, none⟩) (by simp) (.slice (some ⟨w3.heap.size, 0, none⟩) 1 1)
  have hB4 := bS (bT hB3 bM) (Nat.le_refl _) 5 (.slice (some ⟨w3.heap.size, 0, none⟩) 1 1)
  have x5 := (hN3.below bM).c5
  have f5 := (hN3.below bM).free 5
  obtain ⟨w4, HW4⟩ : ∃ w4, Hid (w4 = (w3.alloc (.cells #[.int .i64 me.n, .int .u64 me.i, .int .i64 me.s] 39)).setCell ⟨w.heap.size, 5, none⟩ (.slice (some ⟨w3.heap.size, 0, none⟩) 1 1)) := ⟨_, rfl⟩
  rw [← HW4.out] at hN4 hO4 hZ4 hB4
  go_upto_region 3 with fail
  rw [← HW4.out]
  have hz4 : Hid (w.heap.size + 1 < w3.heap.size) := hZ3.lt
  have hvb : ∀ g, (Value.slice (some ⟨w3.heap.size, 0, none⟩) 1 1).ownBlock = some g → w.heap.size + 1 < g := fun g hg => by cases hg; exact hz4
  clear x5 f5 hM bM hN3 hZ3 hB3
  generalize w3.heap.size = g3 at *
  have hold : ∀ w', Below w4.heap.size w4 w' → Below w4.heap.size w4 w' ∧ w'.cell? ⟨c.q, 1, none⟩ = some (.pointer (some ⟨c.r, 0, none⟩)) ∧ w'.cell? ⟨w.heap.size, 2, none⟩ = some (.int .i64 T) := fun w' hb => ⟨hb, (h.below (bT hB4 hb)).c1, (hN4.below hb).c2⟩
  have hE0 : Below w4.heap.size w4 w4 := Below.refl _ _
  have hE1 : Below w4.heap.size w4 w4.drew := bD hE0
  go_cut [5, 6] from 19 to 28 (fun t5 t6 wx => ∃ gy : Nat, t5 = .pointer (some ⟨gy, 0, none⟩) ∧ t6 = .bool sm ∧ Bx 39 gy y.n y.i y.s wx ∧ Below w4.heap.size w4 wx ∧ w4.heap.size ≤ gy)
  case first =>
    go_region_held3 (fun w' => Below w4.heap.size w4 w' ∧ w'.cell? ⟨c.q, 1, none⟩ = some (.pointer (some ⟨c.r, 0, none⟩)) ∧ w'.cell? ⟨w.heap.size, 2, none⟩ = some (.int .i64 T)) ((refine hold _ ?_; (first | assumption | (refine bD (bA ?_ _); assumption) | (refine bA ?_ _; assumption) | (refine bS3 ?_ (Nat.le_refl _) _ _ _; assumption) | (refine bS3 (bA ?_ _) (Below.size (by assumption)) _ _ _; assumption)))) ((first
      | (go_at_call 55; refine (hgt _ (by first | exact (h.below (bT hB4 hE1)) | exact (h.below (bT hB4 (bD (bA hE0 _)))))).mono ?_; rintro e w5 ⟨rfl, hb5⟩; (first | have hE2 := bT hE1 hb5 | (have hE2 := bT (bD (bA hE0 _)) hb5; have hC := (Bx.new 39 0 0 0 w4).drew.below hb5; have z0 := hC.c0; have z1 := hC.c1; have z2 := hC.c2; have e0 := hC.free 0; have e1 := hC.free 1; have e2 := hC.free 2)))))
    all_goals
      rename_i hH
      obtain ⟨hE3, _, _⟩ := hH
      (first | have hY := hC.set y.n y.i y.s | have hY := Bx.new 39 y.n y.i y.s w5)
      have hgy := hE2.size
      go_wp2_with fail
      go_meet
      exact ⟨_, rfl, rfl, hY, hE3, by first | exact Nat.le_refl _ | exact hgy⟩
  case rest =>
  obtain ⟨gy, rfl, rfl, hY, hE5, hgy⟩ := hcut
  have hN5 := hN4.below hE5
  have hZ5 := hZ4.below hE5
  have hO5 := hO4.below hE5
  have hB5 := bT hB4 hE5
  have y0 := hY.c0
  have y1 := hY.c1
  have y2 := hY.c2
  clear hN4 hZ4 hO4 hB4 hold hE0 hE1 hE5 hgy HW4
  generalize wc = w5 at *
  obtain ⟨C, HC⟩ : ∃ C : Bool, Hid ((sm && ((y.s == 1) || (y.s == 3))) = C) := ⟨_, rfl⟩
  have HPC : Hid (P = if C = true then [me, y] else [me]) := by
    show _ = _
    rw [HP'.out, ← HC.out]
    simp
  clear HP'
  go_upto_region 4 with fail
  go_cut [39] from 29 to 38 (fun t37 wx => t37 = .bool C ∧ wx = w5)
  case first =>
    cases sm
    case false =>
      go_wp2_with fail
      go_meet
      exact ⟨by rw [← HC.out]; rfl, rfl⟩
    case true =>
      cases h1 : (y.s == 1) <;> cases h3 : (y.s == 3)
      all_goals
        have H1 : Hid ((y.s == 1) = _) := h1
        have H3 : Hid ((y.s == 3) = _) := h3
        go_wp2_with fail
        go_meet
        exact ⟨by rw [← HC.out, H1.out, H3.out]; rfl, rfl⟩
  case rest =>
  obtain ⟨rfl, hw5⟩ := hcut
  subst hw5
  clear HC
  go_upto_if 39 with fail
  go_cut [] from 40 to 45 (fun wx => ∃ v, Bn w.heap.size K c.k T Q O v wx ∧ Bn (w.heap.size + 1) 0 0 0 0 0 (.slice none 0 0) wx ∧ Ro.Own w.heap.size v P wx ∧ (∀ g, v.ownBlock = some g → w.heap.size + 1 < g) ∧ Below w.heap.size w wx)
  case first =>
    cases C
    case false =>
      obtain rfl : P = [me] := HPC.out
      go_wp2_with fail
      go_meet
      exact ⟨_, hN5, hZ5, hO5, hvb, hB5⟩
    case true =>
      obtain rfl : P = [me, y] := HPC.out
      have bY := below_alloc wc (.cells #[.int .i64 y.n, .int .u64 y.i, .int .i64 y.s] 39)
      have hR := Ru.one (Bx.new 39 y.n y.i y.s wc)
      have hN6 := hN5.below bY
      have hZ6 := hZ5.below bY
      have hO6 := hO5.below bY
      have hB6 := bT hB5 bY
      have hsz := hB6.size
      have x5 := hN5.c5
      obtain ⟨w6, HW6⟩ : ∃ w6, Hid (w6 = wc.alloc (.cells #[.int .i64 y.n, .int .u64 y.i, .int .i64 y.s] 39)) := ⟨_, rfl⟩
      rw [← HW6.out] at hR hN6 hZ6 hO6 hB6 hsz
      clear hN5 hZ5 hO5 hB5 bY
      go_upto_region 5 with fail
      go_wp2_with (at_builtin; go_must (rw [← HW6.out]; refine wpList_app _ rfl (.tmp 41) (.tmp 43) rfl w.heap.size _ [me] rfl hO6 hsz wc.heap.size 0 1 [y] 1 rfl rfl hR (by simp) ?_; intro v' w' h1 h3 h4; have h1' := h1; obtain ⟨a', cap', rfl, _⟩ := h1'.ru; have hN7 := hN6.grown h3 (fun e => by have e' : g3 = w.heap.size := Option.some.inj e; have : w.heap.size + 1 < g3 := hvb g3 rfl; omega); have f5 := hN7.free 5; have x5 := hN7.c5))
      go_meet
      have hg3 : w.heap.size + 1 < g3 := hvb g3 rfl
      have hZ7 := hZ6.grown h3 (fun e => by have e' : g3 = w.heap.size + 1 := Option.some.inj e; omega)
      have hv7 : ∀ g, (Value.slice a' ([me] ++ [y]).length cap').ownBlock = some g → w.heap.size + 1 < g := fun g hg => by
        rcases h4 with h4 | h4
        · rw [hg] at h4; cases h4; exact hg3
        · rw [hg] at h4; cases h4; have := hZ6.lt; omega
      refine ⟨_, hN7.set5 _, hZ7.other (by simp) _, h1.keep fun g hg _ => Below.heap_setCell _ _ _ _ (show g ≠ w.heap.size from fun e => by have := hv7 g hg; omega), hv7, bS (bG hB6 h3 fun g hg => by cases hg; show w.heap.size ≤ g3; omega) (Nat.le_refl _) _ _⟩
  case rest =>
  obtain ⟨v, hN6, hZ6, hO6, hv6, hB6⟩ := hcut
  have x5 := hN6.c5
  have f5 := hN6.free 5
  have hPl : 1 ≤ P.length ∧ P.length ≤ 2 := by
    rw [HPC.out]
    cases C <;> simp
  have hO6' := hO6.ru
  obtain ⟨av, vcap, rfl, _⟩ := hO6'
  have hwr : IntKind.i64.wrap (8 - (P.length : Int)) = ((8 - P.length : Nat) : Int) := by rw [IntKind.wrap_i64]; omega
  have hmn := fun w' (h' : Ry c b d m w') => fmany_any h'
  have htk := fun w' (h' : Ry c b d m w') => ftake_any h' (8 - P.length)
  have c2 := (h.below hB6).c2
  have hUl : ((d.Q.take (8 - P.length)).map Ru.updOf).length ≤ 8 := by rw [List.length_map, List.length_take]; omega
  obtain ⟨U, HU⟩ : ∃ U, Hid ((d.Q.take (8 - P.length)).map Ru.updOf = U) := ⟨_, rfl⟩
  simp only [HU.out] at htk hUl
  go_upto_region 6 with fail
  go_region_law (first
    | (refine step_call (by rfl) 95 [.tmp 56] #[27] (by rfl) [.pointer (some ⟨c.q, 0, none⟩)] (enter_of Tryz.func95 (by kernel_rfl) rfl) (by rfl) (hmn _ (h.below (bD hB6))) ?_
       rintro e w7 ⟨rfl, hb7⟩
       refine ⟨_, rfl, ?_⟩
       have hN7 := hN6.drew.below hb7
       have hZ7 := hZ6.drew.below hb7
       have hO7 := (hO6.keep (w' := wc.drew) fun _ _ _ => rfl).below hb7
       have hB7 := bT (bD hB6) hb7
       have x5 := hN7.c5
       have c2 := (h.below hB7).c2)
    | (refine step_call (by rfl) 99 [.tmp 51, .tmp 55, .tmp 57] #[57, 3, 3] (by rfl) [.pointer (some ⟨c.qq, 0, none⟩), .int .i64 ((8 - P.length : Nat) : Int), .int .i64 d.many] (enter_of Tryz.func99 (by kernel_rfl) rfl) (by rfl) (htk _ (h.below hB7)) ?_
       rintro e w8 ⟨⟨u8, rfl, hU⟩, b8, h8, s8, u8'⟩
       refine ⟨_, rfl, ?_⟩
       have hA0 : Off c b w7 w.heap.size := h.off (Nat.le_refl _) hN7.lt
       have hA1 : Off c b w7 (w.heap.size + 1) := h.off (Nat.le_succ _) hZ7.lt
       have hN8 := hN7.keep (s8.keep hA0)
       have hZ8 := hZ7.keep (s8.keep hA1)
       have hO8 := hO7.keep fun g hg hlt => s8.keep (h.off (by have := hv6 g hg; omega) hlt)
       have hA08 := hA0.step s8
       have hA18 := hA1.step s8
       have hAv8 : ∀ g, (Value.slice av P.length vcap).ownBlock = some g → Off c b8 w8 g := fun g hg => (h.off (w' := w7) (by have := hv6 g hg; omega) (hO7.lt g hg).2).step s8
       have S8 : Sr c b w b8 w8 := (Sr.of hB7).trans s8
       have hs8 := S8.size
       have x5 := hN8.c5)
    | (refine step_app2 _ (by rfl) (.tmp 47) (.tmp 58) (by rfl) w.heap.size w7.heap.size _ _ P U (by rfl) hO8 hs8 (by rfl) hU (by omega) ?_
       intro v9 w9 hO9 hg9 hv9
       obtain ⟨a9, L9, c9, rfl⟩ : ∃ a9 L9 c9, v9 = .slice a9 L9 c9 := (by obtain ⟨a9, c9, e, _⟩ := id hO9.ru; exact ⟨a9, _, c9, e⟩)
       have hn9 : (Value.slice av P.length vcap).ownBlock ≠ some w.heap.size := fun e => by have := hv6 _ e; omega
       have hz9 : (Value.slice av P.length vcap).ownBlock ≠ some (w.heap.size + 1) := fun e => by have := hv6 _ e; omega
       have hN9 := hN8.grown hg9 hn9
       have hZ9 := hZ8.grown hg9 hz9
       have x5 := hN9.c5
       have f5 := hN9.free 5))
  all_goals
    have hv9' : ∀ g, (Value.slice a9 L9 c9).ownBlock = some g → w.heap.size + 1 < g := fun g hg => by
      rcases hv9 with e | e
      · rw [hg] at e; exact hv6 g e.symm
      · rw [hg] at e; cases e; exact hZ8.lt
    have hA9 : ∀ g, (Value.slice a9 L9 c9).ownBlock = some g → g ≠ c.y ∧ (∀ i, c.own b8 i ≠ some g) ∧ c.w0.heap.size ≤ g := fun g hg => by
      rcases hv9 with e | e
      · have a := hAv8 g (e.symm.trans hg)
        exact ⟨a.y, a.own, a.lo⟩
      · have a := h8.off (w' := w9) (g := g) (by rw [e] at hg; cases hg; exact Nat.le_refl _) (hO9.lt g hg).2
        exact ⟨a.y, a.own, a.lo⟩
    have hN10 := hN9.set5 (.slice a9 L9 c9)
    have hZ10 := hZ9.other (a := ⟨w.heap.size, 5, none⟩) (by simp) (.slice a9 L9 c9)
    have hO10 : Ro.Own w.heap.size (.slice a9 L9 c9) (P ++ U) (w9.setCell ⟨w.heap.size, 5, none⟩ (.slice a9 L9 c9)) := hO9.keep fun g hg _ => Below.heap_setCell _ _ _ _ (show g ≠ w.heap.size from fun e => by have := hv9' g hg; omega)
    have hP9 : Ap c b8 w8 w9 := (Ap.refl c b8 w8).grown hg9 fun g e => .inl (hAv8 g e)
    have hP10 := hP9.set (Or.inl hA08) 5 (.slice a9 L9 c9)
    have hQ9 : Below w.heap.size w8 w9 := ⟨hg9.os, hg9.tape, hg9.output, hg9.size, fun i hi => hg9.block i (Nat.lt_of_lt_of_le hi hs8) (fun e => by have := hv6 i e.symm; omega)⟩
    have hQ10 := hQ9.setCell (p := ⟨w.heap.size, 5, none⟩) (Nat.le_refl _) (.slice a9 L9 c9)
    clear hQ9 hP9 hO9 hN9 hZ9 hg9 hN8 hZ8 hO8 hv9 x5 f5
    generalize w9.setCell ⟨w.heap.size, 5, none⟩ (.slice a9 L9 c9) = w10 at *
    have hend := hZ10.set6 K c.k T Q O (.slice a9 L9 c9)
    have hQ11 := below_set6 hQ10 (Nat.le_succ w.heap.size) (.int .i64 K) (.int .i64 c.k) (.int .i64 T) (.int .u64 Q) (.int .i64 O) (.slice a9 L9 c9)
    have hP11 := (((((hP10.set (Or.inl hA18) 0 (.int .i64 K)).set (Or.inl hA18) 1 (.int .i64 c.k)).set (Or.inl hA18) 2 (.int .i64 T)).set (Or.inl hA18) 3 (.int .u64 Q)).set (Or.inl hA18) 4 (.int .i64 O)).set (Or.inl hA18) 5 (.slice a9 L9 c9)
    have hR11 : Ro.Own w.heap.size (.slice a9 L9 c9) (P ++ U) ((((((w10.setCell ⟨w.heap.size + 1, 0, none⟩ (.int .i64 K)).setCell ⟨w.heap.size + 1, 1, none⟩ (.int .i64 c.k)).setCell ⟨w.heap.size + 1, 2, none⟩ (.int .i64 T)).setCell ⟨w.heap.size + 1, 3, none⟩ (.int .u64 Q)).setCell ⟨w.heap.size + 1, 4, none⟩ (.int .i64 O)).setCell ⟨w.heap.size + 1, 5, none⟩ (.slice a9 L9 c9)) :=
      hO10.keep fun g hg _ => by
        have := hv9' g hg
        have hne : g ≠ w.heap.size + 1 := by omega
        simp only [Below.heap_setCell _ _ _ _ (show g ≠ (⟨w.heap.size + 1, _, none⟩ : Addr).block from hne)]
    have q0 := hN10.c0
    have q1 := hN10.c1
    have q2 := hN10.c2
    have q3 := hN10.c3
    have q4 := hN10.c4
    have q5 := hN10.c5
    have r0 := hZ10.c0
    have r1 := hZ10.c1
    have r2 := hZ10.c2
    have r3 := hZ10.c3
    have r4 := hZ10.c4
    have r5 := hZ10.c5
    have g0 := hZ10.free 0
    have g1 := hZ10.free 1
    have g2 := hZ10.free 2
    have g3' := hZ10.free 3
    have g4 := hZ10.free 4
    have g5 := hZ10.free 5
    obtain ⟨w11, HW11⟩ : ∃ w11, Hid (w11 = (((((w10.setCell ⟨w.heap.size + 1, 0, none⟩ (.int .i64 K)).setCell ⟨w.heap.size + 1, 1, none⟩ (.int .i64 c.k)).setCell ⟨w.heap.size + 1, 2, none⟩ (.int .i64 T)).setCell ⟨w.heap.size + 1, 3, none⟩ (.int .u64 Q)).setCell ⟨w.heap.size + 1, 4, none⟩ (.int .i64 O)).setCell ⟨w.heap.size + 1, 5, none⟩ (.slice a9 L9 c9)) := ⟨_, rfl⟩
    rw [← HW11.out] at hend hQ11 hR11 hP11
    go_wp2_with fail
    rw [← HW11.out]
    clear q0 q1 q2 q3 q4 q5 r0 r1 r2 r3 r4 r5 g0 g1 g2 g3' g4 g5
    have r0 := hend.c0
    have r1 := hend.c1
    have r2 := hend.c2
    have r3 := hend.c3
    have r4 := hend.c4
    have r5 := hend.c5
    refine bodyPost_ret (v := .agg (ntC K c.k T Q O (.slice a9 L9 c9))) ?_ rfl ⟨_, rfl, (by rw [HU.out]; exact hR11), b8, h8.apart hP11, S8.high hQ11, u8', fun g hg => ⟨(hR11.lt g hg).2, (hA9 g hg).1, (hA9 g hg).2.1, (hA9 g hg).2.2⟩⟩
    rw [results_cell rfl]
    go_simp
end
end Go.Proofs.YtpoofjnfaijjjaaGreatDoor.Fx
