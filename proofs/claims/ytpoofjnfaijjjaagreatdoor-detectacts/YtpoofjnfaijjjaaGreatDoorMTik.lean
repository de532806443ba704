/-
  pingNext. Tick.
-/
import Derived.Test.YtpoofjnfaijjjaaGreatDoorMHeh
namespace Go.Proofs.YtpoofjnfaijjjaaGreatDoor
open Go.RowKit Go.Proofs.YtpoofjnfaijjjaaGreatDoor.Ro
section
variable {k Bp p : Nat} {b : Bl} {d : Det} {l : List Int} {w : World}
set_option maxRecDepth 100000 in
set_option maxHeartbeats 2000000 in
theorem pingnext_any (h : Sx k Bp p b d l w) (hWl : d.W.length ≤ 100000) :
    Calls Tryz.prog 45 #[.pointer (some ⟨b.q, 0, none⟩), .pointer (some ⟨p, 0, none⟩)] w fun e w' => ∃ v X b', e = .returned v ∧ Sd p b' w v X w' ∧ X.map NtX.n = (d.pingNext k l).1 ∧ Sx k Bp p b' (d.pingNext k l).2.1 (d.pingNext k l).2.2 w' ∧ Stp p b w b' w' := by
  have hS1 := h.dt.c0
  have hol := oth_len k d.f
  have hon := oth_nodup k d.f
  have hor : ∀ x ∈ othS k d.f, Nd x := fun x hx => oth_nd hx
  have hoth := fun w' hR hT => others_any b.r k d.f w' hR hT
  have hin := nxt_in (s := d.s) (o := othS k d.f) l
  obtain ⟨R, HR⟩ : ∃ R, Hid (d.pingNext k l = R) := ⟨_, rfl⟩
  rw [HR.out]
  have HR' : Hid (R = if (Rn.nxtS d.s (othS k d.f) l).1.2 = false then ([], { d with s := (Rn.nxtS d.s (othS k d.f) l).2.1 }, (Rn.nxtS d.s (othS k d.f) l).2.2)
    else ([({ d with s := (Rn.nxtS d.s (othS k d.f) l).2.1 } : Det).ping k (Rn.nxtS d.s (othS k d.f) l).1.1], { (({ d with s := (Rn.nxtS d.s (othS k d.f) l).2.1 } : Det).next).told k (Rn.nxtS d.s (othS k d.f) l).1.1 with W := d.W ++ [⟨(Rn.nxtS d.s (othS k d.f) l).1.1, u64w (d.la + 1), d.no, false⟩] }, (Rn.nxtS d.s (othS k d.f) l).2.2)) := HR.out.symm
  clear HR
  generalize othS k d.f = o at *
  have hnext := fun (w' : World) (h' : Sx k Bp p b d l w') v hv hvo => nextd_any h' v o hol hon hor hv hvo
  generalize (Rn.nxtS d.s o l).1.1 = x at *
  generalize (Rn.nxtS d.s o l).1.2 = is at *
  generalize (Rn.nxtS d.s o l).2.1 = s' at *
  generalize (Rn.nxtS d.s o l).2.2 = l' at *
  go_enter Tryz.func45, Tryz.ntmps45
  go_upto_region 1 with fail
  go_region_held3 (fun w' => w'.cell? ⟨b.q, 0, none⟩ = some (.pointer (some ⟨b.r, 0, none⟩))) (first | exact hS1 | exact hS2 | exact hS3) ((first
    | (go_at_call 88; refine (hoth _ h.drew.dt.roll h.drew.dt.tab).mono ?_; rintro e w2 ⟨⟨vo, rfl, hro, hgo⟩, hb2⟩; have h2 := h.drew.below hb2; have hS2 := h2.dt.c0)
    | (go_at_call 87; go_must (refine (hnext w2 h2 vo hro (fun g hg => by have q1 := hgo g hg; have q2 := h.dt.qlt; have q3 : w.drew.heap.size = w.heap.size := rfl; omega)).mono ?_; rintro e w3 ⟨rfl, b3, h3, s3, u3⟩; have hS3 : w3.cell? ⟨b.q, 0, none⟩ = some (.pointer (some ⟨b.r, 0, none⟩)) := (by have e3 := h3.dt.c0; rw [s3.q, s3.r] at e3; exact e3)))))
  have S3 : Stp p b w b3 w3 := ((Stp.refl p b w).drew.then hb2).trans s3
  clear h2 hS1 hS2 hS3 hb2 hro hgo s3 hoth hnext
  cases is
  case false =>
    rw [if_pos rfl] at HR'
    go_wp2_with fail
    go_ret
    rw [HR'.out]
    exact ⟨_, [], b3, rfl, Sd.nil _ _ _ _, rfl, h3, S3⟩
  case true =>
  rw [if_neg (by simp)] at HR'
  have hxn : Nd x := hor x (hin rfl)
  clear hin hor
  have hqq : b3.q = b.q := S3.q
  have hpi := ping_any h3 x
  rw [hqq] at hpi
  go_upto_region 4 with fail
  go_wp2_with fail
  refine hpi.mono ?_
  rintro e w4 ⟨v4, rfl, hO4, h4, s4⟩
  obtain ⟨a4, L4, c4, rfl⟩ : ∃ a L c, v4 = .slice a L c := (by obtain ⟨a, cap, e, _⟩ := hO4.ru; exact ⟨a, _, cap, e⟩)
  have S4 := S3.trans s4
  have hnw := news_away h3 hO4
  obtain ⟨y, HY⟩ : ∃ y, Hid (u64w (d.la + 1) = y) := ⟨_, rfl⟩
  have hyy : u64w (({ d with s := s' } : Det).la + 1) = y := HY.out
  have hyu : U64 y := by rw [← HY.out]; exact u64w_ok _
  unfold Det.ping at hO4
  rw [HY.out] at HR'
  have b5 := below_alloc w4 (.cells (ntC 1 k x y 0 (.slice a4 L4 c4)) 37)
  have hP := Bn.new 1 k x y 0 (.slice a4 L4 c4) w4
  have h5 := h4.below b5
  have hAP := h4.away (w' := w4.alloc (.cells (ntC 1 k x y 0 (.slice a4 L4 c4)) 37)) (Nat.le_refl _) hP.lt
  have S5 := S4.then b5
  obtain ⟨w5, HW5⟩ : ∃ w5, Hid (w5 = w4.alloc (.cells (ntC 1 k x y 0 (.slice a4 L4 c4)) 37)) := ⟨_, rfl⟩
  rw [← HW5.out] at hP h5 hAP S5
  go_upto_region 5 with fail
  unfold Det.ping
  rw [hyy, ← HW5.out]
  obtain ⟨N, HN⟩ : ∃ N, Hid (d.W.length = N) := ⟨_, rfl⟩
  obtain ⟨va, vcap, hve, hvc, _⟩ := h5.dt.ws.len
  have hve : b3.vw = .slice va N vcap := by rw [← HN.out]; exact hve
  have c5 : w5.cell? ⟨b.q, 4, none⟩ = some (.slice va N vcap) := by have := h5.dt.c4; rw [hqq, hve] at this; exact this
  have c7 : w5.cell? ⟨b.q, 7, none⟩ = some (.int .u64 d.no) := by have := h5.dt.c7; rw [hqq] at this; exact this
  have hOW : OwE encW 133 0 (.slice va N vcap) d.W w5 := by have := h5.dt.ws; rw [hve] at this; exact this
  have hbe := below_alloc w5 (.cells (cellsW ⟨x, y, d.no, false⟩) 133)
  have hBE := (BW.new ⟨x, y, d.no, false⟩ w5).drew
  have h6 := (h5.below hbe).drew
  have hP6 := (hP.below hbe).drew
  have hAP6 := (hAP.stp (Stp.of hbe)).drew
  have S6 := (S5.then hbe).drew
  have hOW6 : OwE encW 133 0 (.slice va N vcap) d.W (w5.alloc (.cells (cellsW ⟨x, y, d.no, false⟩) 133)).drew := (hOW.below hbe).keep fun _ _ _ => rfl
  obtain ⟨gp, HGP⟩ : ∃ gp, Hid (w4.heap.size = gp) := ⟨_, rfl⟩
  rw [HGP.out] at hP hAP hP6 hAP6 ⊢
  have hok : WchOk ⟨x, y, d.no, false⟩ := ⟨hxn, hyu, h.dt.ok.no⟩
  have hSS := And.intro c5 (And.intro hP.c3 c7)
  have c5' : (w5.alloc (.cells (cellsW ⟨x, y, d.no, false⟩) 133)).drew.cell? ⟨b.q, 4, none⟩ = some (.slice va N vcap) := by have := h6.dt.c4; rw [hqq, hve] at this; exact this
  have c7' : (w5.alloc (.cells (cellsW ⟨x, y, d.no, false⟩) 133)).drew.cell? ⟨b.q, 7, none⟩ = some (.int .u64 d.no) := by have := h6.dt.c7; rw [hqq] at this; exact this
  have hS6 := And.intro c5' (And.intro hP6.c3 c7')
  obtain ⟨w6, HW6⟩ : ∃ w6, Hid (w6 = (w5.alloc (.cells (cellsW ⟨x, y, d.no, false⟩) 133)).drew) := ⟨_, rfl⟩
  rw [← HW6.out] at hBE h6 hP6 hAP6 S6 hOW6 hS6
  have S46 : Stp p b3 w4 b3 w6 := by rw [HW6.out]; exact ((Stp.of (by rw [HW5.out]; exact below_alloc w4 _)).then hbe).drew
  have HB6 : Hid (RdE encW (.slice (some ⟨w5.heap.size, 0, none⟩) 1 1) [⟨x, y, d.no, false⟩] w6) := hBE.rd
  have HO6 : Hid (OwE encW 133 0 (.slice va N vcap) d.W w6) := hOW6
  have HS6 : Hid _ := hS6
  have HOK : Hid _ := hok
  have hWN : d.W.length ≤ 100000 := hWl
  clear hBE hOW hOW6 c5 c7 c5' c7' hbe hS6 b5 hok hyu
  refine wp_region_D (fun w' => w'.cell? ⟨b.q, 4, none⟩ = some (.slice va N vcap) ∧ w'.cell? ⟨gp, 3, none⟩ = some (.int .u64 y) ∧ w'.cell? ⟨b.q, 7, none⟩ = some (.int .u64 d.no)) (fun j => j == 17) (by kernel_rfl) ?_
  refine wpAnyD_take (i := 0) (v := .pointer (some ⟨b.q, 0, none⟩)) rfl (by kernel_rfl) (by kernel_rfl) (by kernel_rfl) (by kernel_rfl) (fun _ _ _ h => h) (Or.inl ⟨by rfl, ?_⟩) hSS ?_
  · intro w0 hw0
    clear hw0
    go_simp
  refine wpAnyD_take (i := 1) (v := .pointer (some ⟨b.q, 0, none⟩)) rfl (by kernel_rfl) (by kernel_rfl) (by kernel_rfl) (by kernel_rfl) (fun _ _ _ h => h) (Or.inl ⟨by rfl, ?_⟩) hSS ?_
  · intro w0 hw0
    clear hw0
    go_simp
  refine wpAnyD_take (i := 2) (v := .pointer (some ⟨b.q, 0, none⟩)) rfl (by kernel_rfl) (by kernel_rfl) (by kernel_rfl) (by kernel_rfl) (fun _ _ _ h => h) (Or.inl ⟨by rfl, ?_⟩) hSS ?_
  · intro w0 hw0
    clear hw0
    go_simp
  refine wpAnyD_take (i := 3) (v := .pointer (some ⟨b.q, 4, none⟩)) rfl (by kernel_rfl) (by kernel_rfl) (by kernel_rfl) (by kernel_rfl) (fun _ _ _ h => h) (Or.inl ⟨by rfl, ?_⟩) hSS ?_
  · intro w0 hw0
    clear hw0
    go_simp
  refine wpAnyD_take (i := 4) (v := .slice va N vcap) rfl (by kernel_rfl) (by kernel_rfl) (by kernel_rfl) (by kernel_rfl) (fun _ _ _ h => h) (Or.inl ⟨by rfl, ?_⟩) hSS ?_
  · intro w0 hw0
    obtain ⟨z0, z1, z2⟩ := hw0
    go_simp
  refine wpAnyD_take (i := 5) (v := .int .i64 x) rfl (by kernel_rfl) (by kernel_rfl) (by kernel_rfl) (by kernel_rfl) (fun _ _ _ h => h) (Or.inl ⟨by rfl, ?_⟩) hSS ?_
  · intro w0 hw0
    clear hw0
    go_simp
  refine wpAnyD_take (i := 6) (v := .pointer (some ⟨gp, 3, none⟩)) rfl (by kernel_rfl) (by kernel_rfl) (by kernel_rfl) (by kernel_rfl) (fun _ _ _ h => h) (Or.inl ⟨by rfl, ?_⟩) hSS ?_
  · intro w0 hw0
    clear hw0
    go_simp
  refine wpAnyD_take (i := 7) (v := .int .u64 y) rfl (by kernel_rfl) (by kernel_rfl) (by kernel_rfl) (by kernel_rfl) (fun _ _ _ h => h) (Or.inl ⟨by rfl, ?_⟩) hSS ?_
  · intro w0 hw0
    obtain ⟨z0, z1, z2⟩ := hw0
    go_simp
  refine wpAnyD_take (i := 8) (v := .pointer (some ⟨b.q, 0, none⟩)) rfl (by kernel_rfl) (by kernel_rfl) (by kernel_rfl) (by kernel_rfl) (fun _ _ _ h => h) (Or.inl ⟨by rfl, ?_⟩) hSS ?_
  · intro w0 hw0
    clear hw0
    go_simp
  refine wpAnyD_take (i := 9) (v := .pointer (some ⟨b.q, 0, none⟩)) rfl (by kernel_rfl) (by kernel_rfl) (by kernel_rfl) (by kernel_rfl) (fun _ _ _ h => h) (Or.inl ⟨by rfl, ?_⟩) hSS ?_
  · intro w0 hw0
    clear hw0
    go_simp
  refine wpAnyD_take (i := 10) (v := .pointer (some ⟨b.q, 7, none⟩)) rfl (by kernel_rfl) (by kernel_rfl) (by kernel_rfl) (by kernel_rfl) (fun _ _ _ h => h) (Or.inl ⟨by rfl, ?_⟩) hSS ?_
  · intro w0 hw0
    clear hw0
    go_simp
  refine wpAnyD_take (i := 11) (v := .int .u64 d.no) rfl (by kernel_rfl) (by kernel_rfl) (by kernel_rfl) (by kernel_rfl) (fun _ _ _ h => h) (Or.inl ⟨by rfl, ?_⟩) hSS ?_
  · intro w0 hw0
    obtain ⟨z0, z1, z2⟩ := hw0
    go_simp
  refine wpAnyD_take (i := 12) (v := .agg (cellsW ⟨x, y, d.no, false⟩)) rfl (by kernel_rfl) (by kernel_rfl) (by kernel_rfl) (by kernel_rfl) (fun _ _ _ h => h) (Or.inl ⟨by rfl, ?_⟩) hSS ?_
  · intro w0 hw0
    clear hw0
    go_simp
  refine wpAnyD_one (i := 13) (by kernel_rfl) rfl (fun K hK => ?_)
  go_simp
  rw [← HW6.out]
  refine hK _ _ (fun _ => HS6.out) ?_
  clear hK K
  refine wpAnyD_one (i := 14) (by kernel_rfl) rfl (fun K hK => ?_)
  refine step_appE Tryz.underlying91 Tryz.infoW (by decide) (by decide) w6 (by rfl) (.tmp 30) (.tmp 39) (by rfl) 0 (.slice va N vcap) d.W (by rfl) HO6.out (Nat.zero_le _) w5.heap.size 0 1 [⟨x, y, d.no, false⟩] 1 rfl (by rfl) HB6.out (by simp; omega) ?_
  intro v7 w7 hO7 hg7 hv7
  obtain ⟨a7, L7, c7, rfl⟩ : ∃ a L c, v7 = .slice a L c := (by obtain ⟨a, cap, e, _⟩ := hO7.len; exact ⟨a, _, cap, e⟩)
  have hown : b3.own 5 = (Value.slice va N vcap).ownBlock := by show b3.vw.ownBlock = _; rw [hve]
  have hq7 : w7.heap[b.q]? = w6.heap[b.q]? := hg7.block b.q (hqq ▸ h6.dt.qlt) (fun e => by have := h6.dt.sep.one 0 5 b.q (by show some b3.q = _; rw [hqq]) (by rw [hown, e]); omega)
  have c5 := (World.cell?_of_block (w := w6) (a := ⟨b.q, 4, none⟩) hq7).trans HS6.out.1
  have cN := (World.cell?_of_block (w := w6) (a := ⟨b.q, 7, none⟩) hq7).trans HS6.out.2.2
  have f5 := (World.frozen?_of_block (w := w6) (a := ⟨b.q, 4, none⟩) hq7).trans (hqq ▸ h6.dt.free 4)
  have hP7 := hP6.grown hg7 (fun e => hAP6.own 5 (hown.trans e))
  have hS7 := And.intro c5 (And.intro hP7.c3 cN)
  obtain ⟨h8, s8⟩ := h6.setW hO7 (by rw [hve]; exact hg7) (by rw [hve]; exact hv7.imp id (fun e g hg => by rw [e] at hg; cases hg; exact Nat.le_refl _))
    (fun x hx => (List.mem_append.1 hx).elim (fun hx => h6.dt.ok.W x hx) (fun hx => by obtain rfl := List.mem_singleton.1 hx; exact HOK.out))
  rw [hqq] at h8 s8
  refine hK _ _ (fun _ => hS7) ?_
  clear hK K hSS
  have hSS := hS7
  refine wpAnyD_one (i := 15) (by kernel_rfl) rfl (fun K hK => ?_)
  go_simp
  refine hK _ _ (fun _ => hSS) ?_
  clear hK K
  refine wpAnyD_one (i := 16) (by kernel_rfl) rfl (fun K hK => ?_)
  go_simp
  refine hK _ _ (fun _ => hSS) ?_
  clear hK K
  refine wpAnyD_one (i := 17) (by kernel_rfl) rfl (fun K hK => ?_)
  go_simp
  refine hK _ _ (fun e => absurd e (by decide)) ?_
  clear hK K hSS hS7
  refine wpAnyD_done (by kernel_rfl) ?_ _
  have hP8 := hP6.stp hAP6 s8
  have hO8 := hO4.keep fun g hg _ => (S46.trans s8).keep (hnw g hg)
  obtain ⟨w8, HW8⟩ : ∃ w8, Hid (w8 = w7.setCell ⟨b.q, 4, none⟩ (.slice a7 L7 c7)) := ⟨_, rfl⟩
  have hAN := fun g hg => (hnw g hg).stp (S46.trans s8)
  have S8 := S6.trans s8
  rw [← HW8.out] at hP8 hO8 h8 hAN S8 ⊢
  clear c5 cN f5 hP7 hO7 hg7 hv7 s8
  have p0 := hP8.c0
  have p1 := hP8.c1
  have p2 := hP8.c2
  have p3 := hP8.c3
  have p4 := hP8.c4
  have p5 := hP8.c5
  have hz8 : w.heap.size ≤ w3.heap.size := S3.size
  have b9 := below_alloc w8 (.cells (ntC 1 k x y 0 (.slice a4 L4 c4)) 37)
  have hsd := Sd.one (w0 := w) (n := ⟨1, k, x, y, 0, ({ d with s := s' } : Det).news k x⟩) h8 S8.size (Ro.Own.mono hO8 hz8) hAN
  go_wp2_with fail
  go_ret
  rw [HR'.out]
  exact ⟨_, rfl, _, _, hsd, (by unfold Det.ping; show [_] = [_]; rw [hyy]), h8.below b9, S8.then b9⟩
end
section
variable {k Bp p : Nat} {b : Bl} {d : Det} {l : List Int} {w : World}
theorem look_len (k : Nat) : ∀ (L : List Wch) (d : Det) (l : List Int), (d.look k L l).1.length ≤ 64 * L.length
  | [], _, _ => Nat.zero_le _
  | w :: r, d, l => by
    rw [Det.look]
    split
    · have := look_len k r (d.miss k w.n l).1 (d.miss k w.n l).2
      rw [List.length_cons]
      omega
    · split
      · have h1 := (ask_W k d w l).2.2.2
        have h2 := look_len k r (d.ask k w l).2.1 (d.ask k w l).2.2
        rw [List.length_append, List.length_cons]
        omega
      · have := look_len k r d l
        rw [List.length_cons]
        dsimp only
        omega
theorem pingNext_len (k : Nat) (d : Det) (l : List Int) : (d.pingNext k l).1.length ≤ 1 := by
  unfold Det.pingNext
  split
  · exact Nat.zero_le _
  · exact Nat.le_refl _
theorem tick_left (h : Sx k Bp p b d l w) (hle : d.le = true) :
    Calls Tryz.prog 13 #[.pointer (some ⟨b.q, 0, none⟩), .pointer (some ⟨p, 0, none⟩)] w fun e w' => e = .returned (.slice none 0 0) ∧ Below w.heap.size w w' := by
  have ba := below_alloc w (.cells #[.pointer (some ⟨b.q, 0, none⟩)] 25)
  have n0 : (w.alloc (.cells #[.pointer (some ⟨b.q, 0, none⟩)] 25)).cell? ⟨w.heap.size, 0, none⟩ = some (.pointer (some ⟨b.q, 0, none⟩)) := box_cell _ _ _
  have c8 := (h.below ba).dt.c8
  rw [hle] at c8
  go_enter Tryz.func13, Tryz.ntmps13
  go_wp2_with fail
  go_ret
  exact ⟨rfl, ba⟩
set_option maxRecDepth 100000 in
set_option maxHeartbeats 4000000 in
theorem tick_any (h : Sx k Bp p b d l w) (hWl : d.W.length ≤ 500) :
    Calls Tryz.prog 13 #[.pointer (some ⟨b.q, 0, none⟩), .pointer (some ⟨p, 0, none⟩)] w fun e w' => ∃ v X b', e = .returned v ∧ Sd p b' w v X w' ∧ X.map NtX.n = (d.tick k l).1 ∧ Sx k Bp p b' (d.tick k l).2.1 (d.tick k l).2.2 w' ∧ Stp p b w b' w' := by
  by_cases hle : d.le = true
  · unfold Det.tick
    rw [if_pos hle]
    refine (tick_left h hle).mono ?_
    rintro e w' ⟨rfl, hb⟩
    exact ⟨_, [], b, rfl, Sd.nil _ _ _ _, rfl, h.below hb, Stp.of hb⟩
  have hle' : d.le = false := by simpa using hle
  have ba := below_alloc w (.cells #[.pointer (some ⟨b.q, 0, none⟩)] 25)
  have n0 : (w.alloc (.cells #[.pointer (some ⟨b.q, 0, none⟩)] 25)).cell? ⟨w.heap.size, 0, none⟩ = some (.pointer (some ⟨b.q, 0, none⟩)) := box_cell _ _ _
  have h1 := h.below ba
  have hA1 := h.away (w' := w.alloc (.cells #[.pointer (some ⟨b.q, 0, none⟩)] 25)) (Nat.le_refl _) (World.block_lt_of_cell? _ _ n0)
  have S1 : Stp p b w b _ := Stp.of ba
  obtain ⟨g, HG⟩ : ∃ g, Hid (w.heap.size = g) := ⟨_, rfl⟩
  obtain ⟨w1, HW1⟩ : ∃ w1, Hid (w1 = w.alloc (.cells #[.pointer (some ⟨b.q, 0, none⟩)] 25)) := ⟨_, rfl⟩
  rw [← HW1.out] at ba n0 h1 hA1 S1
  rw [HG.out] at n0 hA1
  have hpg : p < g := by rw [← HG.out]; exact h.lots.lt
  obtain ⟨R, HR⟩ : ∃ R, Hid (d.tick k l = R) := ⟨_, rfl⟩
  rw [HR.out]
  have HR1 := HR
  unfold Det.tick at HR1
  rw [if_neg hle] at HR1
  dsimp only at HR1
  have c8 := h1.dt.c8
  have c7 := h1.dt.c7
  have f7 := h1.dt.free 7
  rw [hle'] at c8
  obtain ⟨y, HY⟩ : ∃ y, Hid (u64w (d.no + 1) = y) := ⟨_, rfl⟩
  rw [HY.out] at HR1
  have hyy : IntKind.u64.wrap (d.no + 1) = y := HY.out
  have hy2 : (d.no + 1) % 18446744073709551616 = y := by rw [← IntKind.wrap_u64]; exact hyy
  have hyu : U64 y := by rw [← HY.out]; exact u64w_ok _
  have hok := h.dt.ok
  obtain ⟨h2, s2⟩ := h1.setN (d' := { d with no := y }) 7 (.int .u64 y) (by simp [Bl.cells]) ⟨hok.k64, hok.inv, hok.qi, hok.ql, hok.di, hok.s1, hok.s2, hok.W, hok.E, hok.el, hok.la, hyu⟩ rfl rfl rfl rfl rfl rfl
  have hA2 := hA1.stp s2
  have n2 := (World.cell?_of_block (w := w1) (a := ⟨g, 0, none⟩) (s2.keep hA1)).trans n0
  obtain ⟨w2, HW2⟩ : ∃ w2, Hid (w2 = w1.setCell ⟨b.q, 7, none⟩ (.int .u64 y)) := ⟨_, rfl⟩
  rw [← HW2.out] at h2 s2 hA2 n2
  have S2 := S1.trans s2
  have hlk := look_any h2 (Nat.le_trans hWl (by decide))
  obtain ⟨L, HL⟩ : ∃ L, Hid (({ d with no := y } : Det).lookAfter k l = L) := ⟨_, rfl⟩
  have hWL : L.2.1.W.length ≤ 500 := by
    have := (look_fr k d.W ({ d with no := y } : Det) l).2.2.2.2.2
    rw [← HL.out]
    exact Nat.le_trans this hWl
  rw [HL.out] at hlk HR1
  have hLl : L.1.length ≤ 100000 := by
    rw [← HL.out]
    refine Nat.le_trans (look_len k d.W ({ d with no := y } : Det) l) ?_
    omega
  obtain ⟨L1, L2, L3⟩ := L
  dsimp only at hlk HR1 hWL hLl
  go_enter Tryz.func13, Tryz.ntmps13
  go_upto_region 1 with fail
  rw [HG.out, ← HW1.out]
  go_upto_region 4 with fail
  rw [← HW2.out]
  clear n0 c8 c7 f7
  go_upto_region 5 with (go_at_call 39; go_must (refine hlk.mono ?_; rintro e w3 ⟨v3, X3, b3, rfl, hs3, hX3, h3, s3⟩))
  have S3 := S2.trans s3
  have hA3 := hA2.stp s3
  have hq : b3.q = b.q := S3.q
  have n3 := (World.cell?_of_block (w := w2) (a := ⟨g, 0, none⟩) (s3.keep hA2)).trans n2
  have h3 := h3.drew
  have s3 := s3.drew
  have hA3 := hA3.drew
  have hs3 := (hs3.up S2.size).stp (Stp.refl _ _ _).drew
  obtain ⟨w4, HW4⟩ : ∃ w4, Hid (w4 = w3.drew) := ⟨_, rfl⟩
  rw [← HW4.out] at h3 s3 hA3 hs3
  have n4 : w4.cell? ⟨g, 0, none⟩ = some (.pointer (some ⟨b.q, 0, none⟩)) := by rw [HW4.out]; exact n3
  have S4 : Stp p b w b3 w4 := S2.trans s3
  have c7 : w4.cell? ⟨b.q, 7, none⟩ = some (.int .u64 L2.no) := by have := h3.dt.c7; rw [hq] at this; exact this
  have c5 : w4.cell? ⟨b.q, 5, none⟩ = some b3.ve := by have := h3.dt.c5; rw [hq] at this; exact this
  have hJ : Bq g b.q L2.no w4 := ⟨n4, c7⟩
  have hdel := deletesE_any (w := w4) (Bq g b.q L2.no) (fun w w' hJ hb => hJ.below hb) 41 #[.pointer (some ⟨g, 0, none⟩)] (fun x => decide (4 ≤ u64w (L2.no - x.a))) (fun i hi w' j u hJ => hJ.other (fun e => hA3.own 6 (by rw [e]; exact hi)) (fun e => by have := h3.dt.sep.one 0 6 i (by show some b3.q = _; rw [hq, e]) hi; omega) j u)
    (by have := h3.dt.ok.el; omega) h3.dt.es (enter_of Tryz.func41 (by kernel_rfl) rfl) (fun x _ w' hJ => tick1_any hJ x) hJ
  have hSS := And.intro n4 c5
  have HJ : Hid _ := hJ
  clear n2 n3 hA1 hA2 c7 c5 hJ hlk hyy hy2
  go_upto_region 5 with fail
  refine wp_region_D (fun w' => w'.cell? ⟨g, 0, none⟩ = some (.pointer (some ⟨b.q, 0, none⟩)) ∧ w'.cell? ⟨b.q, 5, none⟩ = some b3.ve) (fun j => j == 9) (by kernel_rfl) ?_
  rw [← HW4.out]
  refine wpAnyD_take (i := 0) (v := .pointer (some ⟨b.q, 0, none⟩)) rfl (by kernel_rfl) (by kernel_rfl) (by kernel_rfl) (by kernel_rfl) (fun _ _ _ h => h) (Or.inl ⟨by rfl, ?_⟩) hSS ?_
  · intro w0 hw0
    obtain ⟨z0, z1⟩ := hw0
    go_simp
  refine wpAnyD_take (i := 1) (v := .pointer (some ⟨b.q, 0, none⟩)) rfl (by kernel_rfl) (by kernel_rfl) (by kernel_rfl) (by kernel_rfl) (fun _ _ _ h => h) (Or.inl ⟨by rfl, ?_⟩) hSS ?_
  · intro w0 hw0
    obtain ⟨z0, z1⟩ := hw0
    go_simp
  refine wpAnyD_take (i := 2) (v := .pointer (some ⟨b.q, 0, none⟩)) rfl (by kernel_rfl) (by kernel_rfl) (by kernel_rfl) (by kernel_rfl) (fun _ _ _ h => h) (Or.inl ⟨by rfl, ?_⟩) hSS ?_
  · intro w0 hw0
    clear hw0
    go_simp
  refine wpAnyD_take (i := 3) (v := .pointer (some ⟨b.q, 5, none⟩)) rfl (by kernel_rfl) (by kernel_rfl) (by kernel_rfl) (by kernel_rfl) (fun _ _ _ h => h) (Or.inl ⟨by rfl, ?_⟩) hSS ?_
  · intro w0 hw0
    clear hw0
    go_simp
  refine wpAnyD_take (i := 4) (v := b3.ve) rfl (by kernel_rfl) (by kernel_rfl) (by kernel_rfl) (by kernel_rfl) (fun _ _ _ h => h) (Or.inl ⟨by rfl, ?_⟩) hSS ?_
  · intro w0 hw0
    obtain ⟨z0, z1⟩ := hw0
    go_simp
  refine wpAnyD_take (i := 5) (v := .func (.func 41) #[] #[.pointer (some ⟨g, 0, none⟩)]) rfl (by kernel_rfl) (by kernel_rfl) (by kernel_rfl) (by kernel_rfl) (fun _ _ _ h => h) (Or.inl ⟨by rfl, ?_⟩) hSS ?_
  · intro w0 hw0
    clear hw0
    go_simp
  refine wpAnyD_one (i := 6) (by kernel_rfl) rfl (fun K hK => ?_)
  go_simp
  go_at_call 40
  refine hdel.mono ?_
  rintro e w5 ⟨a5, L5, c5, rfl, hO5, hown5, hg5, hJ5⟩
  obtain ⟨h6, s6⟩ := h3.setE hO5 hg5 (.inl hown5) (fun x hx => h3.dt.ok.E x (List.mem_filter.1 hx).1) (Nat.le_trans (List.length_filter_le _ _) h3.dt.ok.el)
  obtain ⟨b6, HB6⟩ : ∃ b6 : Bl, Hid (({ b3 with ve := .slice a5 L5 c5 } : Bl) = b6) := ⟨_, rfl⟩
  rw [HB6.out] at h6 s6
  rw [hq] at h6 s6
  have hq5 : w5.heap[b.q]? = w4.heap[b.q]? := hg5.block b.q (hq ▸ h3.dt.qlt) (fun e => by have := h3.dt.sep.one 0 6 b.q (by show some b3.q = _; rw [hq]) e.symm; omega)
  have c5' := (World.cell?_of_block (w := w4) (a := ⟨b.q, 5, none⟩) hq5).trans hSS.2
  have f5 := (World.frozen?_of_block (w := w4) (a := ⟨b.q, 5, none⟩) hq5).trans (hq ▸ h3.dt.free 5)
  have hS5 := And.intro hJ5.bx c5'
  refine hK _ _ (fun _ => hS5) ?_
  clear hK K hSS
  have hSS := hS5
  refine wpAnyD_one (i := 7) (by kernel_rfl) rfl (fun K hK => ?_)
  go_simp
  refine hK _ _ (fun _ => hSS) ?_
  clear hK K
  refine wpAnyD_one (i := 8) (by kernel_rfl) rfl (fun K hK => ?_)
  go_simp
  refine hK _ _ (fun _ => hSS) ?_
  clear hK K
  refine wpAnyD_one (i := 9) (by kernel_rfl) rfl (fun K hK => ?_)
  go_simp
  refine hK _ _ (fun e => absurd e (by decide)) ?_
  clear hK K hSS hS5
  refine wpAnyD_done (by kernel_rfl) ?_ _
  have hA6 := hA3.stp s6
  have n6 := (World.cell?_of_block (w := w4) (a := ⟨g, 0, none⟩) (s6.keep hA3)).trans n4
  have hs6 := hs3.stp s6
  have S6 := S4.trans s6
  obtain ⟨w6, HW6⟩ : ∃ w6, Hid (w6 = w5.setCell ⟨b.q, 5, none⟩ (.slice a5 L5 c5)) := ⟨_, rfl⟩
  rw [← HW6.out] at h6 s6 n6 hs6 S6 hA6 ⊢
  have hq6 : b6.q = b.q := S6.q
  clear hdel hq5 c5' f5 hO5 hown5 hg5 hJ5 s6 n4
  have hov := dover_any h6.drew L2.no
  rw [hq6] at hov
  have hS6 := And.intro n6 (show w6.cell? ⟨b.q, 7, none⟩ = some (.int .u64 L2.no) by have := h6.dt.c7; rw [hq6] at this; exact this)
  go_upto_region 6 with fail
  go_region_held3 (fun w' => w'.cell? ⟨g, 0, none⟩ = some (.pointer (some ⟨b.q, 0, none⟩)) ∧ w'.cell? ⟨b.q, 7, none⟩ = some (.int .u64 L2.no)) (first | exact hS6 | exact hS7) ((first
    | (go_at_call 42; go_must (refine hov.mono ?_; rintro e w7 ⟨⟨v7, rfl, hO7, hA7⟩, h7, s7⟩; obtain ⟨a7, c7, rfl⟩ : ∃ a c, v7 = .slice a ((Do.overD L2.D L2.no).map Do.deadOf).length c := (by obtain ⟨a, cap, e, _⟩ := hO7.ru; exact ⟨a, cap, e⟩); have hS7 := And.intro ((World.cell?_of_block (w := w6) (a := ⟨g, 0, none⟩) (s7.keep hA6.drew)).trans n6) (show w7.cell? ⟨b.q, 7, none⟩ = some (.int .u64 L2.no) by have := h7.dt.c7; rw [hq6] at this; exact this)))))
  have S7 := (S6.drew).trans s7
  have hs7 := (hs6.stp (Stp.refl _ _ _).drew).stp s7
  have hA7' := hA6.drew.stp s7
  have n7 := hS7.1
  clear hS6 hS7 hov s7
  obtain ⟨U, HU⟩ : ∃ U, Hid ((Do.overD L2.D L2.no).map Do.deadOf = U) := ⟨_, rfl⟩
  have hin := dead_inc h6.dt.ok L2.no
  obtain ⟨D7, HD7⟩ : ∃ D7 : Det, Hid (({ L2 with E := L2.E.filter (fun x => !decide (4 ≤ u64w (L2.no - x.a))), D := Do.stayD L2.D L2.no } : Det) = D7) := ⟨_, rfl⟩
  have h7 : Sx k Bp p b6 D7 L3 w7 := by rw [← HD7.out]; exact h7
  rw [HU.out, HD7.out] at HR1
  have hUl : U.length ≤ 64 := by
    rw [← HU.out, List.length_map]
    exact Nat.le_trans (Do.over_length _ _) h3.dt.ok.di.length
  have hDW : D7.W.length ≤ 500 := by rw [← HD7.out]; exact hWL
  dsimp only at hin
  have hlen : (Do.overD L2.D L2.no).length = U.length := by rw [← HU.out, List.length_map]
  rw [HU.out] at hO7 hin hA7
  rw [hlen]
  obtain ⟨a', cap', e', q1, q2, q3⟩ := hO7.ru
  cases e'
  have hO7r := hO7.ru
  go_wp2_with fail
  go_loopg [40] U.length (fun gk t40 wr => ∃ (j : Nat) (dj : Det) (lj : List Int) (bj : Bl), j + gk = U.length ∧ t40 = .int .i64 j ∧ Hid (dj.dead k (U.drop j) lj = D7.dead k U L3) ∧ Sx k Bp p bj dj lj wr ∧ Stp p b6 w7 bj wr)
  case atStart => exact ⟨0, D7, L3, b6, by omega, rfl, by show _ = _; rw [List.drop_zero], h7, Stp.refl _ _ _⟩
  case round =>
    obtain ⟨j, dj, lj, bj, hj, rfl, hr, hjx, hjs⟩ := hrel
    have hqj : bj.q = b.q := hjs.q.trans hq6
    have nj := (World.cell?_of_block (w := w7) (a := ⟨g, 0, none⟩) (hjs.keep hA7')).trans n7
    by_cases hlt : (j : Int) < U.length
    · have hj' : j < U.length := by omega
      have j0 : (0 : Int) ≤ j := by omega
      have hUj := hO7r.keep fun g e _ => hjs.keep (hA7 g e)
      obtain ⟨gn, off, rfl⟩ : ∃ gn off, a7 = some ⟨gn, off, none⟩ := by
        rcases q3 with q3 | ⟨gn, off, e, _⟩
        · omega
        · exact ⟨gn, off, e⟩
      obtain ⟨x0, x1, x2⟩ : wr.cell? ⟨gn, off + j * 3, none⟩ = some (.int .i64 U[j].n) ∧ wr.cell? ⟨gn, off + j * 3 + 1, none⟩ = some (.int .u64 U[j].i) ∧ wr.cell? ⟨gn, off + j * 3 + 2, none⟩ = some (.int .i64 U[j].s) := by
        obtain ⟨_, _, e, _, _, e3⟩ := hUj
        cases e
        rcases e3 with e3 | ⟨g', off', e, e3⟩
        · omega
        · cases e; exact e3 j hj'
      have i0 := hin U[j] (List.getElem_mem hj')
      have hst : Hid (D7.dead k U L3 = _) := hr.out.symm.trans (dead_drop k dj U lj j hj')
      clear hr hUj
      generalize U[j] = u at *
      have b2 := below_alloc wr (.cells #[.int .i64 u.n, .int .u64 u.i, .int .i64 u.s] 39)
      have hX := Bx.new 39 u.n u.i u.s wr
      have hx2 := hjx.below b2
      have st2 : Stp p b6 w7 bj _ := hjs.then b2
      have n2 := (World.cell?_of_block (w := wr) (a := ⟨g, 0, none⟩) (b2.block g (World.block_lt_of_cell? _ _ nj))).trans nj
      obtain ⟨w8, HW8⟩ : ∃ w8, Hid (w8 = wr.alloc (.cells #[.int .i64 u.n, .int .u64 u.i, .int .i64 u.s] 39)) := ⟨_, rfl⟩
      rw [← HW8.out] at hX hx2 st2 n2
      have v0 := hX.c0
      have v1 := hX.c1
      have v2 := hX.c2
      have hme := me_any hx2.drew
      rw [hqj] at hme
      go_upto_region 9 with fail
      rw [← HW8.out]
      clear x0 x1 x2
      have hS8 := And.intro n2 (And.intro v0 (And.intro v1 v2))
      go_region_held3 (fun w' => w'.cell? ⟨g, 0, none⟩ = some (.pointer (some ⟨b.q, 0, none⟩)) ∧ w'.cell? ⟨wr.heap.size, 0, none⟩ = some (.int .i64 u.n) ∧ w'.cell? ⟨wr.heap.size, 1, none⟩ = some (.int .u64 u.i) ∧ w'.cell? ⟨wr.heap.size, 2, none⟩ = some (.int .i64 u.s)) (first | exact hS8 | exact hS9 | exact hS10) ((first
        | (go_at_call 44; go_must (refine hme.mono ?_; rintro e w9 ⟨rfl, hb9⟩; have h9 := hx2.drew.below hb9; have hX9 := hX.drew.below hb9; have hS9 := And.intro ((World.cell?_of_block (w := w8) (a := ⟨g, 0, none⟩) (hb9.block g (World.block_lt_of_cell? _ _ n2))).trans n2) (And.intro hX9.c0 (And.intro hX9.c1 hX9.c2))))
        | (go_at_call 43; go_must (rw [← hqj]; refine (takein_any h9 u k i0).mono ?_; rintro e w10 ⟨rfl, b10, h10, s10, u10⟩; have hS10 := And.intro ((World.cell?_of_block (w := w9) (a := ⟨g, 0, none⟩) (s10.keep (hA7'.stp (st2.drew.then hb9)))).trans hS9.1) (And.intro (bx_stp hX9 (hjx.away (Nat.le_refl _) hX9.lt) s10).c0 (And.intro (bx_stp hX9 (hjx.away (Nat.le_refl _) hX9.lt) s10).c1 (bx_stp hX9 (hjx.away (Nat.le_refl _) hX9.lt) s10).c2))))))
      have S10 := (st2.drew.then hb9).trans s10
      go_wp2_with fail
      go_roundg (gk - 1)
      case rel => exact ⟨j + 1, _, _, b10, by omega, by go_num, hst.out.symm, h10, S10⟩
      case measure => omega
    · obtain rfl : j = U.length := by omega
      have hend : Hid ((dj, lj) = D7.dead k U L3) := by
        have := hr.out
        rw [List.drop_length] at this
        exact this
      clear hr
      rw [← hend.out] at HR1
      have hWj : dj.W.length ≤ 500 := by
        have := (dead_fr k U D7 L3).1
        rw [← hend.out] at this
        dsimp only at this
        rw [this]; exact hDW
      have hpn := pingnext_any hjx (Nat.le_trans hWj (by decide))
      rw [hqj] at hpn
      have hsj := hs7.stp hjs
      have Sj := S7.trans hjs
      have hzj := Sj.size
      have hXl : X3.length ≤ 100000 := by
        have q1 := congrArg List.length hX3
        rw [List.length_map] at q1
        rw [q1]
        exact hLl
      go_upto_region 11 with fail
      go_wp2_with (first
        | (go_at_call 45; go_must (refine hpn.mono ?_; rintro e w8 ⟨v8, Y, b8, rfl, hsY, hYn, h8, s8⟩; have hsd8 := hsj.stp s8; have hrow8 := hsd8.row; have hsY8 := hsY.up hzj; have hrowY := hsY8.row; have hz8 := (Sj.trans s8).size; have hYl : Y.length ≤ 1 := (by have q1 := congrArg List.length hYn; rw [List.length_map] at q1; rw [q1]; exact pingNext_len k dj lj)))
        | (at_builtin; go_must (refine wpList_appE2 Tryz.underlying43 Tryz.infoN (by decide) (by decide) w8 rfl (.tmp 51) (.tmp 54) rfl w.heap.size w.heap.size v3 v8 X3 Y rfl hrow8 hz8 rfl hrowY (by omega) ?_; intro v9 w9 hO9 hg9 hv9)))
      go_ret
      have h9 := h8.grown hg9 fun g e => ⟨hsd8.away g e, by have := (hrow8.lt g e).1; have := h.lots.lt; omega⟩
      have S9 := (Sj.trans s8).high ⟨hg9.os, hg9.tape, hg9.output, hg9.size, fun g hg => hg9.block g (by omega) (fun e => by have := (hrow8.lt g e.symm).1; omega)⟩
      have hsd9 := Sd.app h8 hsd8 hsY8 hO9 hg9 hv9 (fun g hg => (hO9.lt g hg).2)
      rw [← HR1.out]
      exact ⟨_, X3 ++ Y, b8, rfl, hsd9, by rw [List.map_append, hX3, hYn], h9, S9⟩
end
end Go.Proofs.YtpoofjnfaijjjaaGreatDoor
