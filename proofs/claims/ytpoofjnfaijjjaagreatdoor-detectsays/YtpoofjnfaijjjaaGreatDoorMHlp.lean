/-
  helped.
-/
import Derived.Test.YtpoofjnfaijjjaaGreatDoorMFlt
import Derived.Test.YtpoofjnfaijjjaaGreatDoorMNwd
namespace Go.Proofs.YtpoofjnfaijjjaaGreatDoor
open Go.RowKit Go.Proofs.YtpoofjnfaijjjaaGreatDoor.Ro
section
variable {k Bp p : Nat} {b : Bl} {d : Det} {l : List Int} {w : World}

set_option maxRecDepth 100000 in
set_option maxHeartbeats 2000000 in
theorem helped_any (h : Sx k Bp p b d l w) (n : Nte) (ho : Nd n.o) (hf : Nd n.f) (hq : U64 n.q) (na : Option Addr) (nl nc : Nat) :
    Calls Tryz.prog 105 #[.pointer (some ⟨b.q, 0, none⟩), ntV n (.slice na nl nc)] w fun e w' => ∃ v X b', e = .returned v ∧ Sd p b' w v X w' ∧ X.map NtX.n = (d.helped k n).1 ∧ Sx k Bp p b' (d.helped k n).2 l w' ∧ Stp p b w b' w' := by
  obtain ⟨K, F, T, Q, O, U⟩ := n
  dsimp only at ho hf hq
  have ba := below_alloc w (.cells (ntC K F T Q O (.slice na nl nc)) 37)
  have hN := Bn.new K F T Q O (.slice na nl nc) w
  have h1 := h.below ba
  have hA := h.away (w' := w.alloc (.cells (ntC K F T Q O (.slice na nl nc)) 37)) (Nat.le_refl _) hN.lt
  obtain ⟨w1, HW1⟩ : ∃ w1, Hid (w1 = w.alloc (.cells (ntC K F T Q O (.slice na nl nc)) 37)) := ⟨_, rfl⟩
  rw [← HW1.out] at ba hN h1 hA
  have hS1 := hN.c4
  obtain ⟨R, HR⟩ : ∃ R, Hid (d.helped k ⟨K, F, T, Q, O, U⟩ = R) := ⟨_, rfl⟩
  rw [HR.out]
  have HR' : Hid (R = if O = (k : Int) then d.pinged k ⟨K, F, T, Q, O, U⟩ else ([d.ping k O], { (d.next).told k O with E := (if 32 ≤ d.E.length then d.E.tail else d.E) ++ [⟨O, u64w (d.la + 1), d.no, F, Q⟩] })) := HR.out.symm
  clear HR
  cases hok : (O == (k : Int))
  case true =>
    have e1 : O = (k : Int) := by simpa using hok
    rw [if_pos e1] at HR'
    clear e1
    go_enter Tryz.func105, Tryz.ntmps105
    go_upto_region 1 with fail
    rw [← HW1.out]
    go_region_held3 (fun w' => w'.cell? ⟨w.heap.size, 4, none⟩ = some (.int .i64 O)) (first | exact hS1 | exact hS2) ((first
      | (go_at_call 44; refine (me_any h1.drew).mono ?_; rintro e w2 ⟨rfl, hb2⟩; have h2 := h1.drew.below hb2; have hN2 := hN.drew.below hb2; have hS2 := hN2.c4)))
    have x0 := hN2.c0
    have x1 := hN2.c1
    have x2 := hN2.c2
    have x3 := hN2.c3
    have x4 := hN2.c4
    have x5 := hN2.c5
    have S2 : Stp p b w b w2 := (Stp.of ba).drew.then hb2
    have hA2 := hA.drew.stp (Stp.of hb2)
    have hpg := pinged_any h2 K F T Q O na nl nc
    go_wp2_with fail
    refine hpg.mono ?_
    rintro e w3 ⟨v3, X3, rfl, hs3, hX3, h3, s3⟩
    obtain ⟨a3, L3, c3, rfl⟩ : ∃ a L c, v3 = .slice a L c := (by obtain ⟨a, cap, e, _⟩ := hs3.row.len; exact ⟨a, _, cap, e⟩)
    go_wp2_with fail
    go_ret
    rw [HR'.out]
    exact ⟨_, X3, b, rfl, hs3.up S2.size, hX3, h3, S2.trans s3⟩
  case false =>
  have e1 : ¬ O = (k : Int) := by simpa using hok
  rw [if_neg e1] at HR'
  clear e1
  have hel := h.dt.ok.el
  go_enter Tryz.func105, Tryz.ntmps105
  go_upto_region 1 with fail
  rw [← HW1.out]
  go_region_held3 (fun w' => w'.cell? ⟨w.heap.size, 4, none⟩ = some (.int .i64 O)) (first | exact hS1 | exact hS2) ((first
    | (go_at_call 44; refine (me_any h1.drew).mono ?_; rintro e w2 ⟨rfl, hb2⟩; have h2 := h1.drew.below hb2; have hN2 := hN.drew.below hb2; have hS2 := hN2.c4)))
  have S2 : Stp p b w b w2 := (Stp.of ba).drew.then hb2
  have hA2 := hA.drew.stp (Stp.of hb2)
  clear h1 hN hA ba hS1 hS2 hb2
  obtain ⟨va, vcap, hve, hvc, _⟩ := h2.dt.es.len
  obtain ⟨E1, HE1⟩ : ∃ E1, Hid ((if 32 ≤ d.E.length then d.E.tail else d.E) = E1) := ⟨_, rfl⟩
  rw [HE1.out] at HR'
  have c5 := h2.dt.c5
  rw [hve] at c5
  go_upto_if 19 with fail
  go_cut [] from 19 to 27 (fun wx => ∃ b1, Sx k Bp p b1 { d with E := E1 } l wx ∧ Stp p b w b1 wx ∧ Bn w.heap.size K F T Q O (.slice na nl nc) wx ∧ Away p b1 wx w.heap.size ∧ E1.length ≤ 31)
  case first =>
    by_cases h32 : 32 ≤ d.E.length
    · have hE1 : d.E.eraseIdx 0 = E1 := by rw [← HE1.out, if_pos h32]; cases d.E <;> rfl
      obtain ⟨ge, rfl⟩ : ∃ ge, va = some ⟨ge, 0, none⟩ := by
        rcases h2.dt.es.2 with ⟨e, h0⟩ | ⟨g, cap, cur, e, _⟩
        · omega
        · rw [hve] at e; cases e; exact ⟨g, rfl⟩
      have hE2 := h2.dt.es
      rw [hve] at hE2
      have hmem := fun x (hx : x ∈ d.E.eraseIdx 0) => h.dt.ok.E x (List.mem_of_mem_eraseIdx hx)
      have hlen : (d.E.eraseIdx 0).length ≤ 31 := by rw [List.length_eraseIdx, if_pos (by omega)]; omega
      have hdl := delete1_any ge vcap d.E 0 (by omega) (by omega) w2 hE2
      rw [hE1] at hdl hmem hlen
      have h32' : (32 : Int) ≤ d.E.length := by omega
      go_wp2_with fail
      refine hdl.mono ?_
      rintro e w4 ⟨⟨rfl, hO4⟩, hB4⟩
      have hq4 : w4.heap[b.q]? = w2.heap[b.q]? := hB4.block b.q h2.dt.qlt (fun e => by have := h2.dt.sep.one 0 6 b.q rfl (by show b.ve.ownBlock = _; rw [hve, e]; rfl); omega)
      have c5' := (World.cell?_of_block (w := w2) (a := ⟨b.q, 5, none⟩) hq4).trans h2.dt.c5
      have f5' := (World.frozen?_of_block (w := w2) (a := ⟨b.q, 5, none⟩) hq4).trans (h2.dt.free 5)
      obtain ⟨h5, s5⟩ := h2.setE hO4 (by rw [hve]; exact grown_of hB4) (.inl (by rw [hve]; rfl)) hmem (by omega)
      clear c5
      go_wp2_with fail
      go_meet
      exact ⟨_, h5, S2.trans s5, hN2.stp hA2 s5, hA2.stp s5, hlen⟩
    · have hE1 : d.E = E1 := by rw [← HE1.out, if_neg h32]
      have h32' : ¬ (32 : Int) ≤ d.E.length := by omega
      have h5 : Sx k Bp p b { d with E := E1 } l w2 := by rw [← hE1]; exact h2
      have hl : E1.length ≤ 31 := by rw [← hE1]; omega
      clear hE1
      go_wp2_with fail
      go_meet
      exact ⟨_, h5, S2, hN2, hA2, hl⟩
  case rest =>
  obtain ⟨b1, h3, s3, hN3, hA3, hl3⟩ := hcut
  clear h2 S2 hN2 hA2 hve hvc c5 hel
  generalize wc = w3 at *
  have hqq : b1.q = b.q := s3.q
  have hpi := ping_any h3 O
  rw [hqq] at hpi
  have n4 := hN3.c4
  go_upto_region 5 with fail
  go_wp2_with fail
  refine hpi.mono ?_
  rintro e w4 ⟨v4, rfl, hO4, h4, s4⟩
  obtain ⟨a4, L4, c4, rfl⟩ : ∃ a L c, v4 = .slice a L c := (by obtain ⟨a, cap, e, _⟩ := hO4.ru; exact ⟨a, _, cap, e⟩)
  have hN4 := hN3.stp hA3 s4
  have hA4 := hA3.stp s4
  have S4 := s3.trans s4
  have hnw := news_away h3 hO4
  obtain ⟨y, HY⟩ : ∃ y, Hid (u64w (d.la + 1) = y) := ⟨_, rfl⟩
  have hyy : u64w (({ d with E := E1 } : Det).la + 1) = y := HY.out
  have hyu : U64 y := by rw [← HY.out]; exact u64w_ok _
  unfold Det.ping at hO4
  rw [HY.out] at HR'
  have b5 := below_alloc w4 (.cells (ntC 1 k O y 0 (.slice a4 L4 c4)) 37)
  have hP := Bn.new 1 k O y 0 (.slice a4 L4 c4) w4
  have h5 := h4.below b5
  have hN5 := hN4.below b5
  have hA5 := hA4.stp (Stp.of b5)
  have hAP := h4.away (w' := w4.alloc (.cells (ntC 1 k O y 0 (.slice a4 L4 c4)) 37)) (Nat.le_refl _) hP.lt
  have S5 := S4.then b5
  obtain ⟨w5, HW5⟩ : ∃ w5, Hid (w5 = w4.alloc (.cells (ntC 1 k O y 0 (.slice a4 L4 c4)) 37)) := ⟨_, rfl⟩
  rw [← HW5.out] at hP h5 hN5 hA5 hAP S5
  clear hN4 hA4 n4
  go_upto_region 6 with fail
  unfold Det.ping
  rw [hyy, ← HW5.out]
  obtain ⟨N, HN⟩ : ∃ N, Hid (E1.length = N) := ⟨_, rfl⟩
  obtain ⟨va, vcap, hve, hvc, _⟩ := h5.dt.es.len
  have hve : b1.ve = .slice va N vcap := by rw [← HN.out]; exact hve
  have c5 : w5.cell? ⟨b.q, 5, none⟩ = some (.slice va N vcap) := by have := h5.dt.c5; rw [hqq, hve] at this; exact this
  have c7 : w5.cell? ⟨b.q, 7, none⟩ = some (.int .u64 d.no) := by have := h5.dt.c7; rw [hqq] at this; exact this
  have hOE : OwE encE 112 0 (.slice va N vcap) E1 w5 := by have := h5.dt.es; rw [hve] at this; exact this
  have hbe := below_alloc w5 (.cells (cellsE ⟨O, y, d.no, F, Q⟩) 112)
  have hBE := (BE.new ⟨O, y, d.no, F, Q⟩ w5).drew
  have h6 := (h5.below hbe).drew
  have hN6 := (hN5.below hbe).drew
  have hP6 := (hP.below hbe).drew
  have hA6 := (hA5.stp (Stp.of hbe)).drew
  have hAP6 := (hAP.stp (Stp.of hbe)).drew
  have S6 := (S5.then hbe).drew
  have hOE6 : OwE encE 112 0 (.slice va N vcap) E1 (w5.alloc (.cells (cellsE ⟨O, y, d.no, F, Q⟩) 112)).drew := (hOE.below hbe).keep fun _ _ _ => rfl
  obtain ⟨gp, HGP⟩ : ∃ gp, Hid (w4.heap.size = gp) := ⟨_, rfl⟩
  rw [HGP.out] at hP hAP hP6 hAP6 ⊢
  have hok : ErnOk ⟨O, y, d.no, F, Q⟩ := ⟨ho, hyu, h.dt.ok.no, hf, hq⟩
  have hSS := And.intro c5 (And.intro hN5.c4 (And.intro hP.c3 (And.intro c7 (And.intro hN5.c1 hN5.c3))))
  have c5' : (w5.alloc (.cells (cellsE ⟨O, y, d.no, F, Q⟩) 112)).drew.cell? ⟨b.q, 5, none⟩ = some (.slice va N vcap) := by have := h6.dt.c5; rw [hqq, hve] at this; exact this
  have c7' : (w5.alloc (.cells (cellsE ⟨O, y, d.no, F, Q⟩) 112)).drew.cell? ⟨b.q, 7, none⟩ = some (.int .u64 d.no) := by have := h6.dt.c7; rw [hqq] at this; exact this
  have hS6 := And.intro c5' (And.intro hN6.c4 (And.intro hP6.c3 (And.intro c7' (And.intro hN6.c1 hN6.c3))))
  obtain ⟨w6, HW6⟩ : ∃ w6, Hid (w6 = (w5.alloc (.cells (cellsE ⟨O, y, d.no, F, Q⟩) 112)).drew) := ⟨_, rfl⟩
  rw [← HW6.out] at hBE h6 hN6 hP6 hA6 hAP6 S6 hOE6 hS6
  have S46 : Stp p b1 w4 b1 w6 := by rw [HW6.out]; exact ((Stp.of (by rw [HW5.out]; exact below_alloc w4 _)).then hbe).drew
  have HB6 : Hid (RdE encE (.slice (some ⟨w5.heap.size, 0, none⟩) 1 1) [⟨O, y, d.no, F, Q⟩] w6) := hBE.rd
  have HO6 : Hid (OwE encE 112 0 (.slice va N vcap) E1 w6) := hOE6
  have HS6 : Hid _ := hS6
  have HOK : Hid _ := hok
  clear hBE hOE hOE6 c5 c7 c5' c7' hbe hS6 b5 hok hyu
  refine wp_region_D (fun w' => w'.cell? ⟨b.q, 5, none⟩ = some (.slice va N vcap) ∧ w'.cell? ⟨w.heap.size, 4, none⟩ = some (.int .i64 O) ∧ w'.cell? ⟨gp, 3, none⟩ = some (.int .u64 y) ∧ w'.cell? ⟨b.q, 7, none⟩ = some (.int .u64 d.no) ∧ w'.cell? ⟨w.heap.size, 1, none⟩ = some (.int .i64 F) ∧ w'.cell? ⟨w.heap.size, 3, none⟩ = some (.int .u64 Q)) (fun j => j == 22) (by kernel_rfl) ?_
  refine wpAnyD_take (i := 0) (v := .pointer (some ⟨b.q, 0, none⟩)) rfl (by kernel_rfl) (by kernel_rfl) (by kernel_rfl) (by kernel_rfl) (fun _ _ _ h => h) (Or.inl ⟨by rfl, ?_⟩) hSS ?_
  · intro w0 hw0
    clear hw0
    go_simp
  refine wpAnyD_take (i := 1) (v := .pointer (some ⟨b.q, 0, none⟩)) rfl (by kernel_rfl) (by kernel_rfl) (by kernel_rfl) (by kernel_rfl) (fun _ _ _ h => h) (Or.inl ⟨by rfl, ?_⟩) hSS ?_
  · intro w0 hw0
    clear hw0
    go_simp
  refine wpAnyD_take (i := 2) (v := .pointer (some ⟨b.q, 0, none⟩)) rfl (by kernel_rfl) (by kernel_rfl) (by kernel_rfl) (by kernel_rfl) (fun _ _ _ h => h) (Or.inl ⟨by rfl, ?_⟩) hSS ?_
  · intro w0 hw0
    clear hw0
    go_simp
  refine wpAnyD_take (i := 3) (v := .pointer (some ⟨b.q, 5, none⟩)) rfl (by kernel_rfl) (by kernel_rfl) (by kernel_rfl) (by kernel_rfl) (fun _ _ _ h => h) (Or.inl ⟨by rfl, ?_⟩) hSS ?_
  · intro w0 hw0
    clear hw0
    go_simp
  refine wpAnyD_take (i := 4) (v := .slice va N vcap) rfl (by kernel_rfl) (by kernel_rfl) (by kernel_rfl) (by kernel_rfl) (fun _ _ _ h => h) (Or.inl ⟨by rfl, ?_⟩) hSS ?_
  · intro w0 hw0
    obtain ⟨z0, z1, z2, z3, z4, z5⟩ := hw0
    go_simp
  refine wpAnyD_take (i := 5) (v := .pointer (some ⟨w.heap.size, 4, none⟩)) rfl (by kernel_rfl) (by kernel_rfl) (by kernel_rfl) (by kernel_rfl) (fun _ _ _ h => h) (Or.inl ⟨by rfl, ?_⟩) hSS ?_
  · intro w0 hw0
    clear hw0
    go_simp
  refine wpAnyD_take (i := 6) (v := .int .i64 O) rfl (by kernel_rfl) (by kernel_rfl) (by kernel_rfl) (by kernel_rfl) (fun _ _ _ h => h) (Or.inl ⟨by rfl, ?_⟩) hSS ?_
  · intro w0 hw0
    obtain ⟨z0, z1, z2, z3, z4, z5⟩ := hw0
    go_simp
  refine wpAnyD_take (i := 7) (v := .pointer (some ⟨gp, 3, none⟩)) rfl (by kernel_rfl) (by kernel_rfl) (by kernel_rfl) (by kernel_rfl) (fun _ _ _ h => h) (Or.inl ⟨by rfl, ?_⟩) hSS ?_
  · intro w0 hw0
    clear hw0
    go_simp
  refine wpAnyD_take (i := 8) (v := .int .u64 y) rfl (by kernel_rfl) (by kernel_rfl) (by kernel_rfl) (by kernel_rfl) (fun _ _ _ h => h) (Or.inl ⟨by rfl, ?_⟩) hSS ?_
  · intro w0 hw0
    obtain ⟨z0, z1, z2, z3, z4, z5⟩ := hw0
    go_simp
  refine wpAnyD_take (i := 9) (v := .pointer (some ⟨b.q, 0, none⟩)) rfl (by kernel_rfl) (by kernel_rfl) (by kernel_rfl) (by kernel_rfl) (fun _ _ _ h => h) (Or.inl ⟨by rfl, ?_⟩) hSS ?_
  · intro w0 hw0
    clear hw0
    go_simp
  refine wpAnyD_take (i := 10) (v := .pointer (some ⟨b.q, 0, none⟩)) rfl (by kernel_rfl) (by kernel_rfl) (by kernel_rfl) (by kernel_rfl) (fun _ _ _ h => h) (Or.inl ⟨by rfl, ?_⟩) hSS ?_
  · intro w0 hw0
    clear hw0
    go_simp
  refine wpAnyD_take (i := 11) (v := .pointer (some ⟨b.q, 7, none⟩)) rfl (by kernel_rfl) (by kernel_rfl) (by kernel_rfl) (by kernel_rfl) (fun _ _ _ h => h) (Or.inl ⟨by rfl, ?_⟩) hSS ?_
  · intro w0 hw0
    clear hw0
    go_simp
  refine wpAnyD_take (i := 12) (v := .int .u64 d.no) rfl (by kernel_rfl) (by kernel_rfl) (by kernel_rfl) (by kernel_rfl) (fun _ _ _ h => h) (Or.inl ⟨by rfl, ?_⟩) hSS ?_
  · intro w0 hw0
    obtain ⟨z0, z1, z2, z3, z4, z5⟩ := hw0
    go_simp
  refine wpAnyD_take (i := 13) (v := .pointer (some ⟨w.heap.size, 1, none⟩)) rfl (by kernel_rfl) (by kernel_rfl) (by kernel_rfl) (by kernel_rfl) (fun _ _ _ h => h) (Or.inl ⟨by rfl, ?_⟩) hSS ?_
  · intro w0 hw0
    clear hw0
    go_simp
  refine wpAnyD_take (i := 14) (v := .int .i64 F) rfl (by kernel_rfl) (by kernel_rfl) (by kernel_rfl) (by kernel_rfl) (fun _ _ _ h => h) (Or.inl ⟨by rfl, ?_⟩) hSS ?_
  · intro w0 hw0
    obtain ⟨z0, z1, z2, z3, z4, z5⟩ := hw0
    go_simp
  refine wpAnyD_take (i := 15) (v := .pointer (some ⟨w.heap.size, 3, none⟩)) rfl (by kernel_rfl) (by kernel_rfl) (by kernel_rfl) (by kernel_rfl) (fun _ _ _ h => h) (Or.inl ⟨by rfl, ?_⟩) hSS ?_
  · intro w0 hw0
    clear hw0
    go_simp
  refine wpAnyD_take (i := 16) (v := .int .u64 Q) rfl (by kernel_rfl) (by kernel_rfl) (by kernel_rfl) (by kernel_rfl) (fun _ _ _ h => h) (Or.inl ⟨by rfl, ?_⟩) hSS ?_
  · intro w0 hw0
    obtain ⟨z0, z1, z2, z3, z4, z5⟩ := hw0
    go_simp
  refine wpAnyD_take (i := 17) (v := .agg (cellsE ⟨O, y, d.no, F, Q⟩)) rfl (by kernel_rfl) (by kernel_rfl) (by kernel_rfl) (by kernel_rfl) (fun _ _ _ h => h) (Or.inl ⟨by rfl, ?_⟩) hSS ?_
  · intro w0 hw0
    clear hw0
    go_simp
  refine wpAnyD_one (i := 18) (by kernel_rfl) rfl (fun K hK => ?_)
  go_simp
  rw [← HW6.out]
  refine hK _ _ (fun _ => HS6.out) ?_
  clear hK K
  refine wpAnyD_one (i := 19) (by kernel_rfl) rfl (fun K hK => ?_)
  refine step_appE Tryz.underlying92 Tryz.infoE (by decide) (by decide) w6 (by rfl) (.tmp 36) (.tmp 50) (by rfl) 0 (.slice va N vcap) E1 (by rfl) HO6.out (Nat.zero_le _) w5.heap.size 0 1 [⟨O, y, d.no, F, Q⟩] 1 rfl (by rfl) HB6.out (by simp; omega) ?_
  intro v7 w7 hO7 hg7 hv7
  obtain ⟨a7, L7, c7, rfl⟩ : ∃ a L c, v7 = .slice a L c := (by obtain ⟨a, cap, e, _⟩ := hO7.len; exact ⟨a, _, cap, e⟩)
  have hown : b1.own 6 = (Value.slice va N vcap).ownBlock := by show b1.ve.ownBlock = _; rw [hve]
  have hq7 : w7.heap[b.q]? = w6.heap[b.q]? := hg7.block b.q (hqq ▸ h6.dt.qlt) (fun e => by have := h6.dt.sep.one 0 6 b.q (by show some b1.q = _; rw [hqq]) (by rw [hown, e]); omega)
  have c5 := (World.cell?_of_block (w := w6) (a := ⟨b.q, 5, none⟩) hq7).trans HS6.out.1
  have cN := (World.cell?_of_block (w := w6) (a := ⟨b.q, 7, none⟩) hq7).trans HS6.out.2.2.2.1
  have f5 := (World.frozen?_of_block (w := w6) (a := ⟨b.q, 5, none⟩) hq7).trans (hqq ▸ h6.dt.free 5)
  have hN7 := hN6.grown hg7 (fun e => hA6.own 6 (hown.trans e))
  have hP7 := hP6.grown hg7 (fun e => hAP6.own 6 (hown.trans e))
  have hS7 := And.intro c5 (And.intro hN7.c4 (And.intro hP7.c3 (And.intro cN (And.intro hN7.c1 hN7.c3))))
  obtain ⟨h8, s8⟩ := h6.setE hO7 (by rw [hve]; exact hg7) (by rw [hve]; exact hv7.imp id (fun e g hg => by rw [e] at hg; cases hg; exact Nat.le_refl _))
    (fun x hx => (List.mem_append.1 hx).elim (fun hx => h6.dt.ok.E x hx) (fun hx => by obtain rfl := List.mem_singleton.1 hx; exact HOK.out)) (by simp; omega)
  rw [hqq] at h8 s8
  refine hK _ _ (fun _ => hS7) ?_
  clear hK K hSS
  have hSS := hS7
  refine wpAnyD_one (i := 20) (by kernel_rfl) rfl (fun K hK => ?_)
  go_simp
  refine hK _ _ (fun _ => hSS) ?_
  clear hK K
  refine wpAnyD_one (i := 21) (by kernel_rfl) rfl (fun K hK => ?_)
  go_simp
  refine hK _ _ (fun _ => hSS) ?_
  clear hK K
  refine wpAnyD_one (i := 22) (by kernel_rfl) rfl (fun K hK => ?_)
  go_simp
  refine hK _ _ (fun e => absurd e (by decide)) ?_
  clear hK K hSS hS7
  refine wpAnyD_done (by kernel_rfl) ?_ _
  have hP8 := hP6.stp hAP6 s8
  have hO8 := hO4.keep fun g hg _ => (S46.trans s8).keep (hnw g hg)
  obtain ⟨w8, HW8⟩ : ∃ w8, Hid (w8 = w7.setCell ⟨b.q, 5, none⟩ (.slice a7 L7 c7)) := ⟨_, rfl⟩
  have hAN := fun g hg => (hnw g hg).stp (S46.trans s8)
  have S8 := S6.trans s8
  rw [← HW8.out] at hP8 hO8 h8 hAN S8 ⊢
  clear c5 cN f5 hN7 hP7 hO7 hg7 hv7 s8
  have p0 := hP8.c0
  have p1 := hP8.c1
  have p2 := hP8.c2
  have p3 := hP8.c3
  have p4 := hP8.c4
  have p5 := hP8.c5
  have hz8 : w.heap.size ≤ w3.heap.size := s3.size
  have b9 := below_alloc w8 (.cells (ntC 1 k O y 0 (.slice a4 L4 c4)) 37)
  have hsd := Sd.one (w0 := w) (n := ⟨1, k, O, y, 0, d.news k O⟩) h8 S8.size (Ro.Own.mono hO8 hz8) hAN
  go_wp2_with fail
  go_ret
  rw [HR'.out]
  exact ⟨_, rfl, _, _, hsd, (by unfold Det.ping; rw [HY.out]; rfl), h8.below b9, S8.then b9⟩
end
end Go.Proofs.YtpoofjnfaijjjaaGreatDoor
