/-
  The two detectors are alike.
-/
import Derived.Test.YtpoofjnfaijjjaaGreatDoorMFAc
namespace Go.Proofs.YtpoofjnfaijjjaaGreatDoor
open Go.RowKit Go.Proofs.YtpoofjnfaijjjaaGreatDoor.Ro
theorem run_eqW_in (d : Nat) (x : Wch) (w : World) : (Op.equalIn (d + 1 + 1) 65 (.agg (cellsW x)) (.agg (cellsW x))).run Tryz.prog w = .ok true w := by
  rw [run_equalIn_struct w (d + 1) 65 _ _ (by kernel_rfl) (by kernel_rfl)]
  simp [Program.fieldsOf, go_sem]
theorem run_neqW (x : Wch) (w : World) : (binOp .neq 65 (.agg (cellsW x)) (.agg (cellsW x))).run Tryz.prog w = .ok (.bool false) w := by
  have h := run_eqW_in 9998 x w
  simp [binOp, Op.equal, Op.maxDepth, h]
theorem run_eqEr_in (d : Nat) (x : Ern) (w : World) : (Op.equalIn (d + 1 + 1) 116 (.agg (cellsE x)) (.agg (cellsE x))).run Tryz.prog w = .ok true w := by
  rw [run_equalIn_struct w (d + 1) 116 _ _ (by kernel_rfl) (by kernel_rfl)]
  simp [Program.fieldsOf, go_sem]
theorem run_neqEr (x : Ern) (w : World) : (binOp .neq 116 (.agg (cellsE x)) (.agg (cellsE x))).run Tryz.prog w = .ok (.bool false) w := by
  have h := run_eqEr_in 9998 x w
  simp [binOp, Op.equal, Op.maxDepth, h]
section
variable {P : Program} {md : Region.Mode} {ops : Array Oper} {Q : Exit → Act → World → Prop} {S : World → Prop} {D : Nat → Bool}
end
end Go.Proofs.YtpoofjnfaijjjaaGreatDoor
namespace Go.Proofs.YtpoofjnfaijjjaaGreatDoor.Fx
open Go.RowKit Go.Proofs.YtpoofjnfaijjjaaGreatDoor Go.Proofs.YtpoofjnfaijjjaaGreatDoor.Ro
section
variable {k Bp p : Nat} {c : Rc} {b : Bl} {br : Rw} {d : Det} {l m : List Int} {w : World}
set_option maxRecDepth 100000 in
set_option maxHeartbeats 8000000 in
theorem alike_any (h : Bo k Bp p c b br d d l m w) (hW : d.W.length ≤ 100000) :
    Calls Tryz.prog 21 #[.pointer (some ⟨b.q, 0, none⟩), .pointer (some ⟨c.q, 0, none⟩)] w fun e w' => e = .returned (.bool true) ∧ Below w.heap.size w w' := by
  have hel := h.s.dt.ok.el
  obtain ⟨M, HM⟩ : ∃ M, Hid (d.W.length = M) := ⟨_, rfl⟩
  obtain ⟨N, HN⟩ : ∃ N, Hid (d.E.length = N) := ⟨_, rfl⟩
  have hwt := watches_any h.s (by omega)
  obtain ⟨ua, ucap, hvw, _⟩ := h.r.ws.len
  obtain ⟨va, vcap, hve, _⟩ := h.r.es.len
  rw [HM.out] at hvw hW
  rw [HN.out] at hve hel
  go_enter Tryz.func21, Tryz.ntmps21
  go_wp2_with fail
  refine hwt.mono ?_
  rintro e w1 ⟨⟨v1, rfl, o1⟩, b1⟩
  obtain ⟨a1, c1, rfl⟩ : ∃ a cc, v1 = .slice a M cc := by obtain ⟨a, cap, e, _⟩ := o1.len; exact ⟨a, cap, by rw [e, HM.out]⟩
  have h1 := h.below b1
  go_wp2_with fail
  refine (errands_any h1.s).mono ?_
  rintro e w2 ⟨⟨v2, rfl, o2⟩, b2⟩
  obtain ⟨a2, c2, rfl⟩ : ∃ a cc, v2 = .slice a N cc := by obtain ⟨a, cap, e, _⟩ := o2.len; exact ⟨a, cap, by rw [e, HN.out]⟩
  have h2 := h1.below b2
  have b12 := bT b1 b2
  have o1 := (o1.below b2).mono (Nat.zero_le _)
  have o2 := o2.mono (Nat.zero_le _)
  clear h h1 hwt b1 b2
  go_upto_region 3 with fail
  go_cut [60] from 13 to 60 (fun t60 wx => t60 = .bool false ∧ Below w2.heap.size w2 wx)
  case first =>
    have hW : Below w2.heap.size w2 w2.drew := bD (Below.refl _ _)
    have hB := h2.below hW
    have hS := And.intro (hB.r.c5.trans (congrArg some hvw)) (And.intro (hB.r.c6.trans (congrArg some hve)) (And.intro hB.r.c8 hB.r.c1))
    have hS0 := And.intro (h2.r.c5.trans (congrArg some hvw)) (And.intro (h2.r.c6.trans (congrArg some hve)) (And.intro h2.r.c8 h2.r.c1))
    clear o1 o2
    have hal := allS_length d.f
    go_region_held3 (fun w' => w'.cell? ⟨c.q, 5, none⟩ = some (.slice ua M ucap) ∧ w'.cell? ⟨c.q, 6, none⟩ = some (.slice va N vcap) ∧ w'.cell? ⟨c.q, 8, none⟩ = some (.int .u64 d.no) ∧ w'.cell? ⟨c.q, 1, none⟩ = some (.pointer (some ⟨c.r, 0, none⟩))) (first | exact hS | exact hS0) ((first
      | (go_at_call 59; refine (now_any (Bo.s hB)).mono ?_; rintro e w4 ⟨rfl, rfl⟩)
      | (go_at_call 27; refine (live_any (Bo.s hB)).mono ?_; rintro e w5 ⟨rfl, b5⟩; have hW := bT hW b5; have hB := hB.below b5; have hS := And.intro (hB.r.c5.trans (congrArg some hvw)) (And.intro (hB.r.c6.trans (congrArg some hve)) (And.intro hB.r.c8 hB.r.c1)))
      | (go_at_call 60; refine (flive_any (Bo.r hB)).mono ?_; rintro e w5 ⟨rfl, b5⟩; have hW := bT hW b5; have hB := hB.below b5; have hS := And.intro (hB.r.c5.trans (congrArg some hvw)) (And.intro (hB.r.c6.trans (congrArg some hve)) (And.intro hB.r.c8 hB.r.c1)))
      | (go_at_call 28; refine (dall_any (Bo.s hB)).mono ?_; rintro e w5 ⟨⟨v7, rfl, o7⟩, b5⟩; (try have o8 := o8.below b5); have hW := bT hW b5; have hB := hB.below b5; have hS := And.intro (hB.r.c5.trans (congrArg some hvw)) (And.intro (hB.r.c6.trans (congrArg some hve)) (And.intro hB.r.c8 hB.r.c1)))
      | (go_at_call 62; refine (fall_any (Bo.r hB)).mono ?_; rintro e w5 ⟨⟨v8, rfl, o8⟩, b5⟩; (try have o7 := o7.below b5); have hW := bT hW b5; have hB := hB.below b5; have hS := And.intro (hB.r.c5.trans (congrArg some hvw)) (And.intro (hB.r.c6.trans (congrArg some hve)) (And.intro hB.r.c8 hB.r.c1)))
      | (go_at_call 61; refine (rsame_any _ _ (allS d.f) _ o7.ru o8.ru).mono ?_; rintro e w5 ⟨rfl, b5⟩; have hW := bT hW b5; have hB := hB.below b5; have hS := And.intro (hB.r.c5.trans (congrArg some hvw)) (And.intro (hB.r.c6.trans (congrArg some hve)) (And.intro hB.r.c8 hB.r.c1)))))
    all_goals
      go_wp2_with fail
      go_meet
      exact ⟨rfl, hW⟩
  case rest =>
  obtain ⟨rfl, b3⟩ := hcut
  generalize wc = w3 at *
  have h3 := h2.below b3
  have o1 := o1.below b3
  have o2 := o2.below b3
  have b13 := bT b12 b3
  go_wp2_with fail
  go_loopg [7] M (fun gk t7 wr => ∃ i : Nat, i + gk = M ∧ t7 = .int .i64 i ∧ Below w3.heap.size w3 wr)
  case atStart => exact ⟨0, by omega, rfl, Below.refl _ _⟩
  case round =>
    obtain ⟨i, hi, rfl, hb⟩ := hrel
    have h4 := h3.below hb
    have o14 := o1.below hb
    by_cases hlt : (i : Int) < M
    · have i0 : (0 : Int) ≤ i := by omega
      have hil : i < d.W.length := by rw [HM.out]; omega
      have hrow := h4.r.ws
      rw [hvw] at hrow
      have c5 := h4.r.c5
      rw [hvw] at c5
      obtain ⟨g1, rfl⟩ : ∃ g1, a1 = some ⟨g1, 0, none⟩ := by
        rcases o14.2 with ⟨e, h0⟩ | ⟨g, cap, cur, e, _⟩
        · omega
        · cases e; exact ⟨g, rfl⟩
      obtain ⟨g2, rfl⟩ : ∃ g2, ua = some ⟨g2, 0, none⟩ := by
        rcases hrow.2 with ⟨e, h0⟩ | ⟨g, cap, cur, e, _⟩
        · omega
        · cases e; exact ⟨g, rfl⟩
      obtain ⟨x0, x1, x2, x3⟩ := o14.atW (by rw [HM.out]) i hil
      obtain ⟨y0, y1, y2, y3⟩ := hrow.atW (by rw [HM.out]) i hil
      generalize d.W[i] = y at *
      have hnq := run_neqW y
      go_upto_region 8 with fail
      go_quiet (fail)
      have bq := Ro.below_drewN wr.heap.size wr nq
      go_wp2_with fail
      go_roundg (gk - 1)
      case rel => exact ⟨i + 1, by omega, by go_num, bT hb bq⟩
      case measure => omega
    · obtain ⟨w4, HW4⟩ : ∃ w4, Hid (w4 = wr) := ⟨_, rfl⟩
      rw [← HW4.out] at hb h4 ⊢
      have o2 := o2.below hb
      have b14 := bT b13 hb
      clear o14 hb HW4 o1
      go_wp2_with fail
      go_loopg [8] N (fun gk t8 wr => ∃ i : Nat, i + gk = N ∧ t8 = .int .i64 i ∧ Below w4.heap.size w4 wr)
      case atStart => exact ⟨0, by omega, rfl, Below.refl _ _⟩
      case round =>
        obtain ⟨j, hj, rfl, hb⟩ := hrel
        have h5 := h4.below hb
        have o25 := o2.below hb
        by_cases hltj : (j : Int) < N
        · have j0 : (0 : Int) ≤ j := by omega
          have hjl : j < d.E.length := by rw [HN.out]; omega
          have c6 := h5.r.c6
          rw [hve] at c6
          obtain ⟨g1, rfl⟩ : ∃ g1, a2 = some ⟨g1, 0, none⟩ := by
            rcases o25.2 with ⟨e, h0⟩ | ⟨g, cap, cur, e, _⟩
            · omega
            · cases e; exact ⟨g, rfl⟩
          obtain ⟨g2, o, rfl, -, -, hrd⟩ := h5.r.es.at_ hjl hve
          obtain ⟨x0, x1, x2, x3, x4⟩ := o25.atE (by rw [HN.out]) j hjl
          obtain ⟨y0, y1, y2, y3, y4⟩ := hrd.atE j hjl
          generalize d.E[j] = y at *
          have hnq := run_neqEr y
          go_upto_region 13 with fail
          go_quiet (fail)
          have bq := Ro.below_drewN wr.heap.size wr nq
          go_wp2_with fail
          go_roundg (gk - 1)
          case rel => exact ⟨j + 1, by omega, by go_num, bT hb bq⟩
          case measure => omega
        · go_wp2_with fail
          go_ret
          exact ⟨rfl, bT b14 hb⟩
end
end Go.Proofs.YtpoofjnfaijjjaaGreatDoor.Fx
