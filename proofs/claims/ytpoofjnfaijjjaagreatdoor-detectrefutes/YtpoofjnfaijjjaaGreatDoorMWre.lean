/-
  DetectRefutes, walked.
-/
import Derived.Test.YtpoofjnfaijjjaaGreatDoorMCam
import Derived.Test.YtpoofjnfaijjjaaGreatDoorMRfz
import Derived.Test.YtpoofjnfaijjjaaGreatDoorMNLop
import Derived.Test.YtpoofjnfaijjjaaGreatDoorMNRba
namespace Go.Proofs.YtpoofjnfaijjjaaGreatDoor
open Go.RowKit Go.Proofs.YtpoofjnfaijjjaaGreatDoor.Ro
theorem refutes_short (a0 a1 a2 : Int) (a3 : Option Addr) (len3 cap3 : Nat) (w : World) (hT : Bnd.Tab w) (h : (600 : Int) < len3) :
    Calls Tryz.prog 6 #[.int .u8 a0, .int .u8 a1, .int .u8 a2, .slice a3 len3 cap3] w fun e w' => e = .returned (.bool true) ∧ Below w.heap.size w w' := by
  have hs := shown_any w hT
  go_enter Tryz.func6, Tryz.ntmps6
  go_wp2_with fail
  refine hs.mono ?_
  rintro e w1 ⟨rfl, hb1⟩
  go_wp2_with fail
  go_ret
  exact ⟨rfl, hb1⟩
theorem u8_r {n : Int} (h : (Lit.int .u8 n).wf = true) : 0 ≤ n ∧ n ≤ 255 := by simpa [Lit.wf, IntKind.min, IntKind.max, IntKind.signed, IntKind.bits] using h
theorem mod_n {a : Int} (h : 0 ≤ a) {n : Nat} (hn : 0 < n) : ∃ z : Nat, a.tmod (n : Int) = z ∧ z < n :=
  ⟨(a % (n : Int)).toNat, by
    have h1 := Int.emod_nonneg a (by omega : (n : Int) ≠ 0)
    rw [Int.tmod_eq_emod_of_nonneg h]; omega, by
    have h1 := Int.emod_nonneg a (by omega : (n : Int) ≠ 0)
    have h2 := Int.emod_lt_of_pos a (by omega : (0 : Int) < n)
    omega⟩
set_option maxRecDepth 100000 in
set_option maxHeartbeats 4000000 in
theorem refutes_walk (a0 a1 a2 : Int) (a3 : Option Addr) (len3 cap3 : Nat) (l : List Int) (w0 : (Lit.int .u8 a0).wf = true) (w1 : (Lit.int .u8 a1).wf = true) (w2 : (Lit.int .u8 a2).wf = true) (w : World) (hl : Rn.Lots w a3 len3 cap3 l) (hT : Bnd.Tab w) :
    Calls Tryz.prog 6 #[.int .u8 a0, .int .u8 a1, .int .u8 a2, .slice a3 len3 cap3] w fun e w' => e = .returned (.bool true) ∧ Below w.heap.size w w' := by
  by_cases hsh : (600 : Int) < len3
  · exact refutes_short a0 a1 a2 a3 len3 cap3 w hT hsh
  have h2 : ¬ (600 : Int) < len3 := hsh
  obtain ⟨hRl, hok⟩ := hl
  obtain ⟨_, _, e, _⟩ := id hRl
  cases e
  have m0 := u8_r w0
  have m1 := u8_r w1
  have m2 := u8_r w2
  obtain ⟨k0, hk1, hk2, hk8⟩ : ∃ k : Nat, a0.tmod 5 = k ∧ a0 % 5 = k ∧ k < 5 := ⟨(a0 % 5).toNat, by rw [Int.tmod_eq_emod_of_nonneg m0.1]; omega, by omega, by omega⟩
  obtain ⟨n, hn⟩ : ∃ n : Nat, (3 : Int) + k0 = n := ⟨3 + k0, by omega⟩
  have hn3 : 3 ≤ n := by omega
  have hn7 : n < 8 := by omega
  have hn0 : ((n : Int) == 0) = false := by rw [beq_eq_false_iff_ne]; omega
  obtain ⟨z, hz, hzn⟩ := mod_n m1.1 (by omega : 0 < n)
  obtain ⟨y, hy, hyn⟩ := mod_n m2.1 (by omega : 0 < n)
  have hs := shown_any w hT
  go_enter Tryz.func6, Tryz.ntmps6
  go_wp2_with fail
  refine hs.mono ?_
  rintro e w1 ⟨rfl, hb1⟩
  have hT1 := hT.below hT.lt hb1
  have hbg := began_any n (by omega) w1 hT1
  go_upto_region 7 with (go_at_call 24; go_must (refine hbg.mono ?_; rintro e w2 ⟨v2, B2, rfl, hB2⟩))
  obtain ⟨aV, cV, eV, _⟩ := hB2.row.len
  rw [show ((List.range n).map fun j => (B2 j).q).length = n by simp] at eV
  subst eV
  by_cases hzy : z = y
  · have hzb : ((z : Int) == (y : Int)) = true := by rw [hzy]; simp
    have hbb := bT hb1 hB2.below
    clear hzy
    go_wp2_with fail
    go_ret
    exact ⟨rfl, hbb⟩
  have hzb : ((z : Int) == (y : Int)) = false := by rw [beq_eq_false_iff_ne]; omega
  have hln := Rn.new_any _ l w2 (by omega) (hRl.below (bT hb1 hB2.below))
  go_upto_region 10 with (go_at_call 11; go_must (refine hln.mono ?_; rintro e w3 ⟨⟨p, rfl, hL3⟩, b3⟩))
  have hBw : Bw n B2 (beganS n) (.slice aV n cV) w w2 := hB2.older hb1
  obtain ⟨gd, cap, eV, hLw⟩ := law_began (hT.below hT.lt hBw.below) (by omega) hBw b3 hL3 hok
  cases eV
  obtain ⟨q, HQ⟩ : ∃ q : Nat → Nat, Hid ((fun i => (B2 i).q) = q) := ⟨_, rfl⟩
  obtain ⟨Bp, HBp⟩ : ∃ Bp, Hid (w2.heap.size = Bp) := ⟨_, rfl⟩
  rw [HQ.out, HBp.out] at hLw
  obtain ⟨hk1', hN0, hP0⟩ := ref_start (n := n) (w := z) (b := y) (by omega) hzn hyn (fun e => hzy e.symm) l
  have hkn := law_know hLw hyn ⟨z, 0, 1⟩ u0
  rw [hk1'] at hkn
  have ry := hLw.row y hyn
  have hnI : (n : Int) ≤ 7 := by omega
  have y0 : (0 : Int) ≤ y := by omega
  have hyI : (y : Int) < n := by omega
  have z0 : (0 : Int) ≤ z := by omega
  have hzI : (z : Int) < n := by omega
  clear hs hb1 hT1 hbg hB2 hln hL3 b3 hBw HQ HBp hRl hk1'
  generalize putF (beganS n) y ((beganS n y).take y ⟨z, 0, 1⟩ y l).2.1 = F0 at *
  generalize ((beganS n y).take y ⟨z, 0, 1⟩ y l).2.2 = l0 at *
  go_upto_region 12 with (go_at_call 17; go_must (refine hkn.mono ?_; rintro e w4 ⟨rfl, hL4⟩))
  clear ry hkn hLw
  go_wp2_with fail
  go_loopg [14] 60 (fun gk t14 wr => ∃ (i : Nat) (F : Nat → Det) (l : List Int) (c : Nat), i + gk = 60 ∧ t14 = .int .i64 i ∧ Lw n Bp p gd q F l w wr ∧ c ≤ 1 ∧ Net n z c F ∧ Prog n z y i c F)
  case atStart => exact ⟨0, F0, l0, 0, by omega, rfl, hL4, Nat.zero_le _, hN0, hP0⟩
  case round =>
    obtain ⟨i, F1, l1, c1, hi, rfl, hL1, hc1, hN1, hP1⟩ := hrel
    obtain ⟨G1, HG1⟩ : ∃ G, Hid (G = gk) := ⟨_, rfl⟩
    by_cases hlt : (i : Int) < 60
    · go_wp2_with fail
      go_loopg [15] n (fun gk t15 wr => ∃ (k : Nat) (F : Nat → Det) (l : List Int) (c : Nat), k + gk = n ∧ t15 = .int .i64 k ∧ Lw n Bp p gd q F l w wr ∧ c ≤ 1 ∧ Net n z c F ∧ Prog n z y (i + if z < k then 1 else 0) c F)
      case atStart => exact ⟨0, F1, l1, c1, by omega, rfl, hL1, hc1, hN1, by rw [if_neg (by omega)]; exact hP1⟩
      case round =>
        obtain ⟨k, F, l2, c, hk, rfl, hLk, hck, hNk, hPk⟩ := hrel
        obtain ⟨G2, HG2⟩ : ∃ G, Hid (G = gk) := ⟨_, rfl⟩
        by_cases hkl : (k : Int) < n
        · have k0 : (0 : Int) ≤ k := by omega
          have hkn : k < n := by omega
          obtain ⟨r1, r2, r3, c', F', l', r4, r5, r6, r7, r8, r9, r10, r11⟩ := ref_step (by omega) hn3 hzn hkn hck hNk l2
          have hPn : Prog n z y (i + if z < k + 1 then 1 else 0) c' F' := by
            by_cases ek : k = z
            · obtain ⟨x, _, _, q3, q4, q5⟩ := r11 ek hPk.sub
              have hPk' : Prog n z y i c F := by
                have := hPk
                rw [if_neg (by omega)] at this
                exact this
              rw [if_pos (by omega)]
              exact prog_own hPk' hyn (fun e => hzy e.symm) r6 r7 r8 r9 q3 q4 q5
            · have e1 : (if z < k + 1 then 1 else 0) = (if z < k then 1 else 0 : Nat) := by
                by_cases e : z < k
                · rw [if_pos e, if_pos (by omega)]
                · rw [if_neg e, if_neg (by omega)]
              rw [e1]
              exact prog_other hPk hyn (fun e => hzy e.symm) r6 r7 r8 r9 (r10 ek)
          have htk := law_tick hLk hkn (by rw [hNk.W k hkn]; exact Nat.zero_le _)
          have rk := hLk.row k hkn
          clear r6 r8 r9 r10 r11
          generalize (F k).tick k l2 = T at *
          obtain ⟨T1, T2, T3⟩ := T
          dsimp only at r1 r2 r3 r4 htk
          have HS : Hid _ := r4
          clear r4
          go_upto_region 18 with fail
          go_wp2_with (first
            | (go_at_call 13; go_must (refine htk.mono ?_; rintro e w5 ⟨v5, X5, rfl, hX5, hQ5⟩; have hst := law_settle (capd := cV) hQ5 255 (by decide) r3 (fun x hx => r1 _ (by rw [← hX5]; exact List.mem_map_of_mem hx)) (by have q1 := congrArg List.length hX5; rw [List.length_map] at q1; omega); rw [hX5, HS.out] at hst))
            | (go_at_call 25; go_must (refine hst.mono ?_; rintro e w6 ⟨rfl, hL6⟩)))
          go_roundg (gk - 1)
          case rel => exact ⟨k + 1, F', l', c', by omega, by go_num, hL6, r7, r5, hPn⟩
          case measure => omega
        · obtain rfl : k = n := by omega
          rw [if_pos hzn] at hPk
          go_wp2_with fail
          go_roundg (G1 - 1)
          case rel => exact ⟨i + 1, F, l2, c, by have := HG1.out; omega, by go_num, hLk, hck, hNk, hPk⟩
          case measure => have := HG1.out; omega
    · obtain rfl : i = 60 := by omega
      have hend := ref_end (by omega) hzn (by omega) hN1 hP1
      obtain ⟨hf1, hf2, hf3⟩ := full1_all n hn7 z hzn
      obtain ⟨LL, HLL⟩ : ∃ LL, Hid (allS (full1 n z) = LL) := ⟨_, rfl⟩
      rw [HLL.out] at hf1 hf2 hf3
      have hall1 : ∀ j, j < n → allS (F1 j).f = LL := fun j hj => by rw [hend j hj]; exact HLL.out
      have hsz : ∀ x (hx : x < LL.length), LL[x].s = 0 := fun x hx => by simpa using List.all_eq_true.1 hf3 LL[x] (List.getElem_mem _)
      clear hN1 hP1 hend HLL hf3
      obtain ⟨w7, HW7⟩ : ∃ w7, Hid (w7 = wr) := ⟨wr, rfl⟩
      rw [← HW7.out] at hL1
      go_wp2_with fail
      go_loopg [16] n (fun gk t16 wr => ∃ j : Nat, j + gk = n ∧ t16 = .int .i64 j ∧ Below w7.heap.size w7 wr)
      case atStart => exact ⟨0, by omega, rfl, by rw [HW7.out]; exact Below.refl _ _⟩
      case round =>
        obtain ⟨j, hj, rfl, hbj⟩ := hrel
        have hLj := hL1.then hbj
        by_cases hjl : (j : Int) < n
        · have j0 : (0 : Int) ≤ j := by omega
          have hjn : j < n := by omega
          have rj := hLj.row j hjn
          have hall := law_all hLj hjn
          rw [hall1 j hjn] at hall
          go_upto_region 24 with (go_at_call 28; go_must (refine hall.mono ?_; rintro e w10 ⟨⟨vA, rfl, hO⟩, b10⟩))
          obtain ⟨aA, cA, eA, _⟩ := hO.ru
          rw [hf1] at eA
          subst eA
          obtain ⟨ga, oa, rfl, u2⟩ : ∃ ga oa, aA = some ⟨ga, oa, none⟩ ∧ w10.cell? ⟨ga, oa + z * 3 + 2, none⟩ = some (.int .i64 0) := by
            obtain ⟨_, _, e, _, _, h3⟩ := hO.ru
            rw [hf1] at e
            cases e
            rcases h3 with h3 | ⟨g, off, rfl, h3⟩
            · omega
            · have h4 := h3 z (by omega)
              rw [hsz z (by omega)] at h4
              exact ⟨g, off, rfl, h4.2.2⟩
          have hL10 := hLj.then b10
          have hlv := law_live hL10 hjn
          unfold Det.live at hlv
          rw [hall1 j hjn] at hlv
          have hmn := fun w' => Rn.rmany_any (bandS LL) (bandS_lt _) w'
          rw [show Rn.manyS (bandS LL) = n from hf2] at hmn
          have r10 := hL10.row j hjn
          clear rj hall
          go_upto_region 24 with fail
          go_wp2_with (first
            | (go_at_call 27; go_must (refine hlv.mono ?_; rintro e w11 ⟨rfl, b11⟩))
            | (go_at_call 26; go_must (refine (hmn w11).mono ?_; rintro e w12 ⟨rfl, b12⟩; have u3 := (Below.cell (p := ⟨ga, oa + z * 3 + 2, none⟩) b12 (Nat.lt_of_lt_of_le (World.block_lt_of_cell? _ _ u2) b11.size)).trans ((Below.cell (p := ⟨ga, oa + z * 3 + 2, none⟩) b11 (World.block_lt_of_cell? _ _ u2)).trans u2))))
          go_roundg (gk - 1)
          case rel => exact ⟨j + 1, by omega, by go_num, bT (bT (bT hbj b10) b11) b12⟩
          case measure => omega
        · go_wp2_with fail
          go_ret
          exact ⟨rfl, hLj.below⟩
end Go.Proofs.YtpoofjnfaijjjaaGreatDoor
