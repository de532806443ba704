/-
  DetectCalm, walked.
-/
import Derived.Test.YtpoofjnfaijjjaaGreatDoorMCam
import Derived.Test.YtpoofjnfaijjjaaGreatDoorMNLop
import Derived.Test.YtpoofjnfaijjjaaGreatDoorMNRba
namespace Go.Proofs.YtpoofjnfaijjjaaGreatDoor
open Go.RowKit Go.Proofs.YtpoofjnfaijjjaaGreatDoor.Ro
theorem calm_short (a0 a1 : Int) (a2 : Option Addr) (len2 cap2 : Nat) (w : World) (hT : Bnd.Tab w) (h : (600 : Int) < len2) :
    Calls Tryz.prog 4 #[.int .u8 a0, .int .u8 a1, .slice a2 len2 cap2] w fun e w' => e = .returned (.bool true) ∧ Below w.heap.size w w' := by
  have hs := shown_any w hT
  go_enter Tryz.func4, Tryz.ntmps4
  go_wp2_with fail
  refine hs.mono ?_
  rintro e w1 ⟨rfl, hb1⟩
  go_wp2_with fail
  go_ret
  exact ⟨rfl, hb1⟩
theorem u8_of {n : Int} (h : (Lit.int .u8 n).wf = true) : 0 ≤ n ∧ n ≤ 255 := by simpa [Lit.wf, IntKind.min, IntKind.max, IntKind.signed, IntKind.bits] using h
set_option maxRecDepth 100000 in
set_option maxHeartbeats 4000000 in
theorem calm_walk (a0 a1 : Int) (a2 : Option Addr) (len2 cap2 : Nat) (l : List Int) (w0 : (Lit.int .u8 a0).wf = true) (w1 : (Lit.int .u8 a1).wf = true) (w : World) (hl : Rn.Lots w a2 len2 cap2 l) (hT : Bnd.Tab w) :
    Calls Tryz.prog 4 #[.int .u8 a0, .int .u8 a1, .slice a2 len2 cap2] w fun e w' => e = .returned (.bool true) ∧ Below w.heap.size w w' := by
  by_cases hsh : (600 : Int) < len2
  · exact calm_short a0 a1 a2 len2 cap2 w hT hsh
  have h2 : ¬ (600 : Int) < len2 := hsh
  obtain ⟨hRl, hok⟩ := hl
  obtain ⟨_, _, e, _⟩ := id hRl
  cases e
  have m0 := u8_of w0
  have m1 := u8_of w1
  obtain ⟨k0, hk1, hk2, hk8⟩ : ∃ k : Nat, a0.tmod 7 = k ∧ a0 % 7 = k ∧ k < 7 := ⟨(a0 % 7).toNat, by rw [Int.tmod_eq_emod_of_nonneg m0.1]; omega, by omega, by omega⟩
  obtain ⟨R, hr1, hr2, hr20⟩ : ∃ k : Nat, a1.tmod 20 = k ∧ a1 % 20 = k ∧ k < 20 := ⟨(a1 % 20).toNat, by rw [Int.tmod_eq_emod_of_nonneg m1.1]; omega, by omega, by omega⟩
  obtain ⟨n, hn⟩ : ∃ n : Nat, (2 : Int) + k0 = n := ⟨2 + k0, by omega⟩
  have hn2 : 2 ≤ n := by omega
  have hn8 : n ≤ 8 := by omega
  have hs := shown_any w hT
  go_enter Tryz.func4, Tryz.ntmps4
  go_wp2_with fail
  refine hs.mono ?_
  rintro e w1 ⟨rfl, hb1⟩
  have hT1 := hT.below hT.lt hb1
  have hbg := began_any n (by omega) w1 hT1
  go_upto_region 5 with (go_at_call 24; go_must (refine hbg.mono ?_; rintro e w2 ⟨v2, B2, rfl, hB2⟩))
  have hln := Rn.new_any _ l w2 (by omega) (hRl.below (bT hb1 hB2.below))
  obtain ⟨aV, cV, eV, _⟩ := hB2.row.len
  rw [show ((List.range n).map fun j => (B2 j).q).length = n by simp] at eV
  subst eV
  go_upto_region 8 with (go_at_call 11; go_must (refine hln.mono ?_; rintro e w3 ⟨⟨p, rfl, hL3⟩, b3⟩))
  have hBw : Bw n B2 (beganS n) (.slice aV n cV) w w2 := hB2.older hb1
  obtain ⟨gd, cap, eV, hLw⟩ := law_began (hT.below hT.lt hBw.below) (by omega) hBw b3 hL3 hok
  cases eV
  obtain ⟨q, HQ⟩ : ∃ q : Nat → Nat, Hid ((fun i => (B2 i).q) = q) := ⟨_, rfl⟩
  obtain ⟨Bp, HBp⟩ : ∃ Bp, Hid (w2.heap.size = Bp) := ⟨_, rfl⟩
  rw [HQ.out, HBp.out] at hLw
  have hCm : ∀ j, j < n → Cm n j (beganS n j) := fun j hj => began_cm (by omega) hj
  have hnI : (n : Int) ≤ 8 := by omega
  have hRI : (R : Int) < 20 := by omega
  clear hs hb1 hT1 hbg hB2 hln hL3 b3 hBw HQ HBp hRl
  generalize beganS n = F0 at *
  go_wp2_with fail
  go_loopg [10] R (fun gk t10 wr => ∃ (i : Nat) (F : Nat → Det) (l : List Int), i + gk = R ∧ t10 = .int .i64 i ∧ Lw n Bp p gd q F l w wr ∧ ∀ j, j < n → Cm n j (F j))
  case atStart => exact ⟨0, F0, l, by omega, rfl, hLw, hCm⟩
  case round =>
    obtain ⟨i, F1, l1, hi, rfl, hL1, hC1⟩ := hrel
    obtain ⟨G1, HG1⟩ : ∃ G, Hid (G = gk) := ⟨_, rfl⟩
    by_cases hlt : (i : Int) < R
    · go_wp2_with fail
      go_loopg [11] n (fun gk t11 wr => ∃ (k : Nat) (F : Nat → Det) (l : List Int), k + gk = n ∧ t11 = .int .i64 k ∧ Lw n Bp p gd q F l w wr ∧ ∀ j, j < n → Cm n j (F j))
      case atStart => exact ⟨0, F1, l1, by omega, rfl, hL1, hC1⟩
      case round =>
        obtain ⟨k, F, l2, hk, rfl, hLk, hCk⟩ := hrel
        obtain ⟨G2, HG2⟩ : ∃ G, Hid (G = gk) := ⟨_, rfl⟩
        by_cases hkl : (k : Int) < n
        · have k0 : (0 : Int) ≤ k := by omega
          have hkn : k < n := by omega
          obtain ⟨c1, c2, c3, c4, c5⟩ := calm_step hn8 hkn hn2 hCk l2
          have htk := law_tick hLk hkn (by rw [(hCk k hkn).W]; exact Nat.zero_le _)
          have rk := hLk.row k hkn
          generalize (F k).tick k l2 = T at *
          obtain ⟨T1, T2, T3⟩ := T
          dsimp only at c1 c2 c3 c4 c5 htk
          obtain ⟨S, HS⟩ : ∃ S, Hid (settleS n 255 5001 (putF F k T2) T1 T3 = S) := ⟨_, rfl⟩
          rw [HS.out] at c4 c5
          obtain ⟨S1, S2, S3⟩ := S
          dsimp only at c4 c5
          subst c4
          go_upto_region 14 with fail
          go_wp2_with (first
            | (go_at_call 13; go_must (refine htk.mono ?_; rintro e w5 ⟨v5, X5, rfl, hX5, hQ5⟩; have hst := law_settle (capd := cV) hQ5 255 (by decide) c3 (fun x hx => c1 _ (by rw [← hX5]; exact List.mem_map_of_mem hx)) (by have q1 := congrArg List.length hX5; rw [List.length_map] at q1; omega); rw [hX5, HS.out] at hst))
            | (go_at_call 25; go_must (refine hst.mono ?_; rintro e w6 ⟨rfl, hL6⟩)))
          clear htk hst rk c3 c1 c2 hX5 hQ5
          go_wp2_with fail
          go_loopg [12] n (fun gk t12 wr => ∃ j : Nat, j + gk = n ∧ t12 = .int .i64 j ∧ Below w6.heap.size w6 wr)
          case atStart => exact ⟨0, by omega, rfl, Below.refl _ _⟩
          case round =>
            obtain ⟨j, hj, rfl, hbj⟩ := hrel
            obtain ⟨G3, HG3⟩ : ∃ G, Hid (G = gk) := ⟨_, rfl⟩
            have hLj := hL6.then hbj
            by_cases hjl : (j : Int) < n
            · have j0 : (0 : Int) ≤ j := by omega
              have hjn : j < n := by omega
              have rj := hLj.row j hjn
              have hCj := c5 j hjn
              have hlv := law_live hLj hjn
              unfold Det.live at hlv
              rw [hCj.f] at hlv
              have hmn := fun w' => Rn.rmany_any (bandS (allS (full n))) (bandS_lt _) w'
              rw [show Rn.manyS (bandS (allS (full n))) = n from live_full n hn2 hn8] at hmn
              go_upto_region 21 with (first
                | (go_at_call 27; go_must (refine hlv.mono ?_; rintro e w8 ⟨rfl, b8⟩))
                | (go_at_call 26; go_must (refine (hmn w8).mono ?_; rintro e w9 ⟨rfl, b9⟩)))
              have hL9 := (hLj.then b8).then b9
              have hall := law_all hL9 hjn
              rw [hCj.f] at hall
              have haf := all_full (n := n) (by omega) (by omega)
              have hB9 := bT (bT hbj b8) b9
              have r9 := hL9.row j hjn
              clear rj hlv hmn b8 b9
              obtain ⟨LL, HLL⟩ : ∃ LL, Hid (allS (full n) = LL) := ⟨_, rfl⟩
              rw [HLL.out] at hall haf
              go_upto_region 22 with (go_at_call 28; go_must (refine hall.mono ?_; rintro e w10 ⟨⟨vA, rfl, hO⟩, b10⟩))
              obtain ⟨aA, cA, eA, _⟩ := hO.ru
              subst eA
              have hLm : (LL.length : Int) ≤ 9223372036854775807 := by
                obtain ⟨_, _, e1, e2, e3, _⟩ := hO.ru
                unfold maxLen at e3
                omega
              have hB10 := bT hB9 b10
              clear r9 hall
              go_wp2_with fail
              go_loopg [14] LL.length (fun gk t14 wr => ∃ x : Nat, x + gk = LL.length ∧ t14 = .int .i64 x ∧ wr = w10)
              case atStart => exact ⟨0, by omega, rfl, rfl⟩
              case round =>
                obtain ⟨x, hx, rfl, hwr⟩ := hrel
                subst hwr
                by_cases hxl : (x : Int) < LL.length
                · have x0 : (0 : Int) ≤ x := by omega
                  have hxn : x < LL.length := by omega
                  obtain ⟨ga, oa, rfl, u1, u2⟩ : ∃ ga oa, aA = some ⟨ga, oa, none⟩ ∧ wr.cell? ⟨ga, oa + x * 3 + 1, none⟩ = some (.int .u64 0) ∧ wr.cell? ⟨ga, oa + x * 3 + 2, none⟩ = some (.int .i64 0) := by
                    obtain ⟨_, _, e, _, _, h3⟩ := hO.ru
                    cases e
                    rcases h3 with h3 | ⟨g, off, rfl, h3⟩
                    · omega
                    · have h4 := h3 x hxn
                      have h5 := haf LL[x] (List.getElem_mem hxn)
                      rw [h5.1, h5.2] at h4
                      exact ⟨g, off, rfl, h4.2.1, h4.2.2⟩
                  go_wp2_with fail
                  go_roundg (gk - 1)
                  case rel => exact ⟨x + 1, by omega, by go_num, rfl⟩
                  case measure => omega
                · go_wp2_with fail
                  go_roundg (G3 - 1)
                  case rel => exact ⟨j + 1, by have := HG3.out; omega, by go_num, hB10⟩
                  case measure => have := HG3.out; omega
            · obtain rfl : j = n := by omega
              go_wp2_with fail
              go_roundg (G2 - 1)
              case rel => exact ⟨k + 1, S2, S3, by have := HG2.out; omega, by go_num, hLj, c5⟩
              case measure => have := HG2.out; omega
        · obtain rfl : k = n := by omega
          go_wp2_with fail
          go_roundg (G1 - 1)
          case rel => exact ⟨i + 1, F, l2, by have := HG1.out; omega, by go_num, hLk, hCk⟩
          case measure => have := HG1.out; omega
    · go_wp2_with fail
      go_ret
      exact ⟨rfl, hL1.below⟩
end Go.Proofs.YtpoofjnfaijjjaaGreatDoor
