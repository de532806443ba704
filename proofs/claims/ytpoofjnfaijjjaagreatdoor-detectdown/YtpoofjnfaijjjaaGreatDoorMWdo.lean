/-
  DetectDown, walked.
-/
import Derived.Test.YtpoofjnfaijjjaaGreatDoorMCam
import Derived.Test.YtpoofjnfaijjjaaGreatDoorMDwf
import Derived.Test.YtpoofjnfaijjjaaGreatDoorMNLop
import Derived.Test.YtpoofjnfaijjjaaGreatDoorMDBbn
namespace Go.Proofs.YtpoofjnfaijjjaaGreatDoor
open Go.RowKit Go.Proofs.YtpoofjnfaijjjaaGreatDoor.Ro
theorem down_short (a0 a1 : Int) (a2 : Option Addr) (len2 cap2 : Nat) (w : World) (hT : Bnd.Tab w) (h : (600 : Int) < len2) :
    Calls Tryz.prog 5 #[.int .u8 a0, .int .u8 a1, .slice a2 len2 cap2] w fun e w' => e = .returned (.bool true) ∧ Below w.heap.size w w' := by
  have hs := shown_any w hT
  go_enter Tryz.func5, Tryz.ntmps5
  go_wp2_with fail
  refine hs.mono ?_
  rintro e w1 ⟨rfl, hb1⟩
  go_wp2_with fail
  go_ret
  exact ⟨rfl, hb1⟩
theorem u8_d {n : Int} (h : (Lit.int .u8 n).wf = true) : 0 ≤ n ∧ n ≤ 255 := by simpa [Lit.wf, IntKind.min, IntKind.max, IntKind.signed, IntKind.bits] using h
theorem mod_d {a : Int} (h : 0 ≤ a) {n : Nat} (hn : 0 < n) : ∃ z : Nat, a.tmod (n : Int) = z ∧ z < n :=
  ⟨(a % (n : Int)).toNat, by
    have h1 := Int.emod_nonneg a (by omega : (n : Int) ≠ 0)
    rw [Int.tmod_eq_emod_of_nonneg h]; omega, by
    have h1 := Int.emod_nonneg a (by omega : (n : Int) ≠ 0)
    have h2 := Int.emod_lt_of_pos a (by omega : (0 : Int) < n)
    omega⟩
set_option maxRecDepth 100000 in
set_option maxHeartbeats 4000000 in
theorem down_walk (a0 a1 : Int) (a2 : Option Addr) (len2 cap2 : Nat) (l : List Int) (w0 : (Lit.int .u8 a0).wf = true) (w1 : (Lit.int .u8 a1).wf = true) (w : World) (hl : Rn.Lots w a2 len2 cap2 l) (hT : Bnd.Tab w) :
    Calls Tryz.prog 5 #[.int .u8 a0, .int .u8 a1, .slice a2 len2 cap2] w fun e w' => e = .returned (.bool true) ∧ Below w.heap.size w w' := by
  by_cases hsh : (600 : Int) < len2
  · exact down_short a0 a1 a2 len2 cap2 w hT hsh
  have h2 : ¬ (600 : Int) < len2 := hsh
  obtain ⟨hRl, hok⟩ := hl
  obtain ⟨_, _, e, _⟩ := id hRl
  cases e
  have m0 := u8_d w0
  have m1 := u8_d w1
  obtain ⟨k0, hk1, hk2, hk8⟩ : ∃ k : Nat, a0.tmod 6 = k ∧ a0 % 6 = k ∧ k < 6 := ⟨(a0 % 6).toNat, by rw [Int.tmod_eq_emod_of_nonneg m0.1]; omega, by omega, by omega⟩
  obtain ⟨n, hn⟩ : ∃ n : Nat, (3 : Int) + k0 = n := ⟨3 + k0, by omega⟩
  have hn3 : 3 ≤ n := by omega
  have hn8 : n ≤ 8 := by omega
  have hn0 : ((n : Int) == 0) = false := by rw [beq_eq_false_iff_ne]; omega
  obtain ⟨g, hz, hgn⟩ := mod_d m1.1 (by omega : 0 < n)
  have hs := shown_any w hT
  go_enter Tryz.func5, Tryz.ntmps5
  go_wp2_with fail
  refine hs.mono ?_
  rintro e w1 ⟨rfl, hb1⟩
  have hT1 := hT.below hT.lt hb1
  have hbg := began_any n (by omega) w1 hT1
  go_upto_region 6 with (go_at_call 24; go_must (refine hbg.mono ?_; rintro e w2 ⟨v2, B2, rfl, hB2⟩))
  obtain ⟨aV, cV, eV, _⟩ := hB2.row.len
  rw [show ((List.range n).map fun j => (B2 j).q).length = n by simp] at eV
  subst eV
  have hln := Rn.new_any _ l w2 (by omega) (hRl.below (bT hb1 hB2.below))
  go_upto_region 9 with (go_at_call 11; go_must (refine hln.mono ?_; rintro e w3 ⟨⟨p, rfl, hL3⟩, b3⟩))
  have hBw : Bw n B2 (beganS n) (.slice aV n cV) w w2 := hB2.older hb1
  obtain ⟨gd, cap, eV, hLw⟩ := law_began (hT.below hT.lt hBw.below) (by omega) hBw b3 hL3 hok
  cases eV
  obtain ⟨q, HQ⟩ : ∃ q : Nat → Nat, Hid ((fun i => (B2 i).q) = q) := ⟨_, rfl⟩
  obtain ⟨Bp, HBp⟩ : ∃ Bp, Hid (w2.heap.size = Bp) := ⟨_, rfl⟩
  rw [HQ.out, HBp.out] at hLw
  have hN0 := down_start (n := n) (g := g) (by omega) hgn
  have hup := Bnd.lessS_lt (b := 511) (by decide) (g : Int)
  have hle := Bnd.rless_any 511 (by decide) (g : Int) w3
  have hnI : (n : Int) ≤ 8 := by omega
  clear hs hb1 hT1 hbg hB2 hln hL3 b3 hBw HQ HBp hRl
  generalize beganS n = F0 at *
  obtain ⟨U, HU⟩ : ∃ U : Nat, Hid (Bnd.lessS 511 (g : Int) = U) := ⟨_, rfl⟩
  rw [HU.out] at hup hle
  go_upto_region 10 with (go_at_call 29; go_must (refine hle.mono ?_; rintro e w4 ⟨rfl, hw⟩; replace hw := hw.symm; subst hw))
  clear hle
  go_wp2_with fail
  go_loopg [12] 60 (fun gk t12 wr => ∃ (i : Nat) (F : Nat → Det) (l : List Int), i + gk = 60 ∧ t12 = .int .i64 i ∧ Lw n Bp p gd q F l w wr ∧ Nd2 n g i 0 F)
  case atStart => exact ⟨0, F0, l, by omega, rfl, hLw, hN0⟩
  case round =>
    obtain ⟨i, F1, l1, hi, rfl, hL1, hN1⟩ := hrel
    obtain ⟨G1, HG1⟩ : ∃ G, Hid (G = gk) := ⟨_, rfl⟩
    by_cases hlt : (i : Int) < 60
    · go_wp2_with fail
      go_loopg [13] n (fun gk t13 wr => ∃ (k : Nat) (F : Nat → Det) (l : List Int), k + gk = n ∧ t13 = .int .i64 k ∧ Lw n Bp p gd q F l w wr ∧ Nd2 n g i k F)
      case atStart => exact ⟨0, F1, l1, by omega, rfl, hL1, hN1⟩
      case round =>
        obtain ⟨k, F, l2, hk, rfl, hLk, hNk⟩ := hrel
        by_cases hkl : (k : Int) < n
        · have k0' : (0 : Int) ≤ k := by omega
          have hkn : k < n := by omega
          by_cases hkg : k = g
          · have hkb : ((k : Int) == (g : Int)) = true := by rw [hkg]; simp
            have hkb2 : ((k : Int) != (g : Int)) = false := by rw [hkg]; simp
            have hNn : Nd2 n g i (k + 1) F := by rw [hkg] at hNk ⊢; exact down_skip hNk
            clear hkg
            go_wp2_with fail
            go_roundg (gk - 1)
            case rel => exact ⟨k + 1, F, l2, by omega, by go_num, hLk, hNn⟩
            case measure => omega
          · have hkb : ((k : Int) == (g : Int)) = false := by rw [beq_eq_false_iff_ne]; omega
            have hkb2 : ((k : Int) != (g : Int)) = true := by rw [bne, hkb]; rfl
            obtain ⟨r1, r2, r3, F', l', r4, r5⟩ := down_step hn8 hn3 hgn hkn hkg (by omega) hNk l2
            have htk := law_tick hLk hkn (by
              have := (hNk.dn k hkn hkg).Wl
              rw [if_neg (by omega)] at this
              omega)
            have rk := hLk.row k hkn
            clear hkg
            generalize (F k).tick k l2 = T at *
            obtain ⟨T1, T2, T3⟩ := T
            dsimp only at r1 r2 r3 r4 htk
            have HS : Hid _ := r4
            clear r4
            go_upto_region 16 with fail
            go_wp2_with (first
              | (go_at_call 13; go_must (refine htk.mono ?_; rintro e w5 ⟨v5, X5, rfl, hX5, hQ5⟩; have hst := law_settle (capd := cV) hQ5 U hup r3 (fun x hx => r1 _ (by rw [← hX5]; exact List.mem_map_of_mem hx)) (by have q1 := congrArg List.length hX5; rw [List.length_map] at q1; omega); rw [hX5, ← HU.out, HS.out, HU.out] at hst))
              | (go_at_call 25; go_must (refine hst.mono ?_; rintro e w6 ⟨rfl, hL6⟩)))
            go_roundg (gk - 1)
            case rel => exact ⟨k + 1, F', l', by omega, by go_num, hL6, r5⟩
            case measure => omega
        · obtain rfl : k = n := by omega
          go_wp2_with fail
          go_roundg (G1 - 1)
          case rel => exact ⟨i + 1, F, l2, by have := HG1.out; omega, by go_num, hLk, down_next hNk⟩
          case measure => have := HG1.out; omega
    · obtain rfl : i = 60 := by omega
      have hend := down_end hn8 hgn (by omega) hN1
      clear hN1
      obtain ⟨w7, HW7⟩ : ∃ w7, Hid (w7 = wr) := ⟨wr, rfl⟩
      rw [← HW7.out] at hL1
      go_wp2_with fail
      go_loopg [14] n (fun gk t14 wr => ∃ k : Nat, k + gk = n ∧ t14 = .int .i64 k ∧ Below w7.heap.size w7 wr)
      case atStart => exact ⟨0, by omega, rfl, by rw [HW7.out]; exact Below.refl _ _⟩
      case round =>
        obtain ⟨k, hk, rfl, hbk⟩ := hrel
        obtain ⟨G2, HG2⟩ : ∃ G, Hid (G = gk) := ⟨_, rfl⟩
        by_cases hkl : (k : Int) < n
        · have k0' : (0 : Int) ≤ k := by omega
          have hkn : k < n := by omega
          by_cases hkg : k = g
          · have hkb : ((k : Int) == (g : Int)) = true := by rw [hkg]; simp
            have hkb2 : ((k : Int) != (g : Int)) = false := by rw [hkg]; simp
            clear hkg
            go_wp2_with fail
            go_roundg (gk - 1)
            case rel => exact ⟨k + 1, by omega, by go_num, hbk⟩
            case measure => omega
          · have hkb : ((k : Int) == (g : Int)) = false := by rw [beq_eq_false_iff_ne]; omega
            have hkb2 : ((k : Int) != (g : Int)) = true := by rw [bne, hkb]; rfl
            have hek := hend k hkn hkg
            clear hkg
            have hlv64 : (F1 k).live < Bnd.lim := bandS_lt _
            go_wp2_with fail
            go_loopg [15] n (fun gk t15 wr => ∃ j : Nat, j + gk = n ∧ t15 = .int .i64 j ∧ Below w7.heap.size w7 wr)
            case atStart => exact ⟨0, by omega, rfl, hbk⟩
            case round =>
              obtain ⟨j, hj, rfl, hbj⟩ := hrel
              by_cases hjl : (j : Int) < n
              · have j0 : (0 : Int) ≤ j := by omega
                have hjn : j < n := by omega
                have hLj := hL1.then hbj
                have rj := hLj.row k hkn
                have hlv := law_live hLj hkn
                have hhs := fun w' => Bnd.rhas_any (F1 k).live hlv64 (j : Int) w'
                rw [hek j hjn] at hhs
                generalize (F1 k).live = V at *
                by_cases hjg : j = g
                · have hjb : ((j : Int) == (g : Int)) = true := by rw [hjg]; simp
                  have hjb2 : ((j : Int) != (g : Int)) = false := by rw [hjg]; simp
                  rw [decide_eq_false (by omega)] at hhs
                  clear hjg
                  go_wp2_with (first
                    | (go_at_call 27; go_must (refine hlv.mono ?_; rintro e w8 ⟨rfl, b8⟩))
                    | (go_at_call 30; go_must (refine (hhs w8).mono ?_; rintro e w9 ⟨rfl, hw⟩; replace hw := hw.symm; subst hw)))
                  go_roundg (gk - 1)
                  case rel => exact ⟨j + 1, by omega, by go_num, bT hbj b8⟩
                  case measure => omega
                · have hjb : ((j : Int) == (g : Int)) = false := by rw [beq_eq_false_iff_ne]; omega
                  have hjb2 : ((j : Int) != (g : Int)) = true := by rw [bne, hjb]; rfl
                  rw [decide_eq_true hjg] at hhs
                  clear hjg
                  go_wp2_with (first
                    | (go_at_call 27; go_must (refine hlv.mono ?_; rintro e w8 ⟨rfl, b8⟩))
                    | (go_at_call 30; go_must (refine (hhs w8).mono ?_; rintro e w9 ⟨rfl, hw⟩; replace hw := hw.symm; subst hw)))
                  go_roundg (gk - 1)
                  case rel => exact ⟨j + 1, by omega, by go_num, bT hbj b8⟩
                  case measure => omega
              · go_wp2_with fail
                go_roundg (G2 - 1)
                case rel => exact ⟨k + 1, by have := HG2.out; omega, by go_num, hbj⟩
                case measure => have := HG2.out; omega
        · go_wp2_with fail
          go_ret
          exact ⟨rfl, (hL1.then hbk).below⟩
end Go.Proofs.YtpoofjnfaijjjaaGreatDoor
