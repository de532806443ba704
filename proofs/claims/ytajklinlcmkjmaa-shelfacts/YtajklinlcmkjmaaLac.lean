/-
  ShelfActs: the walk. (Written by tools/mklac.py.)
-/
import Derived.Test.YtajklinlcmkjmaaTwn
namespace Go.Proofs.Ytajklinlcmkjmaa
open Go.RowKit

theorem cell_but {B p : Nat} {a : Addr} {v : Value} {w w' : World} (h : w.cell? a = some v) (k : But B p w w') (hb : a.block < B) (hp : a.block ≠ p) : w'.cell? a = some v := (World.cell?_of_block (w := w) (k.block _ hb hp)).trans h

set_option maxRecDepth 100000 in
set_option maxHeartbeats 16000000 in
theorem acts_core (v : Value) (l : List Ac) (w : World) (hR : Ra v l w) (hOk : ∀ x ∈ l, AcOk x) :
    Calls Try.prog 3 #[v] w fun e w' => e = .returned (.bool true) ∧ Below w.heap.size w w' := by
  obtain ⟨a, cap, rfl, h3⟩ := id hR
  by_cases hla : 200 < l.length
  · have z1 : decide ((200 : Int) < (l.length : Int)) = true := decide_eq_true (by omega)
    have z1N : decide (200 < l.length) = true := decide_eq_true hla
    go_enter Try.func3, Try.ntmps3
    go_wp2_with fail
    refine (shown_any _).mono ?_
    rintro e w1 ⟨rfl, hb⟩
    go_wp2_with fail
    go_ret
    exact ⟨rfl, hb⟩
  · have z1 : decide ((200 : Int) < (l.length : Int)) = false := decide_eq_false (by omega)
    have z1N : decide (200 < l.length) = false := decide_eq_false hla
    have hll : (l.length : Int) ≤ 200 := by omega
    have hz := run_zero_shelf
    have hn := shelf_zero_ne
    have hS0 := fun w => Sf.new w
    have b0 := fun w => below_alloc w (.cells (shC 0 R0).toArray 32)
    generalize (shC 0 R0).toArray = A at *
    go_enter Try.func3, Try.ntmps3
    go_wp2_with fail
    refine (shown_any _).mono ?_
    rintro e w1 ⟨rfl, hb1⟩
    have hS1 := hS0 w1
    have hB1 := hb1.trans ((b0 w1).mono hb1.size)
    have hp : w.heap.size ≤ w1.heap.size := hb1.size
    have hs2 : (w1.alloc (.cells A 32)).heap.size = w1.heap.size + 1 := by simp
    have b2 := below_alloc (w1.alloc (.cells A 32)) (.cells #[.slice none 0 0, .int .u64 0] 36)
    have hF2 := Rf.new (w1.alloc (.cells A 32)) (B := w1.heap.size + 2) (by rw [hs2]; omega)
    rw [hs2] at hF2
    have hS2 := hS1.below b2
    have hB2 := hB1.trans (b2.mono hB1.size)
    have hz2 : w1.heap.size + 2 ≤ ((w1.alloc (.cells A 32)).alloc (.cells #[.slice none 0 0, .int .u64 0] 36)).heap.size := by simp
    go_wp2_with fail
    clear hz hn hS0 b0 b2
    go_loopg [5] l.length (fun gk t5 wr => ∃ k : Nat, k + gk = l.length ∧ t5 = .int .i64 k ∧ (∃ low R L, Cp low R L ∧ low ≤ 64 * (k : Int) ∧ L.length ≤ k ∧ Sf w1.heap.size low R wr ∧ Rf (w1.heap.size + 2) (w1.heap.size + 1) low L wr) ∧ Below w.heap.size w wr ∧ w1.heap.size + 2 ≤ wr.heap.size)
    case atStart => exact ⟨0, by omega, rfl, ⟨0, R0, [], Cp.zero, by omega, by simp, hS2, hF2⟩, hB2, hz2⟩
    case round =>
      obtain ⟨k, hk, rfl, ⟨low, R, L, hC, hlow, hlen, hS, hF⟩, hB, hzr⟩ := hrel
      have k0 : (0 : Int) ≤ k := by omega
      have l0 := hC.l0
      by_cases hlt : (k : Int) < l.length
      · have hkl : k < l.length := by omega
        have hll1 : low ≤ 1000000 := by omega
        obtain ⟨ga, off, rfl, hga, d0, d1, d2, d3, d4, d5⟩ := (hR.below hB).at_ hkl
        have hga0 : ga < w.heap.size := by
          obtain ⟨ga', off', e, h, _⟩ := hR.at_ hkl
          cases e; exact h
        have hx := hOk _ (List.getElem_mem hkl)
        obtain ⟨hx0, hx1⟩ := hx.n
        have hLL : L.length ≤ 1000 := by omega
        have hcl := hS.clow
        obtain ⟨aF, cF, q0, q1, hfz, _⟩ := hF.cells
        clear h3 hx hfz
        generalize l[k] = x at *
        obtain ⟨K, N, near, g⟩ := x
        dsimp only at d0 d1 d2 d3 d4 d5 hx0 hx1
        obtain ⟨M, e1, e2, hM⟩ : ∃ M : Nat, N % 70 = M ∧ N.tmod 70 = M ∧ M ≤ 69 := ⟨(N % 70).toNat, by omega, by rw [Int.tmod_eq_emod_of_nonneg hx0]; omega, by omega⟩
        have hM' : (M : Int) ≤ 69 := by omega
        have hM0 : 0 ≤ (M : Int) := by omega
        cases near
        case false =>
          by_cases ht : 100 < (g.x.size : Int)
          · have z2 : decide (100 < (g.x.size : Int)) = true := decide_eq_true ht
            go_wp2_with fail
            refine (shown_any _).mono ?_
            rintro e w5 ⟨rfl, hb5⟩
            go_wp2_with fail
            go_ret
            exact ⟨rfl, hB.trans (hb5.mono hB.size)⟩
          · have z2 : decide (100 < (g.x.size : Int)) = false := decide_eq_false ht
            have hput := fun w' h => sput_any w1.heap.size low R N g (by omega) (by omega) l0 hll1 w' h
            have hget := fun w' h => sget_any w1.heap.size low R N (by omega) w' h
            have htrm := fun w' h => strim_all w1.heap.size low R N l0 hll1 hC.ri w' h
            have hput2 := fun w' hz h => fput_all (w1.heap.size + 2) (w1.heap.size + 1) low R L N g hC hLL (by omega) (by omega) hll1 w' hz h
            have hget2 := fun w' h => fget_all (w1.heap.size + 2) (w1.heap.size + 1) low R L N hC hLL w' h
            have htrm2 := fun w' hz h => ftrim_all (w1.heap.size + 2) (w1.heap.size + 1) low R L N hC hLL hll1 w' hz h
            have hpB : w1.heap.size < w1.heap.size + 2 := by omega
            have hpq : w1.heap.size ≠ w1.heap.size + 1 := by omega
            by_cases hk0 : K = 0
            · have y0 : (K == 0) = true := by simp [hk0]
              clear hget hget2 htrm htrm2 hk0
              have hC9 := hC.put N g
              have hlen9 := putL_len low L N g
              generalize putE low (hasR low R N) N g = E at *
              generalize putR low R N g = R9 at *
              generalize putL low L N g = L9 at *
              have hSd := hS.drew
              have hFd : Rf (w1.heap.size + 2) (w1.heap.size + 1) low L wr.drew := hF.keep fun _ _ _ => rfl
              have hBd := hB.drew
              have hzd : w1.heap.size + 2 ≤ wr.drew.heap.size := hzr
              have hgz : ga ≠ w1.heap.size := by omega
              have hgz1 : ga ≠ w1.heap.size + 1 := by omega
              have hga2 : ga < w1.heap.size + 2 := by omega
              have d3d : wr.drew.cell? ⟨ga, off + k * 6 + 3, none⟩ = some (.int .i64 g.s) := d3
              have d4d : wr.drew.cell? ⟨ga, off + k * 6 + 4, none⟩ = some (.int .u64 g.m) := d4
              have d5d : wr.drew.cell? ⟨ga, off + k * 6 + 5, none⟩ = some (.string g.x) := d5
              go_upto_region 16 with fail
              go_region_with (first
                | (go_at_call 9; first
                    | (refine (hput _ hSb).mono ?_; rintro e wa ⟨rfl, hSa, hba⟩; have hSz := hSa; have hFz := hFb.but hba hpB hpq; have hBz : Below w.heap.size w wa := hBb.trans ((hba.mono (B := w.heap.size) hBb.size).to hp); have hzz := Nat.le_trans hzb hba.size; have d3z := cell_but d3b hba (by show ga < _; omega) hgz; have d4z := cell_but d4b hba (by show ga < _; omega) hgz; have d5z := cell_but d5b hba (by show ga < _; omega) hgz)
                    | (refine (hput _ hSd).mono ?_; rintro e wa ⟨rfl, hSa, hba⟩; have hFa := hFd.but hba hpB hpq; have hBa : Below w.heap.size w wa := hBd.trans ((hba.mono (B := w.heap.size) hBd.size).to hp); have hza := Nat.le_trans hzd hba.size; have d3a := cell_but d3d hba (by show ga < _; omega) hgz; have d4a := cell_but d4d hba (by show ga < _; omega) hgz; have d5a := cell_but d5d hba (by show ga < _; omega) hgz))
                | (go_at_call 10; first
                    | (refine (hput2 _ hza hFa).mono ?_; rintro e wb ⟨rfl, hFz, hbb⟩; have hSz := hSa.butB hbb hpB hpq; have hBz : Below w.heap.size w wb := hBa.trans ((hbb.mono (B := w.heap.size) (by omega)).to (by omega)); have hzz := Nat.le_trans hza hbb.size; have d3z := cell_but d3a hbb hga2 hgz1; have d4z := cell_but d4a hbb hga2 hgz1; have d5z := cell_but d5a hbb hga2 hgz1)
                    | (refine (hput2 _ hzd hFd).mono ?_; rintro e wb ⟨rfl, hFb, hbb⟩; have hSb := hSd.butB hbb hpB hpq; have hBb : Below w.heap.size w wb := hBd.trans ((hbb.mono (B := w.heap.size) (by omega)).to (by omega)); have hzb := Nat.le_trans hzd hbb.size; have d3b := cell_but d3d hbb hga2 hgz1; have d4b := cell_but d4d hbb hga2 hgz1; have d5b := cell_but d5d hbb hga2 hgz1)))
              all_goals
                have hS9 := hSz
                have hF9 := hFz
                have hB9 := hBz
                have hz9 := hzz
                have hl9 := hll1
                have hn9 : L9.length ≤ 1000 := by omega
                go_wp2_with fail
                refine (slow_any _ _ _ _ hS9).mono ?_
                rintro e w10 ⟨rfl, rfl⟩
                go_wp2_with fail
                refine (flow_any _ _ _ _ _ hF9).mono ?_
                rintro e w11 ⟨rfl, rfl⟩
                go_wp2_with fail
                refine (sreach_any _ _ _ hC9.l0 hl9 _ hS9).mono ?_
                rintro e w12 ⟨rfl, hb12⟩
                have hS12 := hS9.below hb12
                have hF12 := hF9.below hb12
                have hB12 := hB9.trans (hb12.mono hB9.size)
                have hz12 := Nat.le_trans hz9 hb12.size
                clear hb12
                go_wp2_with fail
                refine (freach_all _ _ _ _ _ hC9 hn9 hl9 _ hF12).mono ?_
                rintro e w13 ⟨rfl, hb13⟩
                have hS13 := hS12.below hb13
                have hF13 := hF12.below hb13
                have hB13 := hB12.trans (hb13.mono hB12.size)
                have hz13 := Nat.le_trans hz12 hb13.size
                clear hb13
                go_wp2_with fail
                refine (shave_any _ _ _ hC9.l0 hl9 _ hS13).mono ?_
                rintro e w14 ⟨⟨v14, rfl, hv14⟩, hb14⟩
                have hS14 := hS13.below hb14
                have hF14 := hF13.below hb14
                have hB14 := hB13.trans (hb14.mono hB13.size)
                have hz14 := Nat.le_trans hz13 hb14.size
                clear hb14
                go_wp2_with fail
                refine (fhave_all _ _ _ _ _ hC9 hn9 hl9 _ hF14).mono ?_
                rintro e w15 ⟨⟨v15, rfl, hv15⟩, hb15⟩
                have hS15 := hS14.below hb15
                have hF15 := hF14.below hb15
                have hv15' := hv14.below hb15
                have hB15 := hB14.trans (hb15.mono hB14.size)
                have hz15 := Nat.le_trans hz14 hb15.size
                clear hb15
                go_wp2_with fail
                refine (same_any _ _ _ _ (by have := haveR_len (R := R9) hC9.l0 hl9; omega) hv15' hv15).mono ?_
                rintro e w16 ⟨rfl, hb16⟩
                have hS16 := hS15.below hb16
                have hF16 := hF15.below hb16
                have hB16 := hB15.trans (hb16.mono hB15.size)
                have hz16 := Nat.le_trans hz15 hb16.size
                clear hb16 hv15 hv15' hv14
                go_wp2_with fail
                go_roundg (gk - 1)
                case rel => exact ⟨k + 1, by omega, by go_num, ⟨_, _, _, hC9, by omega, by omega, hS16, hF16⟩, hB16, hz16⟩
                case measure => omega
            · have y0 : (K == 0) = false := by simp [hk0]
              by_cases hk1 : K = 1
              · have y1 : (K == 1) = true := by simp [hk1]
                clear hput hput2 htrm htrm2 hk0 hk1
                generalize getE low (hasR low R N) N = E at *
                generalize getM low R N = gm at *
                go_wp2_with fail
                refine (hget _ hS).mono ?_
                rintro e w4 ⟨rfl, hb4⟩
                have hB4 := hB.trans (hb4.mono hB.size)
                have hS4 := hS.below hb4
                have hF4 := hF.below hb4
                have hz4 := Nat.le_trans hzr hb4.size
                have b5 := below_alloc w4 (.cells #[.int .i64 gm.s, .int .u64 gm.m, .string gm.x] 27)
                have hB5 := hB4.trans (b5.mono hB4.size)
                have hS5 := hS4.below b5
                have hF5 := hF4.below b5
                have hz5 := Nat.le_trans hz4 b5.size
                have hm5 := Bm.new gm w4
                clear hb4 b5
                go_wp2_with fail
                refine (hget2 _ hF5).mono ?_
                rintro e w6 ⟨rfl, hb6⟩
                have hB6 := hB5.trans (hb6.mono hB5.size)
                have hS6 := hS5.below hb6
                have hF6 := hF5.below hb6
                have hz6 := Nat.le_trans hz5 hb6.size
                have hm6 := hm5.below hb6
                have b7 := below_alloc w6 (.cells #[.int .i64 gm.s, .int .u64 gm.m, .string gm.x] 27)
                have hB9 := hB6.trans (b7.mono hB6.size)
                have hS9 := hS6.below b7
                have hF9 := hF6.below b7
                have hz9 := Nat.le_trans hz6 b7.size
                have hm7 := hm6.below b7
                have hm8 := Bm.new gm w6
                have c0 := hm7.c0
                have c1 := hm7.c1
                have c2 := hm7.c2
                have c3 := hm8.c0
                have c4 := hm8.c1
                have c5 := hm8.c2
                have hq := run_eqlM gm
                have hC9 := hC
                have hl9 := hll1
                have hn9 := hLL
                obtain ⟨R9, hR9⟩ : ∃ z, z = R := ⟨_, rfl⟩
                subst hR9
                clear hb6 b7 hm5 hm6 hm7 hm8
                go_wp2_with fail
                refine (slow_any _ _ _ _ hS9).mono ?_
                rintro e w10 ⟨rfl, rfl⟩
                go_wp2_with fail
                refine (flow_any _ _ _ _ _ hF9).mono ?_
                rintro e w11 ⟨rfl, rfl⟩
                go_wp2_with fail
                refine (sreach_any _ _ _ hC9.l0 hl9 _ hS9).mono ?_
                rintro e w12 ⟨rfl, hb12⟩
                have hS12 := hS9.below hb12
                have hF12 := hF9.below hb12
                have hB12 := hB9.trans (hb12.mono hB9.size)
                have hz12 := Nat.le_trans hz9 hb12.size
                clear hb12
                go_wp2_with fail
                refine (freach_all _ _ _ _ _ hC9 hn9 hl9 _ hF12).mono ?_
                rintro e w13 ⟨rfl, hb13⟩
                have hS13 := hS12.below hb13
                have hF13 := hF12.below hb13
                have hB13 := hB12.trans (hb13.mono hB12.size)
                have hz13 := Nat.le_trans hz12 hb13.size
                clear hb13
                go_wp2_with fail
                refine (shave_any _ _ _ hC9.l0 hl9 _ hS13).mono ?_
                rintro e w14 ⟨⟨v14, rfl, hv14⟩, hb14⟩
                have hS14 := hS13.below hb14
                have hF14 := hF13.below hb14
                have hB14 := hB13.trans (hb14.mono hB13.size)
                have hz14 := Nat.le_trans hz13 hb14.size
                clear hb14
                go_wp2_with fail
                refine (fhave_all _ _ _ _ _ hC9 hn9 hl9 _ hF14).mono ?_
                rintro e w15 ⟨⟨v15, rfl, hv15⟩, hb15⟩
                have hS15 := hS14.below hb15
                have hF15 := hF14.below hb15
                have hv15' := hv14.below hb15
                have hB15 := hB14.trans (hb15.mono hB14.size)
                have hz15 := Nat.le_trans hz14 hb15.size
                clear hb15
                go_wp2_with fail
                refine (same_any _ _ _ _ (by have := haveR_len (R := R9) hC9.l0 hl9; omega) hv15' hv15).mono ?_
                rintro e w16 ⟨rfl, hb16⟩
                have hS16 := hS15.below hb16
                have hF16 := hF15.below hb16
                have hB16 := hB15.trans (hb16.mono hB15.size)
                have hz16 := Nat.le_trans hz15 hb16.size
                clear hb16 hv15 hv15' hv14
                go_wp2_with fail
                go_roundg (gk - 1)
                case rel => exact ⟨k + 1, by omega, by go_num, ⟨_, _, _, hC9, by omega, by omega, hS16, hF16⟩, hB16, hz16⟩
                case measure => omega
              · have y1 : (K == 1) = false := by simp [hk1]
                by_cases hk2 : K = 2
                · have y2 : (K == 2) = true := by simp [hk2]
                  clear hput hput2 hget hget2 hk0 hk1 hk2
                  have hC9 := hC.trims N
                  have hl9' := tLow_le low R N
                  have hlen9 := tL_len low R L N
                  generalize tE low R N = E at *
                  generalize tLow low R N = low9 at *
                  generalize tR low R N = R9 at *
                  generalize tL low R L N = L9 at *
                  go_wp2_with fail
                  refine (htrm _ hS).mono ?_
                  rintro e w4 ⟨rfl, hS4, hb4⟩
                  have hF4 := hF.but (hb4) hpB hpq
                  have hB4 : Below w.heap.size w w4 := hB.trans ((hb4.mono (B := w.heap.size) hB.size).to hp)
                  have hz4 := Nat.le_trans hzr hb4.size
                  go_wp2_with fail
                  refine (htrm2 _ hz4 hF4).mono ?_
                  rintro e w6 ⟨rfl, hF9, hb6⟩
                  have hS9 := hS4.butB hb6 hpB hpq
                  have hB9 : Below w.heap.size w w6 := hB4.trans ((hb6.mono (B := w.heap.size) (by omega)).to (by omega))
                  have hz9 := Nat.le_trans hz4 hb6.size
                  have hl9 : low9 ≤ 1000000 := by omega
                  have hn9 : L9.length ≤ 1000 := by omega
                  clear hb4 hb6
                  go_wp2_with fail
                  refine (slow_any _ _ _ _ hS9).mono ?_
                  rintro e w10 ⟨rfl, rfl⟩
                  go_wp2_with fail
                  refine (flow_any _ _ _ _ _ hF9).mono ?_
                  rintro e w11 ⟨rfl, rfl⟩
                  go_wp2_with fail
                  refine (sreach_any _ _ _ hC9.l0 hl9 _ hS9).mono ?_
                  rintro e w12 ⟨rfl, hb12⟩
                  have hS12 := hS9.below hb12
                  have hF12 := hF9.below hb12
                  have hB12 := hB9.trans (hb12.mono hB9.size)
                  have hz12 := Nat.le_trans hz9 hb12.size
                  clear hb12
                  go_wp2_with fail
                  refine (freach_all _ _ _ _ _ hC9 hn9 hl9 _ hF12).mono ?_
                  rintro e w13 ⟨rfl, hb13⟩
                  have hS13 := hS12.below hb13
                  have hF13 := hF12.below hb13
                  have hB13 := hB12.trans (hb13.mono hB12.size)
                  have hz13 := Nat.le_trans hz12 hb13.size
                  clear hb13
                  go_wp2_with fail
                  refine (shave_any _ _ _ hC9.l0 hl9 _ hS13).mono ?_
                  rintro e w14 ⟨⟨v14, rfl, hv14⟩, hb14⟩
                  have hS14 := hS13.below hb14
                  have hF14 := hF13.below hb14
                  have hB14 := hB13.trans (hb14.mono hB13.size)
                  have hz14 := Nat.le_trans hz13 hb14.size
                  clear hb14
                  go_wp2_with fail
                  refine (fhave_all _ _ _ _ _ hC9 hn9 hl9 _ hF14).mono ?_
                  rintro e w15 ⟨⟨v15, rfl, hv15⟩, hb15⟩
                  have hS15 := hS14.below hb15
                  have hF15 := hF14.below hb15
                  have hv15' := hv14.below hb15
                  have hB15 := hB14.trans (hb15.mono hB14.size)
                  have hz15 := Nat.le_trans hz14 hb15.size
                  clear hb15
                  go_wp2_with fail
                  refine (same_any _ _ _ _ (by have := haveR_len (R := R9) hC9.l0 hl9; omega) hv15' hv15).mono ?_
                  rintro e w16 ⟨rfl, hb16⟩
                  have hS16 := hS15.below hb16
                  have hF16 := hF15.below hb16
                  have hB16 := hB15.trans (hb16.mono hB15.size)
                  have hz16 := Nat.le_trans hz15 hb16.size
                  clear hb16 hv15 hv15' hv14
                  go_wp2_with fail
                  go_roundg (gk - 1)
                  case rel => exact ⟨k + 1, by omega, by go_num, ⟨_, _, _, hC9, by omega, by omega, hS16, hF16⟩, hB16, hz16⟩
                  case measure => omega
                · have y2 : (K == 2) = false := by simp [hk2]
                  clear hput hput2 hget hget2 htrm htrm2 hk0 hk1 hk2
                  have hS9 := hS
                  have hF9 := hF
                  have hB9 := hB
                  have hz9 := hzr
                  have hC9 := hC
                  have hl9 := hll1
                  have hn9 := hLL
                  obtain ⟨R9, hR9⟩ : ∃ z, z = R := ⟨_, rfl⟩
                  subst hR9
                  go_wp2_with fail
                  refine (slow_any _ _ _ _ hS9).mono ?_
                  rintro e w10 ⟨rfl, rfl⟩
                  go_wp2_with fail
                  refine (flow_any _ _ _ _ _ hF9).mono ?_
                  rintro e w11 ⟨rfl, rfl⟩
                  go_wp2_with fail
                  refine (sreach_any _ _ _ hC9.l0 hl9 _ hS9).mono ?_
                  rintro e w12 ⟨rfl, hb12⟩
                  have hS12 := hS9.below hb12
                  have hF12 := hF9.below hb12
                  have hB12 := hB9.trans (hb12.mono hB9.size)
                  have hz12 := Nat.le_trans hz9 hb12.size
                  clear hb12
                  go_wp2_with fail
                  refine (freach_all _ _ _ _ _ hC9 hn9 hl9 _ hF12).mono ?_
                  rintro e w13 ⟨rfl, hb13⟩
                  have hS13 := hS12.below hb13
                  have hF13 := hF12.below hb13
                  have hB13 := hB12.trans (hb13.mono hB12.size)
                  have hz13 := Nat.le_trans hz12 hb13.size
                  clear hb13
                  go_wp2_with fail
                  refine (shave_any _ _ _ hC9.l0 hl9 _ hS13).mono ?_
                  rintro e w14 ⟨⟨v14, rfl, hv14⟩, hb14⟩
                  have hS14 := hS13.below hb14
                  have hF14 := hF13.below hb14
                  have hB14 := hB13.trans (hb14.mono hB13.size)
                  have hz14 := Nat.le_trans hz13 hb14.size
                  clear hb14
                  go_wp2_with fail
                  refine (fhave_all _ _ _ _ _ hC9 hn9 hl9 _ hF14).mono ?_
                  rintro e w15 ⟨⟨v15, rfl, hv15⟩, hb15⟩
                  have hS15 := hS14.below hb15
                  have hF15 := hF14.below hb15
                  have hv15' := hv14.below hb15
                  have hB15 := hB14.trans (hb15.mono hB14.size)
                  have hz15 := Nat.le_trans hz14 hb15.size
                  clear hb15
                  go_wp2_with fail
                  refine (same_any _ _ _ _ (by have := haveR_len (R := R9) hC9.l0 hl9; omega) hv15' hv15).mono ?_
                  rintro e w16 ⟨rfl, hb16⟩
                  have hS16 := hS15.below hb16
                  have hF16 := hF15.below hb16
                  have hB16 := hB15.trans (hb16.mono hB15.size)
                  have hz16 := Nat.le_trans hz15 hb16.size
                  clear hb16 hv15 hv15' hv14
                  go_wp2_with fail
                  go_roundg (gk - 1)
                  case rel => exact ⟨k + 1, by omega, by go_num, ⟨_, _, _, hC9, by omega, by omega, hS16, hF16⟩, hB16, hz16⟩
                  case measure => omega
        case true =>
          by_cases ht : 100 < (g.x.size : Int)
          · have z2 : decide (100 < (g.x.size : Int)) = true := decide_eq_true ht
            go_wp2_with fail
            refine (shown_any _).mono ?_
            rintro e w5 ⟨rfl, hb5⟩
            go_wp2_with fail
            go_ret
            exact ⟨rfl, hB.trans (hb5.mono hB.size)⟩
          · have z2 : decide (100 < (g.x.size : Int)) = false := decide_eq_false ht
            have hput := fun w' h => sput_any w1.heap.size low R (low + M) g (by omega) (by omega) l0 hll1 w' h
            have hget := fun w' h => sget_any w1.heap.size low R (low + M) (by omega) w' h
            have htrm := fun w' h => strim_all w1.heap.size low R (low + M) l0 hll1 hC.ri w' h
            have hput2 := fun w' hz h => fput_all (w1.heap.size + 2) (w1.heap.size + 1) low R L (low + M) g hC hLL (by omega) (by omega) hll1 w' hz h
            have hget2 := fun w' h => fget_all (w1.heap.size + 2) (w1.heap.size + 1) low R L (low + M) hC hLL w' h
            have htrm2 := fun w' hz h => ftrim_all (w1.heap.size + 2) (w1.heap.size + 1) low R L (low + M) hC hLL hll1 w' hz h
            have hpB : w1.heap.size < w1.heap.size + 2 := by omega
            have hpq : w1.heap.size ≠ w1.heap.size + 1 := by omega
            by_cases hk0 : K = 0
            · have y0 : (K == 0) = true := by simp [hk0]
              clear hget hget2 htrm htrm2 hk0
              have hC9 := hC.put (low + M) g
              have hlen9 := putL_len low L (low + M) g
              generalize putE low (hasR low R (low + M)) (low + M) g = E at *
              generalize putR low R (low + M) g = R9 at *
              generalize putL low L (low + M) g = L9 at *
              have hSd := hS.drew
              have hFd : Rf (w1.heap.size + 2) (w1.heap.size + 1) low L wr.drew := hF.keep fun _ _ _ => rfl
              have hBd := hB.drew
              have hzd : w1.heap.size + 2 ≤ wr.drew.heap.size := hzr
              have hgz : ga ≠ w1.heap.size := by omega
              have hgz1 : ga ≠ w1.heap.size + 1 := by omega
              have hga2 : ga < w1.heap.size + 2 := by omega
              have d3d : wr.drew.cell? ⟨ga, off + k * 6 + 3, none⟩ = some (.int .i64 g.s) := d3
              have d4d : wr.drew.cell? ⟨ga, off + k * 6 + 4, none⟩ = some (.int .u64 g.m) := d4
              have d5d : wr.drew.cell? ⟨ga, off + k * 6 + 5, none⟩ = some (.string g.x) := d5
              go_upto_region 16 with fail
              go_region_with (first
                | (go_at_call 9; first
                    | (refine (hput _ hSb).mono ?_; rintro e wa ⟨rfl, hSa, hba⟩; have hSz := hSa; have hFz := hFb.but hba hpB hpq; have hBz : Below w.heap.size w wa := hBb.trans ((hba.mono (B := w.heap.size) hBb.size).to hp); have hzz := Nat.le_trans hzb hba.size; have d3z := cell_but d3b hba (by show ga < _; omega) hgz; have d4z := cell_but d4b hba (by show ga < _; omega) hgz; have d5z := cell_but d5b hba (by show ga < _; omega) hgz)
                    | (refine (hput _ hSd).mono ?_; rintro e wa ⟨rfl, hSa, hba⟩; have hFa := hFd.but hba hpB hpq; have hBa : Below w.heap.size w wa := hBd.trans ((hba.mono (B := w.heap.size) hBd.size).to hp); have hza := Nat.le_trans hzd hba.size; have d3a := cell_but d3d hba (by show ga < _; omega) hgz; have d4a := cell_but d4d hba (by show ga < _; omega) hgz; have d5a := cell_but d5d hba (by show ga < _; omega) hgz))
                | (go_at_call 10; first
                    | (refine (hput2 _ hza hFa).mono ?_; rintro e wb ⟨rfl, hFz, hbb⟩; have hSz := hSa.butB hbb hpB hpq; have hBz : Below w.heap.size w wb := hBa.trans ((hbb.mono (B := w.heap.size) (by omega)).to (by omega)); have hzz := Nat.le_trans hza hbb.size; have d3z := cell_but d3a hbb hga2 hgz1; have d4z := cell_but d4a hbb hga2 hgz1; have d5z := cell_but d5a hbb hga2 hgz1)
                    | (refine (hput2 _ hzd hFd).mono ?_; rintro e wb ⟨rfl, hFb, hbb⟩; have hSb := hSd.butB hbb hpB hpq; have hBb : Below w.heap.size w wb := hBd.trans ((hbb.mono (B := w.heap.size) (by omega)).to (by omega)); have hzb := Nat.le_trans hzd hbb.size; have d3b := cell_but d3d hbb hga2 hgz1; have d4b := cell_but d4d hbb hga2 hgz1; have d5b := cell_but d5d hbb hga2 hgz1)))
              all_goals
                have hS9 := hSz
                have hF9 := hFz
                have hB9 := hBz
                have hz9 := hzz
                have hl9 := hll1
                have hn9 : L9.length ≤ 1000 := by omega
                go_wp2_with fail
                refine (slow_any _ _ _ _ hS9).mono ?_
                rintro e w10 ⟨rfl, rfl⟩
                go_wp2_with fail
                refine (flow_any _ _ _ _ _ hF9).mono ?_
                rintro e w11 ⟨rfl, rfl⟩
                go_wp2_with fail
                refine (sreach_any _ _ _ hC9.l0 hl9 _ hS9).mono ?_
                rintro e w12 ⟨rfl, hb12⟩
                have hS12 := hS9.below hb12
                have hF12 := hF9.below hb12
                have hB12 := hB9.trans (hb12.mono hB9.size)
                have hz12 := Nat.le_trans hz9 hb12.size
                clear hb12
                go_wp2_with fail
                refine (freach_all _ _ _ _ _ hC9 hn9 hl9 _ hF12).mono ?_
                rintro e w13 ⟨rfl, hb13⟩
                have hS13 := hS12.below hb13
                have hF13 := hF12.below hb13
                have hB13 := hB12.trans (hb13.mono hB12.size)
                have hz13 := Nat.le_trans hz12 hb13.size
                clear hb13
                go_wp2_with fail
                refine (shave_any _ _ _ hC9.l0 hl9 _ hS13).mono ?_
                rintro e w14 ⟨⟨v14, rfl, hv14⟩, hb14⟩
                have hS14 := hS13.below hb14
                have hF14 := hF13.below hb14
                have hB14 := hB13.trans (hb14.mono hB13.size)
                have hz14 := Nat.le_trans hz13 hb14.size
                clear hb14
                go_wp2_with fail
                refine (fhave_all _ _ _ _ _ hC9 hn9 hl9 _ hF14).mono ?_
                rintro e w15 ⟨⟨v15, rfl, hv15⟩, hb15⟩
                have hS15 := hS14.below hb15
                have hF15 := hF14.below hb15
                have hv15' := hv14.below hb15
                have hB15 := hB14.trans (hb15.mono hB14.size)
                have hz15 := Nat.le_trans hz14 hb15.size
                clear hb15
                go_wp2_with fail
                refine (same_any _ _ _ _ (by have := haveR_len (R := R9) hC9.l0 hl9; omega) hv15' hv15).mono ?_
                rintro e w16 ⟨rfl, hb16⟩
                have hS16 := hS15.below hb16
                have hF16 := hF15.below hb16
                have hB16 := hB15.trans (hb16.mono hB15.size)
                have hz16 := Nat.le_trans hz15 hb16.size
                clear hb16 hv15 hv15' hv14
                go_wp2_with fail
                go_roundg (gk - 1)
                case rel => exact ⟨k + 1, by omega, by go_num, ⟨_, _, _, hC9, by omega, by omega, hS16, hF16⟩, hB16, hz16⟩
                case measure => omega
            · have y0 : (K == 0) = false := by simp [hk0]
              by_cases hk1 : K = 1
              · have y1 : (K == 1) = true := by simp [hk1]
                clear hput hput2 htrm htrm2 hk0 hk1
                generalize getE low (hasR low R (low + M)) (low + M) = E at *
                generalize getM low R (low + M) = gm at *
                go_wp2_with fail
                refine (hget _ hS).mono ?_
                rintro e w4 ⟨rfl, hb4⟩
                have hB4 := hB.trans (hb4.mono hB.size)
                have hS4 := hS.below hb4
                have hF4 := hF.below hb4
                have hz4 := Nat.le_trans hzr hb4.size
                have b5 := below_alloc w4 (.cells #[.int .i64 gm.s, .int .u64 gm.m, .string gm.x] 27)
                have hB5 := hB4.trans (b5.mono hB4.size)
                have hS5 := hS4.below b5
                have hF5 := hF4.below b5
                have hz5 := Nat.le_trans hz4 b5.size
                have hm5 := Bm.new gm w4
                clear hb4 b5
                go_wp2_with fail
                refine (hget2 _ hF5).mono ?_
                rintro e w6 ⟨rfl, hb6⟩
                have hB6 := hB5.trans (hb6.mono hB5.size)
                have hS6 := hS5.below hb6
                have hF6 := hF5.below hb6
                have hz6 := Nat.le_trans hz5 hb6.size
                have hm6 := hm5.below hb6
                have b7 := below_alloc w6 (.cells #[.int .i64 gm.s, .int .u64 gm.m, .string gm.x] 27)
                have hB9 := hB6.trans (b7.mono hB6.size)
                have hS9 := hS6.below b7
                have hF9 := hF6.below b7
                have hz9 := Nat.le_trans hz6 b7.size
                have hm7 := hm6.below b7
                have hm8 := Bm.new gm w6
                have c0 := hm7.c0
                have c1 := hm7.c1
                have c2 := hm7.c2
                have c3 := hm8.c0
                have c4 := hm8.c1
                have c5 := hm8.c2
                have hq := run_eqlM gm
                have hC9 := hC
                have hl9 := hll1
                have hn9 := hLL
                obtain ⟨R9, hR9⟩ : ∃ z, z = R := ⟨_, rfl⟩
                subst hR9
                clear hb6 b7 hm5 hm6 hm7 hm8
                go_wp2_with fail
                refine (slow_any _ _ _ _ hS9).mono ?_
                rintro e w10 ⟨rfl, rfl⟩
                go_wp2_with fail
                refine (flow_any _ _ _ _ _ hF9).mono ?_
                rintro e w11 ⟨rfl, rfl⟩
                go_wp2_with fail
                refine (sreach_any _ _ _ hC9.l0 hl9 _ hS9).mono ?_
                rintro e w12 ⟨rfl, hb12⟩
                have hS12 := hS9.below hb12
                have hF12 := hF9.below hb12
                have hB12 := hB9.trans (hb12.mono hB9.size)
                have hz12 := Nat.le_trans hz9 hb12.size
                clear hb12
                go_wp2_with fail
                refine (freach_all _ _ _ _ _ hC9 hn9 hl9 _ hF12).mono ?_
                rintro e w13 ⟨rfl, hb13⟩
                have hS13 := hS12.below hb13
                have hF13 := hF12.below hb13
                have hB13 := hB12.trans (hb13.mono hB12.size)
                have hz13 := Nat.le_trans hz12 hb13.size
                clear hb13
                go_wp2_with fail
                refine (shave_any _ _ _ hC9.l0 hl9 _ hS13).mono ?_
                rintro e w14 ⟨⟨v14, rfl, hv14⟩, hb14⟩
                have hS14 := hS13.below hb14
                have hF14 := hF13.below hb14
                have hB14 := hB13.trans (hb14.mono hB13.size)
                have hz14 := Nat.le_trans hz13 hb14.size
                clear hb14
                go_wp2_with fail
                refine (fhave_all _ _ _ _ _ hC9 hn9 hl9 _ hF14).mono ?_
                rintro e w15 ⟨⟨v15, rfl, hv15⟩, hb15⟩
                have hS15 := hS14.below hb15
                have hF15 := hF14.below hb15
                have hv15' := hv14.below hb15
                have hB15 := hB14.trans (hb15.mono hB14.size)
                have hz15 := Nat.le_trans hz14 hb15.size
                clear hb15
                go_wp2_with fail
                refine (same_any _ _ _ _ (by have := haveR_len (R := R9) hC9.l0 hl9; omega) hv15' hv15).mono ?_
                rintro e w16 ⟨rfl, hb16⟩
                have hS16 := hS15.below hb16
                have hF16 := hF15.below hb16
                have hB16 := hB15.trans (hb16.mono hB15.size)
                have hz16 := Nat.le_trans hz15 hb16.size
                clear hb16 hv15 hv15' hv14
                go_wp2_with fail
                go_roundg (gk - 1)
                case rel => exact ⟨k + 1, by omega, by go_num, ⟨_, _, _, hC9, by omega, by omega, hS16, hF16⟩, hB16, hz16⟩
                case measure => omega
              · have y1 : (K == 1) = false := by simp [hk1]
                by_cases hk2 : K = 2
                · have y2 : (K == 2) = true := by simp [hk2]
                  clear hput hput2 hget hget2 hk0 hk1 hk2
                  have hC9 := hC.trims (low + M)
                  have hl9' := tLow_le low R (low + M)
                  have hlen9 := tL_len low R L (low + M)
                  generalize tE low R (low + M) = E at *
                  generalize tLow low R (low + M) = low9 at *
                  generalize tR low R (low + M) = R9 at *
                  generalize tL low R L (low + M) = L9 at *
                  go_wp2_with fail
                  refine (htrm _ hS).mono ?_
                  rintro e w4 ⟨rfl, hS4, hb4⟩
                  have hF4 := hF.but (hb4) hpB hpq
                  have hB4 : Below w.heap.size w w4 := hB.trans ((hb4.mono (B := w.heap.size) hB.size).to hp)
                  have hz4 := Nat.le_trans hzr hb4.size
                  go_wp2_with fail
                  refine (htrm2 _ hz4 hF4).mono ?_
                  rintro e w6 ⟨rfl, hF9, hb6⟩
                  have hS9 := hS4.butB hb6 hpB hpq
                  have hB9 : Below w.heap.size w w6 := hB4.trans ((hb6.mono (B := w.heap.size) (by omega)).to (by omega))
                  have hz9 := Nat.le_trans hz4 hb6.size
                  have hl9 : low9 ≤ 1000000 := by omega
                  have hn9 : L9.length ≤ 1000 := by omega
                  clear hb4 hb6
                  go_wp2_with fail
                  refine (slow_any _ _ _ _ hS9).mono ?_
                  rintro e w10 ⟨rfl, rfl⟩
                  go_wp2_with fail
                  refine (flow_any _ _ _ _ _ hF9).mono ?_
                  rintro e w11 ⟨rfl, rfl⟩
                  go_wp2_with fail
                  refine (sreach_any _ _ _ hC9.l0 hl9 _ hS9).mono ?_
                  rintro e w12 ⟨rfl, hb12⟩
                  have hS12 := hS9.below hb12
                  have hF12 := hF9.below hb12
                  have hB12 := hB9.trans (hb12.mono hB9.size)
                  have hz12 := Nat.le_trans hz9 hb12.size
                  clear hb12
                  go_wp2_with fail
                  refine (freach_all _ _ _ _ _ hC9 hn9 hl9 _ hF12).mono ?_
                  rintro e w13 ⟨rfl, hb13⟩
                  have hS13 := hS12.below hb13
                  have hF13 := hF12.below hb13
                  have hB13 := hB12.trans (hb13.mono hB12.size)
                  have hz13 := Nat.le_trans hz12 hb13.size
                  clear hb13
                  go_wp2_with fail
                  refine (shave_any _ _ _ hC9.l0 hl9 _ hS13).mono ?_
                  rintro e w14 ⟨⟨v14, rfl, hv14⟩, hb14⟩
                  have hS14 := hS13.below hb14
                  have hF14 := hF13.below hb14
                  have hB14 := hB13.trans (hb14.mono hB13.size)
                  have hz14 := Nat.le_trans hz13 hb14.size
                  clear hb14
                  go_wp2_with fail
                  refine (fhave_all _ _ _ _ _ hC9 hn9 hl9 _ hF14).mono ?_
                  rintro e w15 ⟨⟨v15, rfl, hv15⟩, hb15⟩
                  have hS15 := hS14.below hb15
                  have hF15 := hF14.below hb15
                  have hv15' := hv14.below hb15
                  have hB15 := hB14.trans (hb15.mono hB14.size)
                  have hz15 := Nat.le_trans hz14 hb15.size
                  clear hb15
                  go_wp2_with fail
                  refine (same_any _ _ _ _ (by have := haveR_len (R := R9) hC9.l0 hl9; omega) hv15' hv15).mono ?_
                  rintro e w16 ⟨rfl, hb16⟩
                  have hS16 := hS15.below hb16
                  have hF16 := hF15.below hb16
                  have hB16 := hB15.trans (hb16.mono hB15.size)
                  have hz16 := Nat.le_trans hz15 hb16.size
                  clear hb16 hv15 hv15' hv14
                  go_wp2_with fail
                  go_roundg (gk - 1)
                  case rel => exact ⟨k + 1, by omega, by go_num, ⟨_, _, _, hC9, by omega, by omega, hS16, hF16⟩, hB16, hz16⟩
                  case measure => omega
                · have y2 : (K == 2) = false := by simp [hk2]
                  clear hput hput2 hget hget2 htrm htrm2 hk0 hk1 hk2
                  have hS9 := hS
                  have hF9 := hF
                  have hB9 := hB
                  have hz9 := hzr
                  have hC9 := hC
                  have hl9 := hll1
                  have hn9 := hLL
                  obtain ⟨R9, hR9⟩ : ∃ z, z = R := ⟨_, rfl⟩
                  subst hR9
                  go_wp2_with fail
                  refine (slow_any _ _ _ _ hS9).mono ?_
                  rintro e w10 ⟨rfl, rfl⟩
                  go_wp2_with fail
                  refine (flow_any _ _ _ _ _ hF9).mono ?_
                  rintro e w11 ⟨rfl, rfl⟩
                  go_wp2_with fail
                  refine (sreach_any _ _ _ hC9.l0 hl9 _ hS9).mono ?_
                  rintro e w12 ⟨rfl, hb12⟩
                  have hS12 := hS9.below hb12
                  have hF12 := hF9.below hb12
                  have hB12 := hB9.trans (hb12.mono hB9.size)
                  have hz12 := Nat.le_trans hz9 hb12.size
                  clear hb12
                  go_wp2_with fail
                  refine (freach_all _ _ _ _ _ hC9 hn9 hl9 _ hF12).mono ?_
                  rintro e w13 ⟨rfl, hb13⟩
                  have hS13 := hS12.below hb13
                  have hF13 := hF12.below hb13
                  have hB13 := hB12.trans (hb13.mono hB12.size)
                  have hz13 := Nat.le_trans hz12 hb13.size
                  clear hb13
                  go_wp2_with fail
                  refine (shave_any _ _ _ hC9.l0 hl9 _ hS13).mono ?_
                  rintro e w14 ⟨⟨v14, rfl, hv14⟩, hb14⟩
                  have hS14 := hS13.below hb14
                  have hF14 := hF13.below hb14
                  have hB14 := hB13.trans (hb14.mono hB13.size)
                  have hz14 := Nat.le_trans hz13 hb14.size
                  clear hb14
                  go_wp2_with fail
                  refine (fhave_all _ _ _ _ _ hC9 hn9 hl9 _ hF14).mono ?_
                  rintro e w15 ⟨⟨v15, rfl, hv15⟩, hb15⟩
                  have hS15 := hS14.below hb15
                  have hF15 := hF14.below hb15
                  have hv15' := hv14.below hb15
                  have hB15 := hB14.trans (hb15.mono hB14.size)
                  have hz15 := Nat.le_trans hz14 hb15.size
                  clear hb15
                  go_wp2_with fail
                  refine (same_any _ _ _ _ (by have := haveR_len (R := R9) hC9.l0 hl9; omega) hv15' hv15).mono ?_
                  rintro e w16 ⟨rfl, hb16⟩
                  have hS16 := hS15.below hb16
                  have hF16 := hF15.below hb16
                  have hB16 := hB15.trans (hb16.mono hB15.size)
                  have hz16 := Nat.le_trans hz15 hb16.size
                  clear hb16 hv15 hv15' hv14
                  go_wp2_with fail
                  go_roundg (gk - 1)
                  case rel => exact ⟨k + 1, by omega, by go_num, ⟨_, _, _, hC9, by omega, by omega, hS16, hF16⟩, hB16, hz16⟩
                  case measure => omega
      · obtain rfl : k = l.length := by omega
        have hll1 : low ≤ 1000000 := by omega
        have hLL : L.length ≤ 1000 := by omega
        go_wp2_with fail
        refine (shave_any _ _ _ l0 hll1 _ hS).mono ?_
        rintro e w14 ⟨⟨v14, rfl, hv14⟩, hb14⟩
        have hF14 := hF.below hb14
        have hB14 := hB.trans (hb14.mono hB.size)
        go_wp2_with fail
        refine (fhave_all _ _ _ _ _ hC hLL hll1 _ hF14).mono ?_
        rintro e w15 ⟨⟨v15, rfl, hv15⟩, hb15⟩
        have hv15' := hv14.below hb15
        have hB15 := hB14.trans (hb15.mono hB14.size)
        go_wp2_with fail
        refine (same_any _ _ _ _ (by have := haveR_len (R := R) l0 hll1; omega) hv15' hv15).mono ?_
        rintro e w16 ⟨rfl, hb16⟩
        go_wp2_with fail
        go_ret
        exact ⟨rfl, hB15.trans (hb16.mono hB15.size)⟩
theorem shelfActs_walk (a0 : Option Addr) (len0 cap0 : Nat) (x0 : List Ac) (w : World) (w0 : IsActs w a0 len0 cap0 x0) :
    Calls Try.prog 3 #[.slice a0 len0 cap0] w fun e w' => e = .returned (.bool true) ∧ Below w.heap.size w w' :=
  acts_core _ x0 w w0.2.1 w0.2.2
end Go.Proofs.Ytajklinlcmkjmaa
