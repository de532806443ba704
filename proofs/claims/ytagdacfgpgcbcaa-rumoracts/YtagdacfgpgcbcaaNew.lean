/-
  RumorNew.
-/
import Derived.Test.YtagdacfgpgcbcaaSho
import Derived.Laws.StructEq
namespace Go.Proofs.Ytagdacfgpgcbcaa
open Go.RowKit Go.Maps

theorem u8_of {n : Int} (h : (Lit.int .u8 n).wf = true) : 0 ≤ n ∧ n ≤ 255 := by simpa [Lit.wf, IntKind.min, IntKind.max, IntKind.signed, IntKind.bits] using h
theorem u16_of {n : Int} (h : (Lit.int .u16 n).wf = true) : 0 ≤ n ∧ n ≤ 65535 := by simpa [Lit.wf, IntKind.min, IntKind.max, IntKind.signed, IntKind.bits] using h
theorem cap_walk (n m : Int) (hn : (Lit.int .u16 n).wf = true) (hm : (Lit.int .u16 m).wf = true) (w : World) :
    Calls Try.prog 8 #[.int .u16 n, .int .u16 m] w fun e w' => e = .returned (.bool true) ∧ Below w.heap.size w w' := rumorCap_walk n m (u16_of hn) (u16_of hm) w

theorem below_drewN (B : Nat) (w : World) (n : Nat) : Below B w (w.drewN n) := ⟨rfl, rfl, rfl, Nat.le_refl _, fun _ _ => rfl⟩
def eqU (u v : Upd) : Bool := (u.n == v.n) && ((u.i == v.i) && (u.s == v.s))
theorem run_eqU_in (d : Nat) (u v : Upd) (w : World) : (Op.equalIn (d + 1 + 1) 34 (.agg #[.int .i64 u.n, .int .u64 u.i, .int .i64 u.s]) (.agg #[.int .i64 v.n, .int .u64 v.i, .int .i64 v.s])).run Try.prog w = .ok (eqU u v) w := by
  rw [run_equalIn_struct w (d + 1) 34 _ _ (by kernel_rfl) (by kernel_rfl)]
  unfold eqU
  cases h1 : (u.n == v.n) <;> cases h2 : (u.i == v.i) <;> cases h3 : (u.s == v.s) <;> simp [Program.fieldsOf, go_sem, h1, h2, h3]
theorem run_eqlU (u v : Upd) (w : World) : (binOp .eql 34 (.agg #[.int .i64 u.n, .int .u64 u.i, .int .i64 u.s]) (.agg #[.int .i64 v.n, .int .u64 v.i, .int .i64 v.s])).run Try.prog w = .ok (.bool (eqU u v)) w := by
  have h := run_eqU_in 9998 u v w
  simp [binOp, Op.equal, Op.maxDepth, h]
theorem run_neqU (u v : Upd) (w : World) : (binOp .neq 34 (.agg #[.int .i64 u.n, .int .u64 u.i, .int .i64 u.s]) (.agg #[.int .i64 v.n, .int .u64 v.i, .int .i64 v.s])).run Try.prog w = .ok (.bool (!eqU u v)) w := by
  have h := run_eqU_in 9998 u v w
  simp [binOp, Op.equal, Op.maxDepth, h]

/-! ## One rumor alone -/
theorem mayS_mk {n s : Int} (h0 : 0 ≤ n) (h1 : n < 64) (h2 : 0 ≤ s) (h3 : s ≤ 3) : mayS n s = true := by simp [mayS, h0, h1, h2, h3]
theorem put_one (k i s : Int) (h0 : 0 ≤ k) (h1 : k < 64) (h2 : 0 ≤ s) (h3 : s ≤ 3) : putE [] (k, i, s) = 0 ∧ putQ [] (k, i, s) = [(k, i, s, 0)] := by
  have hm := mayS_mk h0 h1 h2 h3
  constructor
  · simp [putE, hm, staleQ]
  · simp [putQ, hm, staleQ, keepQ, lessQ, insQ, updI]
theorem put_two (k i s j t d : Int) (h0 : 0 ≤ k) (h1 : k < 64) (h2 : 0 ≤ s) (h3 : s ≤ 3) :
    putE [(k, j, t, d)] (k, i, s) = (if newerS i s j t then 0 else 70) ∧ putQ [(k, j, t, d)] (k, i, s) = (if newerS i s j t then [(k, i, s, 0)] else [(k, j, t, d)]) := by
  have hm := mayS_mk h0 h1 h2 h3
  cases hn : newerS i s j t
  · constructor
    · simp [putE, hm, staleQ, hn]
    · simp [putQ, hm, staleQ, hn]
  · constructor
    · simp [putE, hm, staleQ, hn]
    · simp [putQ, hm, staleQ, hn, keepQ, lessQ, insQ, updI]
theorem take_one (k i s t : Int) (h : t + 1 < 21) : takeQ [(k, i, s, t)] 1 21 = [(k, i, s, t + 1)] := by
  have : (1 : Int).toNat = 1 := rfl
  simp [takeQ, this, tellQ, h, keepQ, lessQ, insQ]
theorem newer_byte {a b : Int} : newerS (b / 4) (b % 4) (a / 4) (a % 4) = decide (a < b) := by
  unfold newerS
  rw [Bool.eq_iff_iff]
  simp
  omega

set_option maxHeartbeats 2000000 in
set_option maxRecDepth 100000 in
theorem new_core (node a b takes : Int) (hn : 0 ≤ node ∧ node ≤ 255) (ha : 0 ≤ a ∧ a ≤ 255) (hb : 0 ≤ b ∧ b ≤ 255) (ht : 0 ≤ takes ∧ takes ≤ 255) (w : World) :
    Calls Try.prog 5 #[.int .u8 node, .int .u8 a, .int .u8 b, .int .u8 takes] w fun e w' => e = .returned (.bool true) ∧ Below w.heap.size w w' := by
  have hQ := Qu.new w
  have ba := below_alloc w (.cells #[.map none] 27)
  obtain ⟨w0, HW0⟩ : ∃ w0, Hid (w0 = w.alloc (.cells #[.map none] 27)) := ⟨_, rfl⟩
  rw [← HW0.out] at hQ ba
  have hnb := newer_byte (a := a) (b := b)
  have hk0 : 0 ≤ node % 64 ∧ node % 64 < 64 := by omega
  have hi0 : 0 ≤ a / 4 ∧ a / 4 ≤ 63 := by omega
  have hj0 : 0 ≤ b / 4 ∧ b / 4 ≤ 63 := by omega
  have hs0 : 0 ≤ a % 4 ∧ a % 4 ≤ 3 := by omega
  have ht0 : 0 ≤ b % 4 ∧ b % 4 ≤ 3 := by omega
  have hm0 : 0 ≤ takes % 5 ∧ takes % 5 < 5 := by omega
  obtain ⟨n0, n1⟩ := hn
  obtain ⟨a0, a1⟩ := ha
  obtain ⟨b0, b1⟩ := hb
  obtain ⟨t0, t1⟩ := ht
  have hX := Bx.new 34 (node % 64) (a / 4) (a % 4) w0
  have b1' := below_alloc w0 (.cells #[.int .i64 (node % 64), .int .u64 (a / 4), .int .i64 (a % 4)] 34)
  have hY := Bx.new 34 (node % 64) (b / 4) (b % 4) (w0.alloc (.cells #[.int .i64 (node % 64), .int .u64 (a / 4), .int .i64 (a % 4)] 34))
  have b2' := below_alloc (w0.alloc (.cells #[.int .i64 (node % 64), .int .u64 (a / 4), .int .i64 (a % 4)] 34)) (.cells #[.int .i64 (node % 64), .int .u64 (b / 4), .int .i64 (b % 4)] 34)
  rw [show (w0.alloc (.cells #[.int .i64 (node % 64), .int .u64 (a / 4), .int .i64 (a % 4)] 34)).heap.size = w0.heap.size + 1 from by simp] at hY
  have hQ2 := (hQ.below b1').below b2'
  have hX2 := hX.below b2'
  obtain ⟨W2, HW2⟩ : ∃ W2, Hid (W2 = (w0.alloc (.cells #[.int .i64 (node % 64), .int .u64 (a / 4), .int .i64 (a % 4)] 34)).alloc (.cells #[.int .i64 (node % 64), .int .u64 (b / 4), .int .i64 (b % 4)] 34)) := ⟨_, rfl⟩
  rw [← HW2.out] at hY b2' hQ2 hX2
  have hBW : Below w.heap.size w W2 := ba.trans ((b1'.mono ba.size).trans (b2'.mono (Nat.le_trans ba.size b1'.size)))
  have hp0 : w.heap.size < w0.heap.size := hQ.lt
  clear hQ ba b1' b2' hX
  obtain ⟨p1, p2⟩ := put_one (node % 64) (a / 4) (a % 4) hk0.1 hk0.2 hs0.1 hs0.2
  have hput := put_any w.heap.size none [] (by simp) (node % 64) (a / 4) (a % 4) (by omega) W2 hQ2
  rw [p1, p2] at hput
  have hput2 := fun (d : Int) => put_two (node % 64) (b / 4) (b % 4) (a / 4) (a % 4) d hk0.1 hk0.2 ht0.1 ht0.2
  rw [hnb] at hput2
  have x0 := hX2.c0
  have x1 := hX2.c1
  have x2 := hX2.c2
  have y0 := hY.c0
  have y1 := hY.c1
  have y2 := hY.c2
  go_enter Try.func5, Try.ntmps5
  go_upto_region 2 with fail
  rw [← HW0.out]
  go_upto_region 5 with fail
  rw [← HW2.out]
  generalize node % 64 = k at *
  clear hnb p1 p2
  generalize a / 4 = i at *
  generalize a % 4 = s at *
  generalize b / 4 = j at *
  generalize b % 4 = t at *
  generalize w0.heap.size = g at *
  go_wp2_with fail
  refine hput.mono ?_
  rintro e w3 ⟨rfl, m3, hQ3, hmv3⟩
  go_wp2_with fail
  refine (shown_any _).mono ?_
  rintro e w4 ⟨rfl, hb4⟩
  have hQ4 := hQ3.below hb4
  have hmv4 := hmv3.be hb4
  clear hQ3 hmv3 hb4 hput x0 x1 x2 y0 y1 y2 hQ2
  go_wp2_with fail
  go_loopg [13] 5 (fun gk t13 wr => ∃ (d : Nat) (m : Option Nat), d + gk = 5 ∧ t13 = .int .i64 d ∧ (d : Int) ≤ takes % 5 ∧ Qu w.heap.size m [(k, i, s, (d : Int))] wr ∧ Mv w.heap.size none m W2 wr)
  case atStart => exact ⟨0, m3, by omega, rfl, by omega, hQ4, hmv4⟩
  case round =>
    obtain ⟨d, m, hd, rfl, hdt, hQd, hmv⟩ := hrel
    by_cases hlt : (d : Int) < takes % 5
    · have htk := take_any w.heap.size m [(k, i, s, (d : Int))] (by simp) 1 64 (by decide) wr hQd
      rw [cap64, take_one k i s d (by omega)] at htk
      go_wp2_with fail
      refine htk.mono ?_
      rintro e w5 ⟨⟨v, rfl, _⟩, hQ5, hmv5⟩
      have hmv6 := hmv.trans hmv5
      clear htk hQd hmv hmv5
      go_wp2_with fail
      go_roundg (gk - 1)
      case rel => exact ⟨d + 1, m, by omega, by go_num, by omega, by simpa using hQ5, hmv6⟩
      case measure => omega
    · have hde : (d : Int) = takes % 5 := by omega
      have hyk := hY.keep (hmv.block _ hY.lt (by omega) (by simp))
      have y0 := hyk.c0
      have y1 := hyk.c1
      have y2 := hyk.c2
      have hput := put_any w.heap.size m [(k, i, s, (d : Int))] (by simp) k j t (by omega) wr hQd
      rw [(hput2 d).1, (hput2 d).2] at hput
      have HDE : Hid ((d : Int) = takes % 5) := hde
      clear hde hput2
      by_cases hab : a < b
      · rw [decide_eq_true hab] at hput
        simp only [if_true] at hput
        go_wp2_with fail
        refine hput.mono ?_
        rintro e w5 ⟨rfl, m5, hQ5, hmv5⟩
        have hmv6 := hmv.trans hmv5
        clear hput hmv hmv5 y0 y1 y2 hyk
        have hit := items_any w.heap.size m5 [(k, j, t, 0)] (by simp) w5 hQ5
        go_wp2_with fail
        refine hit.mono ?_
        rintro e w6 ⟨⟨v, rfl, hR, _⟩, hb6⟩
        have hmv7 := hmv6.be hb6
        have hyk := hY.keep (hmv7.block _ hY.lt (by omega) (by simp))
        have y0 := hyk.c0
        have y1 := hyk.c1
        have y2 := hyk.c2
        obtain ⟨av, cap, rfl, h1, h2, h3⟩ := hR
        obtain ⟨gv, off, rfl, h3⟩ : ∃ gv off, av = some ⟨gv, off, none⟩ ∧ (w6.cell? ⟨gv, off, none⟩ = some (.int .i64 k) ∧ w6.cell? ⟨gv, off + 1, none⟩ = some (.int .u64 j) ∧ w6.cell? ⟨gv, off + 2, none⟩ = some (.int .i64 t) ∧ w6.cell? ⟨gv, off + 3, none⟩ = some (.int .i64 0)) := by
          rcases h3 with h3 | ⟨gv, off, rfl, h3⟩
          · cases h3
          · have := h3 0 (by simp)
            simp only [Nat.zero_mul, Nat.add_zero] at this
            exact ⟨gv, off, rfl, this⟩
        obtain ⟨z0, z1, z2, z3⟩ := h3
        have heq := fun w => run_eqlU ⟨k, j, t⟩ ⟨k, j, t⟩ w
        rw [show eqU ⟨k, j, t⟩ ⟨k, j, t⟩ = true from by simp [eqU]] at heq
        simp only [List.length_cons, List.length_nil, Nat.zero_add] at *
        clear hit hmv6 hQ5 hb6 hyk h1 h2
        go_wp2_with fail
        go_quiet (fail)
        go_wp2_with fail
        go_ret
        exact ⟨rfl, (hBW.trans (hmv7.to hBW.size (Nat.le_refl _) (fun b hb => by cases hb))).trans (below_drewN _ _ _)⟩
      · rw [decide_eq_false hab] at hput
        simp only [Bool.false_eq_true, if_false] at hput
        have hba : ¬ (a < b) := hab
        have hdt2 : ((d : Int) == takes % 5) = true := by rw [HDE.out]; simp
        go_wp2_with fail
        refine hput.mono ?_
        rintro e w5 ⟨rfl, m5, hQ5, hmv5⟩
        have hmv6 := hmv.trans hmv5
        clear hput hmv hmv5 y0 y1 y2 hyk
        have hit := items_any w.heap.size m5 [(k, i, s, (d : Int))] (by simp) w5 hQ5
        go_wp2_with fail
        refine hit.mono ?_
        rintro e w6 ⟨⟨v, rfl, hR, _⟩, hb6⟩
        have hmv7 := hmv6.be hb6
        have hyk := hX2.keep (hmv7.block _ hX2.lt (by omega) (by simp))
        have y0 := hyk.c0
        have y1 := hyk.c1
        have y2 := hyk.c2
        obtain ⟨av, cap, rfl, h1, h2, h3⟩ := hR
        obtain ⟨gv, off, rfl, h3⟩ : ∃ gv off, av = some ⟨gv, off, none⟩ ∧ (w6.cell? ⟨gv, off, none⟩ = some (.int .i64 k) ∧ w6.cell? ⟨gv, off + 1, none⟩ = some (.int .u64 i) ∧ w6.cell? ⟨gv, off + 2, none⟩ = some (.int .i64 s) ∧ w6.cell? ⟨gv, off + 3, none⟩ = some (.int .i64 (d : Int))) := by
          rcases h3 with h3 | ⟨gv, off, rfl, h3⟩
          · cases h3
          · have := h3 0 (by simp)
            simp only [Nat.zero_mul, Nat.add_zero] at this
            exact ⟨gv, off, rfl, this⟩
        obtain ⟨z0, z1, z2, z3⟩ := h3
        have heq := fun w => run_eqlU ⟨k, i, s⟩ ⟨k, i, s⟩ w
        rw [show eqU ⟨k, i, s⟩ ⟨k, i, s⟩ = true from by simp [eqU]] at heq
        simp only [List.length_cons, List.length_nil, Nat.zero_add] at *
        clear hit hmv6 hQ5 hb6 hyk h1 h2
        go_wp2_with fail
        go_quiet (fail)
        go_wp2_with fail
        go_ret
        exact ⟨rfl, (hBW.trans (hmv7.to hBW.size (Nat.le_refl _) (fun b hb => by cases hb))).trans (below_drewN _ _ _)⟩

theorem new_walk (node a b takes : Int) (hn : (Lit.int .u8 node).wf = true) (ha : (Lit.int .u8 a).wf = true) (hb : (Lit.int .u8 b).wf = true) (ht : (Lit.int .u8 takes).wf = true) (w : World) :
    Calls Try.prog 5 #[.int .u8 node, .int .u8 a, .int .u8 b, .int .u8 takes] w fun e w' => e = .returned (.bool true) ∧ Below w.heap.size w w' := new_core node a b takes (u8_of hn) (u8_of ha) (u8_of hb) (u8_of ht) w
end Go.Proofs.Ytagdacfgpgcbcaa
