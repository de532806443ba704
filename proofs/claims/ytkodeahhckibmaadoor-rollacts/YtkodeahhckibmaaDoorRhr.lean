/-
  The reference's Hear.
-/
import Derived.Test.YtkodeahhckibmaaDoorRpt
namespace Go.Proofs.YtkodeahhckibmaaDoor
open Go.RowKit

/-- The reference's roll, and two boxes. -/
structure Rh (w0 : World) (B q k : Nat) (v : Value) (K : List Upd) (gu : Nat) (u : Upd) (go : Nat) (o : Upd) (w : World) : Prop where
  rf : Rf B q k v K w
  bu : Bx 34 gu u.n u.i u.s w
  bo : Bx 34 go o.n o.i o.s w
  below : Below w0.heap.size w0 w
section
variable {w0 : World} {B q k : Nat} {v : Value} {K : List Upd} {gu : Nat} {u : Upd} {go : Nat} {o : Upd} {w w' : World}
theorem Rh.later (h : Rh w0 B q k v K gu u go o w) (b : Below w.heap.size w w') : Rh w0 B q k v K gu u go o w' := ⟨h.rf.below b, h.bu.below b, h.bo.below b, h.below.trans (b.mono h.below.size)⟩
theorem Rh.on {x : Kept (Rh w0 B q k v K gu u go o)} (b : Below x.at_.heap.size x.at_ w') : ∃ y : Kept (Rh w0 B q k v K gu u go o), w' = y.at_ := ⟨⟨w', x.is.later b⟩, rfl⟩
end

set_option maxRecDepth 100000 in
set_option maxHeartbeats 2000000 in
theorem rhear_any (B q k : Nat) (v : Value) (K : List Upd) (u : Upd) (w : World) (hG : Good k K) (hu : InOk u) (hB : B ≤ w.heap.size) (hR : Rf B q k v K w) :
    Calls Tryd.prog 9 #[.pointer (some ⟨q, 0, none⟩), .agg #[.int .i64 u.n, .int .u64 u.i, .int .i64 u.s]] w fun e w' =>
      e = .returned (.tuple #[.bool (hearS k (tabK K) u).1.1, .int .i64 (hearS k (tabK K) u).1.2]) ∧ ∃ v' K', tabK K' = (hearS k (tabK K) u).2 ∧ Good k K' ∧ Rf B q k v' K' w' ∧ Mv q v v' w w' := by
  have hl := hG.len
  have ba := below_alloc w (.cells #[.int .i64 u.n, .int .u64 u.i, .int .i64 u.s] 34)
  have hX := Bx.new 34 u.n u.i u.s w
  have hR1 := hR.below ba
  have hinv := hear_inv hG.inv hu
  obtain ⟨r, HR⟩ : ∃ r, Hid (hearS k (tabK K) u = r) := ⟨_, rfl⟩
  rw [HR.out] at hinv ⊢
  go_enter Tryd.func9, Tryd.ntmps9
  go_wp2_with fail
  refine (fmay_any _ _ _ _).mono ?_
  cases hm : mayS u.n u.s
  case false =>
    obtain rfl : r = ((false, 1), tabK K) := by rw [← HR.out]; simp [hearS, mayU, hm]
    rintro e w1 ⟨rfl, hb1⟩
    go_wp2_with fail
    go_ret2
    exact ⟨rfl, v, K, rfl, hG, hR1.below hb1, Mv.of (ba.trans (hb1.mono ba.size))⟩
  case true =>
    rintro e w1 ⟨rfl, hb1⟩
    have hn : 0 ≤ u.n ∧ u.n < 64 := by simp [mayS] at hm; omega
    have hB1 := ba.trans (hb1.mono ba.size)
    have hX1 := hX.below hb1
    have hR2 := hR1.below hb1
    clear hX hR1 hb1 ba
    have x0 := hX1.c0
    have x1 := hX1.c1
    have x2 := hX1.c2
    have hGt := rget_any B q k v K u.n w1 (by omega) hR2
    have hgt : getK K u.n = tabK K u.n.toNat := by unfold tabK; rw [show ((u.n.toNat : Nat) : Int) = u.n by omega]
    rw [hgt] at hGt
    obtain ⟨o, ho⟩ : ∃ o, Hid (ud (tabK K u.n.toNat) = o) := ⟨_, rfl⟩
    obtain ⟨c, hc⟩ : ∃ c, Hid ((tabK K u.n.toNat).isSome = c) := ⟨_, rfl⟩
    rw [ho.out, hc.out] at hGt
    go_wp2_with fail
    refine hGt.mono ?_
    rintro e w2 ⟨rfl, hb2⟩
    have bc := below_alloc w2 (.cells #[.int .i64 o.n, .int .u64 o.i, .int .i64 o.s] 34)
    have hJ : Rh w B q k v K w.heap.size u w2.heap.size o (w2.alloc (.cells #[.int .i64 o.n, .int .u64 o.i, .int .i64 o.s] 34)) :=
      ⟨(hR2.below hb2).below bc, (hX1.below hb2).below bc, Bx.new _ _ _ _ _, (hB1.trans (hb2.mono hB1.size)).trans (bc.mono (Nat.le_trans hB1.size hb2.size))⟩
    generalize hgo : w2.heap.size = go at *
    generalize hw3 : w2.alloc (.cells #[.int .i64 o.n, .int .u64 o.i, .int .i64 o.s] 34) = w3 at *
    have HW3 : Hid _ := hw3
    have HGO : Hid _ := hgo
    have y0 := hJ.bu.c0
    have y1 := hJ.bu.c1
    have y2 := hJ.bu.c2
    have z := hJ.rf.c0
    clear x0 x1 x2 hX1 hR2 hB1 hb2 bc hGt hgt
    cases hq : (u.n == (k : Int))
    case true =>
      have hk : u.n.toNat = k := by have : u.n = k := by simpa using hq
                                    omega
      have hr : r = ((false, (refuteS k (tabK K) u).1), (refuteS k (tabK K) u).2) := by rw [← HR.out]; simp [hearS, mayU, hm, hq]
      have hrs : refuteS k (tabK K) u = if denS k o.i u.n u.i u.s then (if u.i == 18446744073709551615 then (60, tabK K) else (0, (tabK K).set k ⟨k, u.i + 1, 0⟩)) else (70, tabK K) := by
        unfold refuteS; rw [← ho.out, hk]
      have HRS : Hid _ := hrs
      clear hrs
      go_wp2_with fail
      go_quiet (fail)
      have hJ2 := hJ.later (below_drewN _ _ nq)
      generalize w3.drewN nq = w4 at *
      have hJd := hJ2.later (below_drewN _ _ 1)
      have hne : Nonempty (Kept (Rh w B q k v K w.heap.size u go o)) := ⟨⟨_, hJ2⟩⟩
      have a0 : ∀ x : Kept (Rh w B q k v K w.heap.size u go o), x.at_.cell? ⟨q, 0, none⟩ = some (.int .i64 k) := fun x => x.is.rf.c0
      have b0 : ∀ x : Kept (Rh w B q k v K w.heap.size u go o), x.at_.cell? ⟨w.heap.size, 0, none⟩ = some (.int .i64 u.n) := fun x => x.is.bu.c0
      have b1 : ∀ x : Kept (Rh w B q k v K w.heap.size u go o), x.at_.cell? ⟨w.heap.size, 1, none⟩ = some (.int .u64 u.i) := fun x => x.is.bu.c1
      have b2 : ∀ x : Kept (Rh w B q k v K w.heap.size u go o), x.at_.cell? ⟨w.heap.size, 2, none⟩ = some (.int .i64 u.s) := fun x => x.is.bu.c2
      have d1 : ∀ x : Kept (Rh w B q k v K w.heap.size u go o), x.at_.cell? ⟨go, 1, none⟩ = some (.int .u64 o.i) := fun x => x.is.bo.c1
      clear y0 y1 y2 z hJ
      cases hd : denS k o.i u.n u.i u.s
      case false =>
        obtain rfl : r = ((false, 70), tabK K) := by rw [hr, HRS.out, hd]; rfl
        have hv : refS k o.i u.n u.i u.s = .tuple #[.int .u64 o.i, .bool false, .int .i64 0] := by simp [refS, hd]
        go_wp2_with fail
        refine wp_region_kept (Rh w B q k v K w.heap.size u go o) (by kernel_rfl) (by kernel_rfl) hJd ?_
        repeat (go_big_quiet_step (first
          | (refine (frefute_any _ _ _ _ _ hu.1 hu.2 _).mono ?_; rw [hv]; rintro e w4 ⟨rfl, hb4⟩; exact ⟨rfl, Rh.on hb4⟩)))
        refine wpQuiet_nil ?_
        intro w5 h5
        go_wp2_with fail
        go_ret2
        exact ⟨rfl, v, K, rfl, hG, h5.rf, Mv.of h5.below⟩
      case true =>
        cases hi : (u.i == 18446744073709551615)
        case true =>
          obtain rfl : r = ((false, 60), tabK K) := by rw [hr, HRS.out, hd, hi]; rfl
          have hv : refS k o.i u.n u.i u.s = .tuple #[.int .u64 o.i, .bool false, .int .i64 60] := by simp [refS, hd, hi]
          go_wp2_with fail
          refine wp_region_kept (Rh w B q k v K w.heap.size u go o) (by kernel_rfl) (by kernel_rfl) hJd ?_
          repeat (go_big_quiet_step (first
            | (refine (frefute_any _ _ _ _ _ hu.1 hu.2 _).mono ?_; rw [hv]; rintro e w4 ⟨rfl, hb4⟩; exact ⟨rfl, Rh.on hb4⟩)))
          refine wpQuiet_nil ?_
          intro w5 h5
          go_wp2_with fail
          go_ret2
          exact ⟨rfl, v, K, rfl, hG, h5.rf, Mv.of h5.below⟩
        case false =>
          have hr' : r = ((false, 0), (tabK K).set k ⟨k, u.i + 1, 0⟩) := by rw [hr, HRS.out, hd, hi]; rfl
          clear hr
          subst hr'
          have hv : refS k o.i u.n u.i u.s = .tuple #[.int .u64 (u.i + 1), .bool true, .int .i64 0] := by simp [refS, hd, hi]
          go_wp2_with fail
          refine wp_region_kept (Rh w B q k v K w.heap.size u go o) (by kernel_rfl) (by kernel_rfl) hJd ?_
          repeat (go_big_quiet_step (first
            | (refine (frefute_any _ _ _ _ _ hu.1 hu.2 _).mono ?_; rw [hv]; rintro e w4 ⟨rfl, hb4⟩; exact ⟨rfl, Rh.on hb4⟩)))
          refine wpQuiet_nil ?_
          intro w5 h5
          have zz := h5.rf.c0
          go_wp2_with fail
          refine (rput_any B q k v K ⟨k, u.i + 1, 0⟩ w5 (by omega) (Nat.le_trans hB h5.below.size) h5.rf).mono ?_
          rintro e w6 ⟨rfl, v6, hR6, hM6⟩
          go_wp2_with fail
          go_ret2
          exact ⟨rfl, v6, putK K ⟨k, u.i + 1, 0⟩, tabK_put _ _ rfl, good_put hG rfl hinv, hR6, (Mv.of h5.below).trans hM6⟩
    case false =>
      have hr : r = if c && !newerU u o then ((false, 70), tabK K) else ((true, 0), (tabK K).set u.n.toNat u) := by
        rw [← HR.out, ← ho.out, ← hc.out]; simp only [hearS, mayU, hm, hq, if_true]; rfl
      have HRR : Hid _ := hr
      clear hr
      go_wp2_with fail
      go_quiet (fail)
      have hJ2 := hJ.later (below_drewN _ _ nq)
      generalize w3.drewN nq = w4 at *
      clear y0 y1 y2 z hJ
      have y0 := hJ2.bu.c0
      have y1 := hJ2.bu.c1
      have y2 := hJ2.bu.c2
      have z0 := hJ2.bo.c0
      have z1 := hJ2.bo.c1
      have z2 := hJ2.bo.c2
      have hun : u.n = (u.n.toNat : Nat) := by omega
      have HUN : Hid _ := hun
      clear hun
      cases c
      case false =>
        obtain rfl : r = ((true, 0), (tabK K).set u.n.toNat u) := by rw [HRR.out]; rfl
        go_wp2_with fail
        refine (rput_any B q k v K u w4 (by omega) (Nat.le_trans hB hJ2.below.size) hJ2.rf).mono ?_
        rintro e w6 ⟨rfl, v6, hR6, hM6⟩
        go_wp2_with fail
        go_ret2
        exact ⟨rfl, v6, putK K u, tabK_put _ _ HUN.out, good_put hG HUN.out hinv, hR6, (Mv.of hJ2.below).trans hM6⟩
      case true =>
        go_wp2_with fail
        refine (fnewer_any _ _ _ _ _ _ _).mono ?_
        cases hN : newerS u.i u.s o.i o.s
        case false =>
          obtain rfl : r = ((false, 70), tabK K) := by rw [HRR.out]; simp [newerU, hN]
          rintro e w5 ⟨rfl, hb5⟩
          go_wp2_with fail
          go_ret2
          exact ⟨rfl, v, K, rfl, hG, hJ2.rf.below hb5, Mv.of (hJ2.below.trans (hb5.mono hJ2.below.size))⟩
        case true =>
          obtain rfl : r = ((true, 0), (tabK K).set u.n.toNat u) := by rw [HRR.out]; simp [newerU, hN]
          rintro e w5 ⟨rfl, hb5⟩
          have hJ3 := hJ2.later hb5
          clear y0 y1 y2 z0 z1 z2
          have y0 := hJ3.bu.c0
          have y1 := hJ3.bu.c1
          have y2 := hJ3.bu.c2
          go_wp2_with fail
          refine (rput_any B q k v K u w5 (by omega) (Nat.le_trans hB hJ3.below.size) hJ3.rf).mono ?_
          rintro e w6 ⟨rfl, v6, hR6, hM6⟩
          go_wp2_with fail
          go_ret2
          exact ⟨rfl, v6, putK K u, tabK_put _ _ HUN.out, good_put hG HUN.out hinv, hR6, (Mv.of hJ3.below).trans hM6⟩
end Go.Proofs.YtkodeahhckibmaaDoor
