/-
  The iterator over a band's nodes: its contract for every loop body.
-/
import Derived.RangeFuncNested
import Derived.RangeFuncBound
import Derived.RangeFuncCalls
import Derived.RangeFuncLeaves
import Derived.RangeFuncBox
import Derived.Shelf.Abstract
import Derived.Shelf.RegionOpen
import Derived.WalkKit
import Derived.OwnWalkIn
import Derived.TacticsInMore
import Derived.LoopNIn
import Derived.LoopIn
import Derived.Maps.AppendAt
import Derived.Test.YtlbeincgknmijaaDoorRBbs
namespace Go.Proofs.YtlbeincgknmijaaDoor.Ro.Bnd
open Go.RowKit Go.Shelf

attribute [local go_sem] Oper.semAt_some

set_option maxRecDepth 100000 in
set_option maxHeartbeats 1000000 in
/-- The closure: b's nodes, rising, for every loop body that keeps what lay below n₀. -/
theorem each_in (F : Fence) (n : Nat) (h37 : F.fn 21) (h38 : F.fn 22) (hro : F.round = none) (hn : 1 ≤ n) (l Bn n₀ b : Nat) (hb : b < lim) (h0n : 0 < n₀) (J Jx : List Int → World → Prop)
    (hz : ∀ (x : Nat) (W : World), x < lim → x ≠ 0 → Tab W → CallsIn F (n - 1) Tryd.prog 22 #[.int .u64 x] W fun e W' => e = .returned (.int .i64 (Lib.ctz 64 x)) ∧ W' = W)
    (hY : ∀ pre x W, J pre W → pre.length < (lst b).length → YieldAt F (n - 1) Tryd.prog l #[.int .i64 x] W fun e W' =>
      (e = .returned (.bool true) ∧ J (pre ++ [x]) W' ∧ Below n₀ W W') ∨ (e = .returned (.bool false) ∧ Jx (pre ++ [x]) W'))
    (W : World) (hBn : W.cell? ⟨Bn, 0, none⟩ = some (.int .u64 b)) (hT : Tab W) (h0 : J [] W) :
    CallsIn F n Tryd.prog 21 #[.func (.yield l) #[] #[], .pointer (some ⟨Bn, 0, none⟩)] W fun e W' => (∃ v, e = .returned v) ∧
      ((∃ ys, ys = lst b ∧ J ys W') ∨ (∃ pre, pre <+: lst b ∧ Jx pre W')) := by
  refine callsIn_of_wp Tryd.func21 rfl h37 ?_ hro
  simp only [Tryd.ntmps21, List.size_toArray, List.length_cons, List.length_nil, Nat.reduceAdd, Nat.reduceSub, Array.replicate_succ, Array.replicate_zero, List.push_toArray, List.append_toArray, List.nil_append, List.cons_append]
  gi_wp2
  gi_loopw [3] (fun p wr => ∃ (pre : List Int) (x : Nat), p = .int .u64 x ∧ x < lim ∧ lst b = pre ++ lst x ∧ Tab wr ∧ J pre wr)
    (fun p wr => manyS (intOf p).toNat)
  case atStart =>
    exact ⟨[], b, rfl, hb, rfl, hT, h0⟩
  case round =>
    obtain ⟨pre, x, rfl, hx, hl, hT', hJs⟩ := hrel
    by_cases hx0 : x = 0
    · subst hx0
      gi_wp2
      go_end0
      exact ⟨⟨_, rfl⟩, .inl ⟨pre, by rw [hl, lst_zero, List.append_nil], hJs⟩⟩
    · have hst := lst_step hx0 hx
      have hx1 : ((x : Int) == 0) = false := by simp; omega
      obtain ⟨fn, tmps, assign, body, hy, hR⟩ := hY pre (Lib.ctz 64 x : Int) wr hJs (by rw [hl, hst]; simp)
      have hs : IntKind.u64.wrap ((x : Int) - 1) = ((x - 1 : Nat) : Int) := by
        rw [show (x : Int) - 1 = ((x - 1 : Nat) : Int) by omega]; exact wrap_nat _ (by omega)
      have ha := and_nat x (x - 1) hx (by omega)
      have hm : manyS (x &&& (x - 1)) < manyS x := by
        unfold manyS; rw [nodes_step hx0 hx]; simp
      have hlt : x &&& (x - 1) < lim := and_lt hx
      have hcz := hz x wr hx hx0 hT'
      generalize hd : x - 1 = d at *
      generalize hc : Lib.ctz 64 x = c at *
      generalize hy' : x &&& d = y at *
      gi_wp2_with (gi_at_call 22; refine hcz.mono ?_; rintro e w' ⟨rfl, rfl⟩)
      refine hR.mono ?_
      rintro e W3 (⟨rfl, hJ3, hk3⟩ | ⟨rfl, hJx3⟩)
      · gi_wp2
        go_roundw
        case rel => exact ⟨pre ++ [(c : Int)], y, rfl, hlt, by rw [hl, hst]; simp, hT'.below h0n hk3, hJ3⟩
        case measure => simpa [intOf] using hm
      · gi_wp2
        refine bodyPost_ret (results_none rfl _ _ _) rfl ?_
        exact ⟨⟨_, rfl⟩, .inr ⟨pre ++ [(c : Int)], ⟨lst y, by rw [hl, hst]; simp⟩, hJx3⟩⟩

set_option maxHeartbeats 1000000 in
theorem nodes_in (F : Fence) (n : Nat) (h33 : F.fn 15) (hro : F.round = none) (b : Int) (w : World) :
    CallsIn F n Tryd.prog 15 #[.int .u64 b] w fun e w' => e = .returned (.func (.func 21) #[] #[.pointer (some ⟨w.heap.size, 0, none⟩)]) ∧ w' = w.alloc (.cells #[.int .u64 b] 22) := by
  refine callsIn_of_wp Tryd.func15 rfl h33 ?_ hro
  simp only [Tryd.ntmps15, List.size_toArray, List.length_cons, List.length_nil, Nat.reduceAdd, Nat.reduceSub, Array.replicate_succ, Array.replicate_zero, List.push_toArray, List.append_toArray, List.nil_append, List.cons_append]
  gi_wp2
  go_ret
  exact ⟨rfl, rfl⟩

/-- What nodes tells goes through b's nodes. -/
theorem each_stops (n : Nat) (hn : 1 ≤ n) (Bn n₀ b : Nat) (hb : b < lim) (h0n : 0 < n₀) (w : World) (hBn : Bn < w.heap.size)
    (hc : w.cell? ⟨Bn, 0, none⟩ = some (.int .u64 b)) (hT : Tab w) :
    SeqStopsK Fence.wide n Tryd.prog 21 #[.pointer (some ⟨Bn, 0, none⟩)] (fun x : Int => #[Value.int .i64 x]) (Below n₀) (fun ys => ys = lst b) (fun pre => pre <+: lst b) (lst b).length w := fun l J Jx W hW _ _ hY h0 =>
  each_in Fence.wide n trivial trivial rfl hn l Bn n₀ b hb h0n J Jx (fun x W hx hx0 hT => callsIn_wide.2 (tz_any x hx hx0 W hT)) hY W ((hW.cell (p := ⟨Bn, 0, none⟩) hBn).trans hc) (hT.below (hT.lt) hW) h0

end Go.Proofs.YtlbeincgknmijaaDoor.Ro.Bnd
