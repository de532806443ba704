/-
  The iterator over the numbers of spans: its contract for every loop body that keeps the blocks of spans.
-/
import Derived.RangeFuncNested
import Derived.RangeFuncBound
import Derived.RangeFuncCalls
import Derived.RangeFuncLeaves
import Derived.RangeFuncBox
import Derived.Shelf.Abstract
import Derived.Shelf.RegionOpen
import Derived.WalkKit
import Derived.OwnWalkIn
import Derived.TacticsInMore
import Derived.LoopNIn
import Derived.LoopIn
import Derived.Maps.AppendAt
import Derived.Test.YtlbeincgknmijaaNmt
namespace Go.Proofs.Ytlbeincgknmijaa
open Go.RowKit Go.Shelf

attribute [local go_sem] Oper.semAt_some

/-- A block of one span that is laid in a world without it. -/
theorem grown_new2 (W : World) (z : Array Value) (t : TypeId) (a b : Value) : W.grownBy (((W.alloc (.cells z t)).setCell ⟨W.heap.size, 0, none⟩ a).setCell ⟨W.heap.size, 1, none⟩ b) none := by
  refine ⟨rfl, rfl, rfl, ?_, fun k hk _ => ?_⟩
  · simp [World.setCell]
  · rw [Below.heap_setCell _ _ _ _ (by show k ≠ W.heap.size; omega), Below.heap_setCell _ _ _ _ (by show k ≠ W.heap.size; omega)]
    exact Below.heap_alloc W _ k hk

/-- A number of L. -/
abbrev Nn (L : List Sn) := { x : Int // hasS L x = true }
def vals {L : List Sn} (l : List (Nn L)) : List Int := l.map Subtype.val
theorem vals_snoc {L : List Sn} (l : List (Nn L)) (x : Nn L) : vals (l ++ [x]) = vals l ++ [x.1] := by simp [vals]
theorem vals_length {L : List Sn} (l : List (Nn L)) : (vals l).length = l.length := by simp [vals]

set_option maxRecDepth 100000 in
set_option maxHeartbeats 2000000 in
theorem numbers_in (F : Fence) (n : Nat) (h52 : F.fn 52) (hro : F.round = none) (hn : 1 ≤ n) (y Bn B C : Nat) (v : Value) (L : List Sn) (hL : L.length ≤ 100000) (hU : Up 0 L) (J Jx : List (Nn L) → World → Prop)
    (hJ : AbidesFrom C J)
    (hY : ∀ pre x W, J pre W → pre.length < (numS L).length → YieldAt F (n - 1) Try.prog y #[.int .u64 x.1] W fun e W' =>
      (e = .returned (.bool true) ∧ J (pre ++ [x]) W' ∧ Ks W W') ∨ (e = .returned (.bool false) ∧ Jx (pre ++ [x]) W'))
    (W : World) (hBn : W.cell? ⟨Bn, 0, none⟩ = some v) (hO : Ow B v L W) (h0 : J [] W) :
    CallsIn F n Try.prog 52 #[.func (.yield y) #[] #[], .pointer (some ⟨Bn, 0, none⟩)] W fun e W' => (∃ v, e = .returned v) ∧
      ((∃ ys, vals ys = numS L ∧ J ys W') ∨ (∃ pre, vals pre <+: numS L ∧ Jx pre W')) := by
  have hok : ∀ s ∈ L, SnOk s := hU.ok
  obtain ⟨a, cap, rfl, k1, k2, k3⟩ := (hO.rs hok).1
  refine callsIn_of_wp Try.func52 rfl h52 ?_ hro
  simp only [Try.ntmps52, List.size_toArray, List.length_cons, List.length_nil, Nat.reduceAdd, Nat.reduceSub, Array.replicate_succ, Array.replicate_zero, List.push_toArray, List.append_toArray, List.nil_append, List.cons_append]
  gi_wp2
  gi_loopw [8] (fun p wr => ∃ (j : Nat) (pre : List (Nn L)), p = .int .i64 j ∧ j ≤ L.length ∧ Ow B (.slice a L.length cap) L wr ∧ vals pre = numS (L.take j) ∧ J pre wr)
    (fun p wr => L.length - (intOf p).toNat)
  case atStart =>
    exact ⟨0, [], rfl, by omega, hO, rfl, h0⟩
  case round =>
    obtain ⟨j, pre, rfl, hj, hOr, hpr, hJr⟩ := hrel
    by_cases hjl : (j : Int) < L.length
    · have hjL : j < L.length := by omega
      obtain ⟨_, _, e, _, _, k4⟩ := (hOr.rs hok).1
      cases e
      rcases k4 with k4 | ⟨g, off, rfl, k4⟩
      · omega
      obtain ⟨c0, c1⟩ := k4 j hjL
      clear k3 k4
      have hnx : Hid (numS (L.take (j + 1)) = numS (L.take j) ++ seqI (el L j).f (cntS (el L j))) := numS_take hjL
      have hpx : numS (L.take (j + 1)) <+: numS L := numS_prefix L (j + 1)
      rw [hnx.out] at hpx
      obtain ⟨m1, m2, m3⟩ := hU.mem _ (el_mem hjL)
      have hmem := el_mem hjL
      generalize hs : el L j = s at *
      clear hs
      have hcs : Hid ((cntS s : Int) = s.t + 1 - s.f) := by show (cntS s : Int) = _; unfold cntS; omega
      have hJ1 : J pre (wr.alloc (.cells #[.int .u64 s.f, .int .u64 s.t] 51)) := hJ _ _ _ none hJr (World.grownBy_alloc wr _ none) (fun r e => by cases e)
      have hO1 := hOr.ks (Ks.alloc wr (.cells #[.int .u64 s.f, .int .u64 s.t] 51))
      have hb1 : (wr.alloc (.cells #[.int .u64 s.f, .int .u64 s.t] 51)).heap[wr.heap.size]? = some (.cells #[.int .u64 s.f, .int .u64 s.t] 51 (0, 0)) := heap_alloc_new wr _
      have hpr : Hid (vals pre = numS (L.take j)) := hpr
      generalize numS (L.take j) = P at *
      clear hJr hOr
      generalize wr = wo at *
      gi_wp2
      clear c0 c1
      gi_loopw [5] (fun p w2 => ∃ (k : Nat) (pre : List (Nn L)), p = .int .u64 (s.f + k) ∧ (k : Int) ≤ s.t + 1 - s.f ∧ w2.heap[wo.heap.size]? = some (.cells #[.int .u64 s.f, .int .u64 s.t] 51 (0, 0)) ∧ Ow B (.slice (some ⟨g, off, none⟩) L.length cap) L w2 ∧ Hid (vals pre = P ++ seqI s.f k) ∧ J pre w2)
        (fun p w2 => (s.t + 1 - intOf p).toNat)
      case atStart =>
        exact ⟨0, pre, by simp, by simp; omega, hb1, hO1, (by show vals pre = P ++ seqI s.f 0; rw [hpr.out]; simp [seqI]), hJ1⟩
      case round =>
        clear hJ1 hO1 hb1 hpr
        obtain ⟨k, pre, rfl, hk, hb2, hO2, hpr, hJ2⟩ := hrel
        have c1 : wr.cell? ⟨wo.heap.size, 1, none⟩ = some (.int .u64 s.t) := by simp [World.cell?, hb2]
        by_cases hkt : s.f + (k : Int) ≤ s.t
        · have hlen : pre.length < (numS L).length := by
            have := hpx.length_le
            rw [← vals_length pre, hpr.out]
            rw [List.length_append, seqI_length] at this ⊢
            have := hcs.out
            omega
          have hx : hasS L (s.f + (k : Int)) = true := hasS_iff.2 ⟨s, hmem, by omega, hkt⟩
          have hpn : Hid (vals (pre ++ [(⟨s.f + (k : Int), hx⟩ : Nn L)]) = P ++ seqI s.f (k + 1)) := by
            show vals _ = _
            rw [vals_snoc, hpr.out, seqI_succ, List.append_assoc]
          obtain ⟨fn, tmps, assign, body, hy, hR⟩ := hY pre ⟨s.f + (k : Int), hx⟩ wr hJ2 hlen
          gi_wp2
          refine hR.mono ?_
          rintro e W3 (⟨rfl, hJ3, hk3⟩ | ⟨rfl, hJx3⟩)
          · have hwr : IntKind.u64.wrap (s.f + (k : Int) + 1) = s.f + (k : Int) + 1 := by rw [IntKind.wrap_u64]; omega
            gi_wp2
            go_roundw
            case rel => exact ⟨k + 1, _, by go_num, by omega, hk3.same _ _ _ hb2, hO2.ks hk3, hpn, hJ3⟩
            case measure => simp [intOf]; omega
          · gi_wp2
            refine bodyPost_ret (results_none rfl _ _ _) rfl ?_
            refine ⟨⟨_, rfl⟩, .inr ⟨_, ?_, hJx3⟩⟩
            rw [hpn.out]
            have h1 := seqI_prefix s.f (k := k + 1) (m := cntS s) (by have := hcs.out; omega)
            exact ((List.prefix_append_right_inj P).2 h1).trans hpx
        · gi_wp2
          go_roundw
          case rel => 
            have hkc : k = cntS s := by have := hcs.out; omega
            subst hkc
            exact ⟨j + 1, pre, by go_num, by omega, hO2, by rw [hnx.out]; exact hpr.out, hJ2⟩
          case measure => simp [intOf]; omega
    · gi_wp2
      go_end0
      rw [List.take_of_length_le (by omega)] at hpr
      exact ⟨⟨_, rfl⟩, .inl ⟨_, hpr, hJr⟩⟩
set_option maxHeartbeats 1000000 in
theorem numbers_fn (F : Fence) (n : Nat) (h34 : F.fn 34) (hro : F.round = none) (a : Option Addr) (len cap : Nat) (w : World) :
    CallsIn F n Try.prog 34 #[.slice a len cap] w fun e w' => e = .returned (.func (.func 52) #[] #[.pointer (some ⟨w.heap.size, 0, none⟩)]) ∧ w' = w.alloc (.cells #[.slice a len cap] 23) := by
  refine callsIn_of_wp Try.func34 rfl h34 ?_ hro
  simp only [Try.ntmps34, List.size_toArray, List.length_cons, List.length_nil, Nat.reduceAdd, Nat.reduceSub, Array.replicate_succ, Array.replicate_zero, List.push_toArray, List.append_toArray, List.nil_append, List.cons_append]
  gi_wp2
  go_ret
  exact ⟨rfl, rfl⟩

/-- What numbers tells goes through L's numbers, rising. -/
theorem numbers_stops (n : Nat) (hn : 1 ≤ n) (Bn B : Nat) (v : Value) (L : List Sn) (hL : L.length ≤ 100000) (hU : Up 0 L) (w : World) (hBn : Bn < w.heap.size) (hc : w.cell? ⟨Bn, 0, none⟩ = some v) (hO : Ow B v L w) :
    SeqStopsK Fence.wide n Try.prog 52 #[.pointer (some ⟨Bn, 0, none⟩)] (fun x : Nn L => #[Value.int .u64 x.1]) Ks (fun ys => vals ys = numS L) (fun pre => vals pre <+: numS L) (numS L).length w := fun l J Jx W hW hJ _ hY h0 =>
  numbers_in Fence.wide n trivial rfl hn l Bn B W.heap.size v L hL hU J Jx hJ hY W ((hW.cell (p := ⟨Bn, 0, none⟩) hBn).trans hc) (hO.below hW) h0
end Go.Proofs.Ytlbeincgknmijaa
