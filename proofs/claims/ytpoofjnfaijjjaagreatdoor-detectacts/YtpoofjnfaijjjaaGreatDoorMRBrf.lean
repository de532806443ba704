/-
  The iterator over a band's nodes: its contract for every loop body. List, Of, Same, shown. The reference's List, Many, First, Next, Place, Both, Major, Of; band's Of; Same and shown.
-/
import Derived.RangeFuncNested
import Derived.RangeFuncBound
import Derived.RangeFuncCalls
import Derived.RangeFuncLeaves
import Derived.RangeFuncBox
import Derived.Shelf.Abstract
import Derived.Shelf.RegionOpen
import Derived.OwnWalkIn
import Derived.TacticsInMore
import Derived.LoopNIn
import Derived.LoopIn
import Derived.Maps.AppendAt
import Derived.Test.YtpoofjnfaijjjaaGreatDoorMDBbn
import Derived.Laws.MakeOwn
namespace Go.Proofs.YtpoofjnfaijjjaaGreatDoor.Ro.Bnd
open Go.RowKit Go.Shelf
attribute [local go_sem] Oper.semAt_some
set_option maxRecDepth 100000 in
set_option maxHeartbeats 1000000 in
theorem each_in (F : Fence) (n : Nat) (h37 : F.fn 201) (h38 : F.fn 202) (hro : F.round = none) (hn : 1 ≤ n) (l Bn n₀ b : Nat) (hb : b < lim) (h0n : 1 < n₀) (J Jx : List Int → World → Prop)
    (hz : ∀ (x : Nat) (W : World), x < lim → x ≠ 0 → Tab W → CallsIn F (n - 1) Tryz.prog 202 #[.int .u64 x] W fun e W' => e = .returned (.int .i64 (Lib.ctz 64 x)) ∧ W' = W)
    (hY : ∀ pre x W, J pre W → pre.length < (lst b).length → YieldAt F (n - 1) Tryz.prog l #[.int .i64 x] W fun e W' =>
      (e = .returned (.bool true) ∧ J (pre ++ [x]) W' ∧ Below n₀ W W') ∨ (e = .returned (.bool false) ∧ Jx (pre ++ [x]) W'))
    (W : World) (hBn : W.cell? ⟨Bn, 0, none⟩ = some (.int .u64 b)) (hT : Tab W) (h0 : J [] W) :
    CallsIn F n Tryz.prog 201 #[.func (.yield l) #[] #[], .pointer (some ⟨Bn, 0, none⟩)] W fun e W' => (∃ v, e = .returned v) ∧
      ((∃ ys, ys = lst b ∧ J ys W') ∨ (∃ pre, pre <+: lst b ∧ Jx pre W')) := by
  refine callsIn_of_wp Tryz.func201 rfl h37 ?_ hro
  simp only [Tryz.ntmps201, List.size_toArray, List.length_cons, List.length_nil, Nat.reduceAdd, Nat.reduceSub, Array.replicate_succ, Array.replicate_zero, List.push_toArray, List.append_toArray, List.nil_append, List.cons_append]
  gi_wp2
  gi_loopw [3] (fun p wr => ∃ (pre : List Int) (x : Nat), p = .int .u64 x ∧ x < lim ∧ lst b = pre ++ lst x ∧ Tab wr ∧ J pre wr)
    (fun p wr => manyS (intOf p).toNat)
  case atStart =>
    exact ⟨[], b, rfl, hb, rfl, hT, h0⟩
  case round =>
    obtain ⟨pre, x, rfl, hx, hl, hT', hJs⟩ := hrel
    by_cases hx0 : x = 0
    · subst hx0
      gi_wp2
      go_end0
      exact ⟨⟨_, rfl⟩, .inl ⟨pre, by rw [hl, lst_zero, List.append_nil], hJs⟩⟩
    · have hst := lst_step hx0 hx
      have hx1 : ((x : Int) == 0) = false := by simp; omega
      obtain ⟨fn, tmps, assign, body, hy, hR⟩ := hY pre (Lib.ctz 64 x : Int) wr hJs (by rw [hl, hst]; simp)
      have hs : IntKind.u64.wrap ((x : Int) - 1) = ((x - 1 : Nat) : Int) := by
        rw [show (x : Int) - 1 = ((x - 1 : Nat) : Int) by omega]; exact wrap_nat _ (by omega)
      have ha := and_nat x (x - 1) hx (by omega)
      have hm : manyS (x &&& (x - 1)) < manyS x := by
        unfold manyS; rw [nodes_step hx0 hx]; simp
      have hlt : x &&& (x - 1) < lim := and_lt hx
      have hcz := hz x wr hx hx0 hT'
      generalize hd : x - 1 = d at *
      generalize hc : Lib.ctz 64 x = c at *
      generalize hy' : x &&& d = y at *
      gi_wp2_with (gi_at_call 202; refine hcz.mono ?_; rintro e w' ⟨rfl, rfl⟩)
      refine hR.mono ?_
      rintro e W3 (⟨rfl, hJ3, hk3⟩ | ⟨rfl, hJx3⟩)
      · gi_wp2
        go_roundw
        case rel => exact ⟨pre ++ [(c : Int)], y, rfl, hlt, by rw [hl, hst]; simp, hT'.below h0n hk3, hJ3⟩
        case measure => simpa [intOf] using hm
      · gi_wp2
        refine bodyPost_ret (results_none rfl _ _ _) rfl ?_
        exact ⟨⟨_, rfl⟩, .inr ⟨pre ++ [(c : Int)], ⟨lst y, by rw [hl, hst]; simp⟩, hJx3⟩⟩
set_option maxHeartbeats 1000000 in
theorem nodes_in (F : Fence) (n : Nat) (h33 : F.fn 171) (hro : F.round = none) (b : Int) (w : World) :
    CallsIn F n Tryz.prog 171 #[.int .u64 b] w fun e w' => e = .returned (.func (.func 201) #[] #[.pointer (some ⟨w.heap.size, 0, none⟩)]) ∧ w' = w.alloc (.cells #[.int .u64 b] 34) := by
  refine callsIn_of_wp Tryz.func171 rfl h33 ?_ hro
  simp only [Tryz.ntmps171, List.size_toArray, List.length_cons, List.length_nil, Nat.reduceAdd, Nat.reduceSub, Array.replicate_succ, Array.replicate_zero, List.push_toArray, List.append_toArray, List.nil_append, List.cons_append]
  gi_wp2
  go_ret
  exact ⟨rfl, rfl⟩
theorem each_stops (n : Nat) (hn : 1 ≤ n) (Bn n₀ b : Nat) (hb : b < lim) (h0n : 1 < n₀) (w : World) (hBn : Bn < w.heap.size)
    (hc : w.cell? ⟨Bn, 0, none⟩ = some (.int .u64 b)) (hT : Tab w) :
    SeqStopsK Fence.wide n Tryz.prog 201 #[.pointer (some ⟨Bn, 0, none⟩)] (fun x : Int => #[Value.int .i64 x]) (Below n₀) (fun ys => ys = lst b) (fun pre => pre <+: lst b) (lst b).length w := fun l J Jx W hW _ _ hY h0 =>
  each_in Fence.wide n trivial trivial rfl hn l Bn n₀ b hb h0n J Jx (fun x W hx hx0 hT => callsIn_wide.2 (tz_any x hx hx0 W hT)) hY W ((hW.cell (p := ⟨Bn, 0, none⟩) hBn).trans hc) (hT.below (hT.lt) hW) h0
attribute [local go_sem] Oper.semAt_some
theorem Tryz.info3 : (Tryz.prog.info? 3).map (fun i => (i.zero, i.size, i.bytes)) = some (some (.int .i64 0), 1, 8) := by kernel_rfl
set_option maxRecDepth 100000 in
set_option maxHeartbeats 2000000 in
theorem list_any (b : Nat) (hb : b < lim) (w : World) (hT : Tab w) :
    Calls Tryz.prog 134 #[.int .u64 b] w fun e w' => ∃ v, e = .returned v ∧ w'.ownsRow w.heap.size 3 1 v (lst b).length ((lst b).map (Value.int .i64)) ∧ Below w.heap.size w w' := by
  have h0 := hT.lt
  have hm := many_le b
  obtain ⟨i0, hi, hz0, hz1, hz2⟩ := info_parts Tryz.info3
  obtain ⟨w0, hmk, hown0, hgr0⟩ := run_make_own w w.heap.size 82 3 i0 (.int .i64 0) 1 Tryz.underlying82 hi hz0 hz1 .i64 .i64 (manyS b) (by rw [hz2]; omega) (by unfold maxLen; omega) (Nat.le_refl _)
  refine (callsIn_wide (n := 5)).1 ?_
  refine callsIn_of_wp_marks Tryz.func134 rfl trivial ?_ rfl
  simp only [Tryz.ntmps134, List.size_toArray, List.length_cons, List.length_nil, Nat.reduceAdd, Nat.reduceSub, Array.replicate_succ, Array.replicate_zero, List.push_toArray, List.append_toArray, List.nil_append, List.cons_append]
  gi_wp2_with first | (refine ⟨trivial, ?_⟩; gi_at_call 171; refine (nodes_in Fence.wide 4 trivial rfl _ _).mono ?_; rintro e w' ⟨rfl, rfl⟩) | (refine ⟨trivial, ?_⟩; gi_at_call 168; refine (callsIn_wide.2 (many_any b hb w)).mono ?_; rintro e w' ⟨rfl, hw'⟩; rw [hw']; clear hw')
  have hs0 := hgr0.size
  have hBw : Below w.heap.size w w0 := (Below.refl _ w).grown hgr0 (Nat.le_refl _) (fun k e => by cases e)
  have bO := Boxed.new w0 82 (.slice (some ⟨w.heap.size, 0, none⟩) 0 (manyS b))
  have bN := Boxed.new (w0.alloc (.cells #[.slice (some ⟨w.heap.size, 0, none⟩) 0 (manyS b)] 82)) 34 (.int .u64 b)
  rw [World.size_alloc] at bN
  have hB0 : Below w.heap.size w ((w0.alloc (.cells #[.slice (some ⟨w.heap.size, 0, none⟩) 0 (manyS b)] 82)).alloc (.cells #[.int .u64 b] 34)) := (hBw.alloc hs0 _).alloc (by simp; omega) _
  refine wpIn_rangeFunc_ownG rfl (by decide) (gf := 201) (lb := #[.pointer (some ⟨w0.heap.size + 1, 0, none⟩)]) rfl trivial (enters_of Tryz.func201 (by kernel_rfl) rfl)
    (each_stops 4 (by decide) (w0.heap.size + 1) w.heap.size b hb h0 _ (by simp) bN.cell (hT.below h0 hB0)) belowK_t (belowK_b (by simp; omega)) (Below.refl _ _) (fun _ => rfl)
    (fun pre W => (∃ v, Boxed W w0.heap.size 82 v ∧ W.ownsRow w.heap.size 3 1 v pre.length (pre.map (Value.int .i64)) ∧ True) ∧ Below w.heap.size w W)
    (fun _ _ _ => False)
    (OwnFrom.and (Own.from (holdsRow_own w.heap.size w0.heap.size 82 3 1 (fun (pre : List Int) => pre.length) (fun (pre : List Int) => pre.map (Value.int .i64)) (fun _ _ => True)) _) (ownFrom_below (Nat.le_refl _) (by simp; omega)))
    (fun _ _ _ _ _ hs _ _ => hs)
    ⟨⟨_, bO.alloc _, (hown0.alloc _).alloc _, trivial⟩, hB0⟩
    (fun x => { tmps := #[.int .u64 b, undef, .slice none 0 0, .pointer (some ⟨w0.heap.size, 0, none⟩), .int .i64 x, .int .u64 b, .int .i64 (manyS b), .slice (some ⟨w.heap.size, 0, none⟩) 0 (manyS b), .int .u64 b, .func (.func 201) #[] #[.pointer (some ⟨w0.heap.size + 1, 0, none⟩)], .int .i64 x, undef, undef, undef, undef, undef], defers := [] }) ?assign ?body ?done ?stop
  case assign =>
    intro l x W K hK
    gi_wp2
    exact hK
  case body =>
    rintro l pre x W ⟨⟨v, hv, hrow, _⟩, hB⟩ hlt
    have hc := hv.cell
    rw [lst_length] at hlt
    gi_wp2_with (gi_at_builtin; refine wpListIn_append_own _ rfl _ _ 82 rfl w.heap.size 3 i0 (.int .i64 0) 1 8 Tryz.underlying82 hi hz0 hz1 hz2 rfl (by decide) _ _ _ rfl (hrow.alloc _) ⟨W.heap.size, 0, none⟩ 1 1 [.int .i64 x] rfl rfl (cell_one_new _ _ _) (by simp [Value.oneCell']) (by unfold maxLen; omega) (by omega) (by have := hB.size; simp; omega) ?_; intro v' w1 hown' hgrow _; obtain ⟨g', cap', rfl⟩ := ownsRow_succ hown'; obtain ⟨hv1, hv2, hr2, hk2, hb2⟩ := hv.appended (by decide) hrow hB.size hs0 hown' hgrow; have hc1 := hv1.cell; have hf1 := hv1.frozen)
    exact ⟨hk2.from _, hb2, ⟨_, hv2, by simpa using hr2, trivial⟩, hB.trans hb2⟩
  case done =>
    rintro D ys W hD rfl ⟨⟨v, hv, hrow, _⟩, hB⟩ hK
    have hc := hv.cell
    gi_wp2
    refine ⟨by simp, .inl ⟨_, _, rfl, run_takeDeferred hK, ?_⟩⟩
    exact ⟨_, results_tmp rfl _ _ _, v, rfl, ownsRow_putObj hrow _ hK rfl, hB.trans (belowK_b (w := w) (Nat.le_refl _) W D _ _ (by simp at hD; omega) hK rfl rfl)⟩
  case stop =>
    rintro D c pre W _ _ h _
    exact h.elim
end Go.Proofs.YtpoofjnfaijjjaaGreatDoor.Ro.Bnd
namespace Go.Proofs.YtpoofjnfaijjjaaGreatDoor.Ro.Bnd
open Go.RowKit
end Go.Proofs.YtpoofjnfaijjjaaGreatDoor.Ro.Bnd
