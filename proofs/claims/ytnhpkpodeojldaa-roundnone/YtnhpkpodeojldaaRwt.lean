/-
  with.
-/
import Derived.Test.YtnhpkpodeojldaaRnx
import Derived.Laws.CopyOwn
namespace Go.Proofs.Ytnhpkpodeojldaa
open Go.RowKit

theorem splice_all {α : Type} (Z X1 X2 : List α) (x : α) (hZ : Z.length = X1.length + 1 + X2.length) : splice ((splice Z 0 X1).set X1.length x) (X1.length + 1) X2 = X1 ++ x :: X2 := by
  obtain ⟨z, Z', hz⟩ : ∃ z Z', Z.drop X1.length = z :: Z' := by
    cases h : Z.drop X1.length with
    | nil => have := congrArg List.length h; simp at this; omega
    | cons z Z' => exact ⟨z, Z', rfl⟩
  have hl : Z'.length = X2.length := by have := congrArg List.length hz; simp at this; omega
  have e1 : splice Z 0 X1 = X1 ++ z :: Z' := by unfold splice; simp [hz]
  have e2 : (X1 ++ z :: Z').set X1.length x = X1 ++ x :: Z' := by simp
  rw [e1, e2]
  unfold splice
  have e3 : (X1 ++ x :: Z').take (X1.length + 1) = X1 ++ [x] := by
    rw [show X1 ++ x :: Z' = (X1 ++ [x]) ++ Z' by simp]
    exact List.take_left' (by simp)
  have e4 : (X1 ++ x :: Z').drop (X1.length + 1 + X2.length) = [] := List.drop_eq_nil_of_le (by simp; omega)
  rw [e3, e4]
  simp

/-- What is cut off a row behind n. -/
theorem cut_row (g N n : Nat) (hn : n ≤ N) : ∃ a' cap', (∀ w', (Instr.slice 26 (.slice (some ⟨g, 0, none⟩) N N) (some (.int .i64 (n : Int))) none none).run Try.prog w' = .ok (.slice a' (N - n) cap') w') ∧ (0 < N - n → a' = some ⟨g, n, none⟩) := by
  have hr : ∀ w', (Instr.slice 26 (.slice (some ⟨g, 0, none⟩) N N) (some (.int .i64 (n : Int))) none none).run Try.prog w' = .ok (sliced (some ⟨g, 0, none⟩) n N N 1) w' := fun w' => by
    rw [run_slice_l (P := Try.prog) (w := w') 26 (some ⟨g, 0, none⟩) N N Try.elemInt .i64 (n : Int) (by omega) (by omega), Try.sizeInt]
    rfl
  by_cases hc : N = n
  · exact ⟨some ⟨g, 0, none⟩, N - n, fun w' => by rw [hr, sliced, if_pos hc], fun h => by omega⟩
  · exact ⟨some ⟨g, n, none⟩, N - n, fun w' => by rw [hr, sliced, if_neg hc]; simp [Addr.add]; omega, fun _ => rfl⟩

theorem nmin {a b c : Nat} (h : a = min b c) : a = Nat.min b c := h
theorem Try.sizeOne : (Try.prog.info? 3).map (·.size) = some 1 := by kernel_rfl

/-- copy, as a run. -/
theorem copy_run (w : World) (a6 a7 : Option Addr) (n c6 c7 g off : Nat) (D X2 : List Value) (B : Nat) (w0 : World) (hg : w.heap[g]? = some (.cells D.toArray 3 (0, 0))) (hn : X2.length = n)
    (hpos : 0 < X2.length → a6 = some ⟨g, off, none⟩ ∧ ∃ ad, a7 = some ad ∧ ∀ j v, X2[j]? = some v → w.cell? (ad.add j) = some v)
    (hfit : off + X2.length ≤ D.length) (h1 : ∀ v ∈ X2, v.oneCell' = true) (hb : Below B w0 w) (hBg : B ≤ g) :
    ∃ w', (Builtin.copy_ #[26, 26] 3 #[.slice a6 n c6, .slice a7 n c7]).run Try.prog w = .ok (.int .i64 n) w' ∧ Hid (w'.heap[g]? = some (.cells (splice D off X2).toArray 3 (0, 0))) ∧ Below B w0 w' := by
  subst hn
  by_cases h0 : X2.length = 0
  · obtain rfl : X2 = [] := List.eq_nil_of_length_eq_zero h0
    refine ⟨w, run_copy_none (P := Try.prog) w 26 26 3 3 a6 a7 _ _ _ _ Try.underlying26 Try.sizeOne (by simp), (show _ = _ by simpa [splice] using hg), hb⟩
  · obtain ⟨rfl, ad, rfl, hsrc⟩ := hpos (by omega)
    refine ⟨_, run_copy_row (P := Try.prog) w 26 26 3 3 g off _ _ ad _ _ D.toArray 3 X2 Try.underlying26 Try.sizeOne hg (nmin (by omega)) hsrc (by simpa using hfit) h1, (show _ = _ by simpa [splice] using setRow_heap w g _ _ 3 _ hg), below_setRow hb hBg _⟩

set_option maxRecDepth 100000 in
set_option maxHeartbeats 1000000 in
theorem with_any (v : Value) (s : List Int) (k : Nat) (x : Int) (w : World) (hs : s.length ≤ 1000000) (hk : k ≤ s.length) (hv : Rd .i64 v s w) :
    Calls Try.prog 35 #[v, .int .i64 k, .int .i64 x] w fun e w' => (∃ v', e = .returned v' ∧ Rd .i64 v' (s.take k ++ x :: s.drop k) w' ∧ ∀ g, v'.ownBlock = some g → w.heap.size ≤ g ∧ g < w'.heap.size) ∧ Below w.heap.size w w' := by
  obtain ⟨i0, hi, hz0, hz1, hz2⟩ := info_parts Try.infoInt
  have hv' := hv
  obtain ⟨a, cap, rfl, hv1, hv2, hv3, hv4⟩ := hv'
  obtain ⟨a7, c7, hcut7, hd7, _⟩ := cut_from hv k hk
  obtain ⟨a6, c6, hcut6, hg6⟩ := cut_row w.heap.size (s.length + 1) (k + 1) (by omega)
  have hcut6' : ∀ w', (Instr.slice 26 (.slice (some ⟨w.heap.size, 0, none⟩) (s.length + 1) (s.length + 1)) (some (.int .i64 ((k : Int) + 1))) none none).run Try.prog w' = .ok (.slice a6 (s.length - k) c6) w' := fun w' => by simpa using hcut6 w'
  clear hcut6
  obtain ⟨X1, hX1⟩ : ∃ X1, X1 = (s.take k).map (Value.int .i64) := ⟨_, rfl⟩
  obtain ⟨X2, hX2⟩ : ∃ X2, X2 = (s.drop k).map (Value.int .i64) := ⟨_, rfl⟩
  have l1 : X1.length = k := by rw [hX1]; simp; omega
  have l2 : X2.length = s.length - k := by rw [hX2]; simp
  have o1 : ∀ u ∈ X1, u.oneCell' = true := by rw [hX1]; exact oneCells _ _
  have o2 : ∀ u ∈ X2, u.oneCell' = true := by rw [hX2]; exact oneCells _ _
  have hkc : (k : Int) ≤ cap := by omega
  go_enter Try.func35, Try.ntmps35
  go_upto_region 1 with fail
  go_upto_region 2 with (at_make; refine wpList_make_full w rfl (.tmp 10) (.tmp 10) 26 rfl w.heap.size 3 i0 (.int .i64 0) 1 Try.underlying26 hi hz0 hz1 .i64 .i64 _ _ (s.length + 1) rfl rfl (by simp) (by simp) (by rw [hz2]; omega) (by unfold maxLen; omega) (Nat.le_refl _) ?_; intro w1 hown hgr)
  obtain ⟨cur, hg, hcl⟩ : ∃ cur : List Value, w1.heap[w.heap.size]? = some (.cells cur.toArray 3 (0, 0)) ∧ cur.length = s.length + 1 := by
    rcases hown.2 with ⟨e, _⟩ | ⟨g, cap', cur, e, _, hh, h1, h2, h3, h4⟩
    · cases e
    · cases e
      exact ⟨cur.toList, by simpa using hh, by simpa using h3⟩
  have hb1 : Below w.heap.size w w1 := (Below.refl _ w).grown hgr (Nat.le_refl _) (fun k hk => by cases hk)
  have hvr := hv.below hb1
  clear hown hgr
  have hp1 : 0 < X1.length → ∃ ad, a = some ad ∧ ∀ j u, X1[j]? = some u → w1.cell? (ad.add j) = some u := by
    intro h0
    obtain ⟨g, off, rfl, _⟩ := hvr.at 0 (by omega)
    refine ⟨_, rfl, fun j u hu => ?_⟩
    rw [hX1] at hu
    have hj : j < k := by have := (List.getElem?_eq_some_iff.1 hu).1; simp at this; omega
    refine hvr.cells j u ?_
    rw [← hu]
    simp [hj]
  have HP1 : Hid _ := hp1
  clear hp1
  go_upto_region 3 with (refine wpList_copy_splice rfl (.tmp 12) (.tmp 15) 26 26 rfl 3 Try.underlying26 Try.sizeOne _ _ _ _ _ _ rfl rfl w.heap.size 0 cur 3 hg X1 (nmin (by omega)) (fun h => ⟨rfl, HP1.out h⟩) (by omega) o1 w.heap.size w hb1 (Nat.le_refl _) ?_; intro w2 HG2 hb2)
  have hlen2 := length_splice cur 0 X1 (by omega)
  have hg2 := HG2.out
  have c2 : w2.cell? ⟨w.heap.size, k, none⟩ = some ((splice cur 0 X1)[k]'(by omega)) := by
    unfold World.cell?
    rw [hg2]
    simp [List.getElem?_eq_getElem (show k < (splice cur 0 X1).length by omega)]
  have f2 : w2.frozen? ⟨w.heap.size, k, none⟩ = false := by simp [World.frozen?, hg2]
  have hg3 : (w2.setCell ⟨w.heap.size, k, none⟩ (.int .i64 x)).drew.heap[w.heap.size]? = some (.cells ((splice cur 0 X1).set k (.int .i64 x)).toArray 3 (0, 0)) := by
    show (w2.setCell ⟨w.heap.size, k, none⟩ (.int .i64 x)).heap[w.heap.size]? = _
    unfold World.setCell
    rw [Array.getElem?_modify, if_pos rfl, hg2]
    simp
  have hb3 : Below w.heap.size w (w2.setCell ⟨w.heap.size, k, none⟩ (.int .i64 x)).drew := (hb2.setCell (p := ⟨w.heap.size, k, none⟩) (Nat.le_refl _) _).drew
  have hfin := splice_all cur X1 X2 (.int .i64 x) (by omega)
  rw [l1] at hfin
  generalize (splice cur 0 X1)[k]'(by omega) = y2 at c2
  have hlD : ((splice cur 0 X1).set k (.int .i64 x)).length = s.length + 1 := by rw [List.length_set, hlen2, hcl]
  generalize (splice cur 0 X1).set k (.int .i64 x) = D at *
  obtain ⟨w3, HW3⟩ : ∃ w3, Hid (w3 = w2.setCell ⟨w.heap.size, k, none⟩ (.int .i64 x)) := ⟨_, rfl⟩
  rw [← HW3.out] at hg3 hb3
  have hvr3 := hd7.below hb3
  have hp2 : 0 < X2.length → a6 = some ⟨w.heap.size, k + 1, none⟩ ∧ ∃ ad, a7 = some ad ∧ ∀ j u, X2[j]? = some u → w3.drew.cell? (ad.add j) = some u := by
    intro h0
    obtain ⟨g, off, rfl, _⟩ := hvr3.at 0 (by simp; omega)
    exact ⟨hg6 (by omega), _, rfl, fun j u hu => hvr3.cells j u (by rw [hX2] at hu; exact hu)⟩
  obtain ⟨w4, hrun, HG4, hb4⟩ := copy_run w3.drew a6 a7 (s.length - k) c6 c7 w.heap.size (k + 1) D X2 w.heap.size w hg3 l2 hp2 (by omega) o2 hb3 (Nat.le_refl _)
  clear hp2
  have HF : Hid _ := hfin
  have HX1 : Hid _ := hX1
  have HX2 : Hid _ := hX2
  have hls : (s.drop k).length = s.length - k := List.length_drop
  have k0 : (0 : Int) ≤ k := by omega
  have k1 : (k : Int) < (s.length : Int) + 1 := by omega
  have k2 : k < s.length + 1 := by omega
  have hwr : IntKind.i64.wrap ((k : Int) + 1) = (k : Int) + 1 := by simp [IntKind.wrap, IntKind.bits, IntKind.signed]; omega
  clear hfin hX1 hX2 hlen2 hg2 hb2 hvr hv4
  go_upto_region 4 with fail
  rw [← HW3.out]
  go_region
  all_goals
    go_wp2_with fail
    go_ret
    have hg4 := HG4.out
    rw [HF.out, HX1.out, HX2.out] at hg4
    have hlt : w.heap.size < w4.heap.size := (Array.getElem?_eq_some_iff.1 hg4).1
    have hL : (s.take k ++ x :: s.drop k).length = s.length + 1 := by simp; omega
    refine ⟨⟨.slice (some ⟨w.heap.size, 0, none⟩) (s.length + 1) (s.length + 1), rfl, ⟨_, s.length + 1, by rw [hL], by omega, by unfold maxLen; omega, (fun e => by cases e), Or.inr ⟨w.heap.size, 0, rfl, fun j hj => ?_⟩⟩, fun g hg => by cases hg; exact ⟨Nat.le_refl _, hlt⟩⟩, hb4⟩
    unfold World.cell?
    rw [hg4]
    have : (s.take k).map (Value.int .i64) ++ Value.int .i64 x :: (s.drop k).map (Value.int .i64) = (s.take k ++ x :: s.drop k).map (Value.int .i64) := by simp
    rw [this]
    simp only [Nat.zero_add, List.getElem?_toArray]
    rw [List.getElem?_map, List.getElem?_eq_getElem hj]
    rfl
end Go.Proofs.Ytnhpkpodeojldaa
