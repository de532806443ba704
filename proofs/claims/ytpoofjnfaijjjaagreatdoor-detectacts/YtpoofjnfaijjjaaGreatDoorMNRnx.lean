/-
  Next.
-/
import Derived.Test.YtpoofjnfaijjjaaGreatDoorMNLrs
import Derived.Deep.RegionHeld3
import Derived.Deep.Cut
namespace Go.Proofs.YtpoofjnfaijjjaaGreatDoor.Rn
open Go.RowKit
variable {X : Value → Array Value} {G : Nat → Prop}
theorem nxtS_nil (s l : List Int) : nxtS s [] l = ((0, false), s, l) := by unfold nxtS; rw [if_pos rfl]
theorem nxtS_new {s o l : List Int} (ho : o ≠ []) (h : s.drop (s.findIdx (fun x => decide (x ∈ o))) = []) : nxtS s o l = (((shufS o l).1.headD 0, true), (shufS o l).1.tail, (shufS o l).2) := by
  rw [dropWhile_findIdx] at h
  unfold nxtS
  rw [if_neg ho, if_pos h]
theorem nxtS_old {s o l : List Int} (ho : o ≠ []) {y : Int} {r : List Int} (h : s.drop (s.findIdx (fun x => decide (x ∈ o))) = y :: r) : nxtS s o l = ((y, true), r, l) := by
  rw [dropWhile_findIdx] at h
  unfold nxtS
  rw [if_neg ho, h, if_neg (by simp)]
  rfl
theorem nxtS_ok (s o : List Int) {l : List Int} (h : Ok l) : Ok (nxtS s o l).2.2 := by
  unfold nxtS
  split
  · exact h
  · split
    · exact shufS_ok o h
    · exact h
theorem below_alloc (w : World) (o : Obj) : Below w.heap.size w (w.alloc o) := (Below.refl _ _).alloc (Nat.le_refl _) _
set_option maxHeartbeats 400000 in
theorem rnext_none (Bp q p : Nat) (v : Value) (s l : List Int) (w : World) (hv : Rd .i64 v [] w) (hR : Rn 1 X 94 G q s w) (hL : Lt Bp p l w) :
    Calls Tryz.prog 87 #[.pointer (some ⟨q, 1, none⟩), v, .pointer (some ⟨p, 0, none⟩)] w fun e w' => e = .returned (.tuple #[.int .i64 0, .bool false]) ∧ Rn 1 X 94 G q s w' ∧ Lt Bp p l w' ∧ Mv q p w w' := by
  obtain ⟨a, cap, rfl, _⟩ := hv
  have ba := below_alloc w (.cells #[.slice a ([] : List Int).length cap] 82)
  go_enter Tryz.func87, Tryz.ntmps87
  go_wp2_with fail
  go_ret2
  exact ⟨rfl, hR.below ba, hL.below ba, Mv.of ba⟩
theorem Rn.first {T : TypeId} {q : Nat} {y : Int} {r : List Int} {w : World} (h : Rn 1 X T G q (y :: r) w) : ∃ g off cap a' cap', w.cell? ⟨q, 1, none⟩ = some (.slice (some ⟨g, off, none⟩) (r.length + 1) cap) ∧ w.frozen? ⟨q, 1, none⟩ = false ∧ w.cell? ⟨g, off, none⟩ = some (.int .i64 y) ∧
    (∀ w', (Instr.slice 82 (.slice (some ⟨g, off, none⟩) (r.length + 1) cap) (some (.int .i64 1)) none none).run Tryz.prog w' = .ok (.slice a' r.length cap') w') ∧ Rn 1 X T G q r (w.setCell ⟨q, 1, none⟩ (.slice a' r.length cap')) := by
  obtain ⟨a, cap, hc, hf, hd, hg⟩ := h.cell
  obtain ⟨g, off, rfl, hx⟩ := hd.at 0 (by simp)
  obtain ⟨a', cap', h1, h2, h3⟩ := cut_from hd 1 (by simp)
  exact ⟨g, off, cap, a', cap', hc, hf, by simpa using hx, fun w' => by simpa using h1 w', h.put (by simpa using h2) fun g' hg' => hg g' (h3 _ _ _ hg')⟩
set_option maxRecDepth 100000 in
set_option maxHeartbeats 1000000 in
theorem rnext_some (Bp q p : Nat) (v : Value) (s o l : List Int) (w : World) (ho : o ≠ []) (hs : s.length ≤ 1000000) (hol : o.length ≤ 1000000) (hv : Rd .i64 v o w) (hvo : ∀ g, v.ownBlock = some g → g ≠ q) (hR : Rn 1 X 94 G q s w) (hL : Lt Bp p l w) (hok : Ok l) (hq : q < Bp ∨ p < q) (hp : ¬ G p) :
    Calls Tryz.prog 87 #[.pointer (some ⟨q, 1, none⟩), v, .pointer (some ⟨p, 0, none⟩)] w fun e w' => e = .returned (.tuple #[.int .i64 (nxtS s o l).1.1, .bool (nxtS s o l).1.2]) ∧ Rn 1 X 94 G q (nxtS s o l).2.1 w' ∧ Lt Bp p (nxtS s o l).2.2 w' ∧ Mv q p w w' := by
  have ba := below_alloc w (.cells #[v] 82)
  have hbx := heap_alloc_new w (.cells #[v] 82)
  have hR1 := hR.below ba
  have hL1 := hL.below ba
  have hv1 := hv.below ba
  have hM1 : Mv q p w _ := Mv.of ba
  have hv' := hv
  obtain ⟨va, vcap, rfl, _⟩ := hv'
  obtain ⟨w1, HW1⟩ : ∃ w1, Hid (w1 = w.alloc (.cells #[.slice va o.length vcap] 82)) := ⟨_, rfl⟩
  rw [← HW1.out] at ba hbx hR1 hL1 hv1 hM1
  have hle : s.findIdx (fun x => decide (x ∈ o)) ≤ s.length := List.findIdx_le_length
  obtain ⟨a, cap, hc, hf, hd, hg⟩ := hR1.cell
  obtain ⟨a', cap', hcut, hd2, hg2⟩ := cut_from hd _ hle
  have hplace : ∀ w', w'.heap = w1.heap → Calls Tryz.prog 130 #[.pointer (some ⟨q, 1, none⟩), .func (.func 131) #[] #[.pointer (some ⟨w.heap.size, 0, none⟩)]] w' fun e w'' => e = .returned (.int .i64 (s.findIdx (fun x => decide (x ∈ o)))) ∧ w'' = w' := fun w' hw => by
    have hR' : Rn 1 X 94 G q s w' := hR1.keep (by rw [hw]; exact Nat.le_refl _) fun g _ _ => by rw [hw]
    have hv' : Rd .i64 (.slice va o.length vcap) o w' := hv1.keep fun g _ _ => by rw [hw]
    exact place_any q s _ _ _ w' hs hR' (enter_of Tryz.func131 (by kernel_rfl) rfl) fun x => among_any w.heap.size _ o x w' hol hv' (by rw [hw]; exact hbx)
  have hnew := fun h => nxtS_new (s := s) (l := l) ho h
  have hold := fun y r h => nxtS_old (s := s) (l := l) ho (y := y) (r := r) h
  generalize nxtS s o l = N at *
  generalize s.findIdx (fun x => decide (x ∈ o)) = m at *
  have HN : Hid _ := hnew
  have HO : Hid _ := hold
  clear hnew hold hle
  have hR2 := (hR1.put hd2 fun g hg' => hg g (hg2 _ _ _ hg')).drew
  have hL2 := (hL1.set (u := .slice a' (s.drop m).length cap') (q := q) (o := 1) hq).drew
  have hM2 := (hM1.set (o := 1) (.slice a' (s.drop m).length cap')).drew
  have hbx2 : (w1.setCell ⟨q, 1, none⟩ (.slice a' (s.drop m).length cap')).drew.heap[w.heap.size]? = some (.cells #[.slice va o.length vcap] 82 (0, 0)) := (Below.heap_setCell _ _ _ _ (show w.heap.size ≠ q by have := hR.ltw; omega)).trans hbx
  have hv2 : Rd .i64 (.slice va o.length vcap) o (w1.setCell ⟨q, 1, none⟩ (.slice a' (s.drop m).length cap')).drew := hv1.keep fun g hg' _ => Below.heap_setCell _ _ _ _ (show g ≠ q from hvo g hg')
  have hbc : w1.cell? ⟨w.heap.size, 0, none⟩ = some (.slice va o.length vcap) := by simp [World.cell?, hbx]
  have hne : ((o.length : Int) == 0) = false := by
    rw [beq_eq_false_iff_ne]
    have := List.length_pos_iff.2 ho
    omega
  clear hd hd2 hg hg2 hv1 hbx
  generalize s.drop m = t at *
  obtain ⟨w2, HW2⟩ : ∃ w2, Hid (w2 = (w1.setCell ⟨q, 1, none⟩ (.slice a' t.length cap')).drew) := ⟨_, rfl⟩
  rw [← HW2.out] at hR2 hL2 hM2 hbx2 hv2
  have hbc2 : w2.cell? ⟨w.heap.size, 0, none⟩ = some (.slice va o.length vcap) := by simp [World.cell?, hbx2]
  cases t with
  | nil =>
    have HW2' : Hid (w2 = (w1.setCell ⟨q, 1, none⟩ (.slice a' 0 cap')).drew) := HW2.out
    have hsl := shufS_length o l
    obtain ⟨y, r, hy⟩ : ∃ y r, (shufS o l).1 = y :: r := by
      cases e : (shufS o l).1 with
      | nil => rw [e] at hsl; exact absurd (List.length_eq_zero_iff.1 hsl.symm) ho
      | cons y r => exact ⟨y, r, rfl⟩
    have hN := HN.out rfl
    rw [hy] at hN
    subst hN
    obtain ⟨b1, bcap, c2, f2, _⟩ := hR2.cell
    have hS := shuffle_any Bp p _ o l w2 hol hv2 hL2 hok
    rw [hy] at hS
    have HY : Hid _ := hy
    clear hy hsl
    go_enter Tryz.func87, Tryz.ntmps87
    go_upto_region 1 with fail
    rw [← HW1.out]
    go_upto_region 3 with fail
    go_region_with (go_at_call 130; refine (hplace _ (by rfl)).mono ?_; rintro e w2 ⟨rfl, rfl⟩)
    all_goals rw [← HW2'.out]
    all_goals go_wp2_with fail
    all_goals refine hS.mono ?_
    all_goals rintro e w3 ⟨⟨v3, rfl, hd3, hg3⟩, hL3, hB3⟩
    all_goals
      have hR3 := hR2.but hB3 ⟨by have := hL.le; omega, hp⟩
      have hM3 := hM2.trans (Mv.ofBut hB3)
      have hd3' := hd3
      obtain ⟨a3, cap3, rfl, _⟩ := hd3'
      obtain ⟨b3, bcap3, c3, f3, _⟩ := hR3.cell
      have hR4 := hR3.put hd3 fun g hg' => ⟨hR2.fresh g (hg3 g hg').1, (hg3 g hg').2⟩
      have hL4 := hL3.set (u := .slice a3 (y :: r).length cap3) (q := q) (o := 1) hq
      have hM4 := hM3.set (o := 1) (.slice a3 (y :: r).length cap3)
      rw [List.length_cons] at hR4 hL4 hM4
      obtain ⟨w4, HW4⟩ : ∃ w4, Hid (w4 = w3.setCell ⟨q, 1, none⟩ (.slice a3 (r.length + 1) cap3)) := ⟨_, rfl⟩
      rw [← HW4.out] at hR4 hL4 hM4
      obtain ⟨g4, o4, cap4, a5, cap5, c4, f4, x4, hcut4, hR5⟩ := hR4.first
      have hL5 := hL4.set (u := .slice a5 r.length cap5) (q := q) (o := 1) hq
      have hM5 := hM4.set (o := 1) (.slice a5 r.length cap5)
      clear hd3 hg3 hR3 hL3 hM3 hB3
      go_upto_region 6 with fail
      rw [← HW4.out]
      go_wp2_with fail
      go_ret2
      exact ⟨rfl, hR5, hL5, hM5⟩
  | cons y r =>
    have HW2' : Hid (w2 = (w1.setCell ⟨q, 1, none⟩ (.slice a' (r.length + 1) cap')).drew) := HW2.out
    have hO := HO.out y r rfl
    subst hO
    obtain ⟨g4, o4, cap4, a5, cap5, c4, f4, x4, hcut4, hR5⟩ := hR2.first
    have hL5 := hL2.set (u := .slice a5 r.length cap5) (q := q) (o := 1) hq
    have hM5 := hM2.set (o := 1) (.slice a5 r.length cap5)
    have hne2 : ((r.length : Int) + 1 == 0) = false := by rw [beq_eq_false_iff_ne]; omega
    go_enter Tryz.func87, Tryz.ntmps87
    go_upto_region 1 with fail
    rw [← HW1.out]
    go_upto_region 3 with fail
    go_region_with (go_at_call 130; refine (hplace _ (by rfl)).mono ?_; rintro e w2 ⟨rfl, rfl⟩)
    all_goals rw [← HW2'.out]
    all_goals go_wp2_with fail
    all_goals go_ret2
    all_goals exact ⟨rfl, hR5, hL5, hM5⟩
end Go.Proofs.YtpoofjnfaijjjaaGreatDoor.Rn
