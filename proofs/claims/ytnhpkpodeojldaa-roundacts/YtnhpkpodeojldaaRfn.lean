/-
  The reference's Next.
-/
import Derived.Test.YtnhpkpodeojldaaRfa
namespace Go.Proofs.Ytnhpkpodeojldaa
open Go.RowKit

theorem nxtS_new' {s o l : List Int} (ho : o ≠ []) (h : s.dropWhile (fun x => !decide (x ∈ o)) = []) : nxtS s o l = (((shufS o l).1.headD 0, true), (shufS o l).1.tail, (shufS o l).2) := by
  unfold nxtS
  rw [if_neg ho, if_pos h]
theorem nxtS_old' {s o l : List Int} (ho : o ≠ []) {y : Int} {r : List Int} (h : s.dropWhile (fun x => !decide (x ∈ o)) = y :: r) : nxtS s o l = ((y, true), r, l) := by
  unfold nxtS
  rw [if_neg ho, h, if_neg (by simp)]
  rfl

set_option maxRecDepth 100000 in
set_option maxHeartbeats 1000000 in
theorem fnextr_any (w0 : World) (B q r : Nat) (la : Option Addr) (lcap : Nat) (v : Value) (s o l m : List Int) (w : World) (hol : o.length ≤ 1000) (hll : l.length ≤ 1000000) (hv : Rd .i64 v o w) (hvo : ∀ g, v.ownBlock = some g → g ≠ q) (hR : Rn 31 B q s w)
    (hRl : Rd .u64 (.slice la l.length lcap) l w0) (hL : Lf w0 r (.slice la l.length lcap) l m w) (hok : Ok m) (hqr : r ≠ q) (hr : r < B) (hq0 : w0.heap.size ≤ q) :
    Calls Try.prog 12 #[.pointer (some ⟨q, 0, none⟩), v, .pointer (some ⟨r, 0, none⟩)] w fun e w' => e = .returned (.tuple #[.int .i64 (nxtS s o m).1.1, .bool (nxtS s o m).1.2]) ∧ Rn 31 B q (nxtS s o m).2.1 w' ∧ Lf w0 r (.slice la l.length lcap) l (nxtS s o m).2.2 w' ∧ Mv q r w w' := by
  have hv' := hv
  obtain ⟨va, vcap, rfl, _⟩ := hv'
  by_cases ho : o = []
  · subst ho
    rw [nxtS_nil]
    go_enter Try.func12, Try.ntmps12
    go_wp2_with fail
    go_ret2
    exact ⟨rfl, hR, hL, Mv.refl _ _ _⟩
  have hne : ((o.length : Int) == 0) = false := by
    rw [beq_eq_false_iff_ne]
    have := List.length_pos_iff.2 ho
    omega
  have HNW : Hid _ := fun (h : s.dropWhile (fun x => !decide (x ∈ o)) = []) => nxtS_new' (l := m) ho h
  have HOL : Hid _ := fun y r (h : s.dropWhile (fun x => !decide (x ∈ o)) = y :: r) => nxtS_old' (l := m) ho h
  generalize nxtS s o m = N at *
  go_enter Try.func12, Try.ntmps12
  go_wp2_with fail
  go_loopg [] s.length (fun gk wr => ∃ s' : List Int, s'.length ≤ gk ∧ Hid (s'.dropWhile (fun x => !decide (x ∈ o)) = s.dropWhile (fun x => !decide (x ∈ o))) ∧ Rn 31 B q s' wr ∧ Lf w0 r (.slice la l.length lcap) l m wr ∧ Rd .i64 (.slice va o.length vcap) o wr ∧ Mv q r w wr)
  case atStart => exact ⟨s, Nat.le_refl _, rfl, hR, hL, hv, Mv.refl _ _ _⟩
  case round =>
    obtain ⟨s', hlen, HD, hR1, hL1, hv1, hM1⟩ := hrel
    cases s' with
    | nil =>
      have hN := HNW.out (by rw [← HD.out]; rfl)
      have hsl := shufS_length o m
      obtain ⟨y, t, hy⟩ : ∃ y t, (shufS o m).1 = y :: t := by
        cases e : (shufS o m).1 with
        | nil => rw [e] at hsl; exact absurd (List.length_eq_zero_iff.1 hsl.symm) ho
        | cons y t => exact ⟨y, t, rfl⟩
      rw [hy] at hN
      subst hN
      obtain ⟨b1, bcap, c1, f1, _⟩ := hR1.cell
      have hS := fshuffle_any w0 r la lcap l m _ o wr hll hRl hL1 hok (by omega) hv1
      rw [hy] at hS
      have HY : Hid _ := hy
      clear hy hsl HNW HOL HD
      simp only [List.length_nil] at c1
      go_wp2_with fail
      refine hS.mono ?_
      rintro e w3 ⟨⟨v3, rfl, hd3, hg3⟩, hL3, hB3⟩
      have hR3 := hR1.but hB3 ⟨hqr, hr⟩
      have hM3 := hM1.trans (Mv.ofBut hB3)
      have hd3' := hd3
      obtain ⟨a3, cap3, rfl, _⟩ := hd3'
      obtain ⟨b3, bcap3, c3, f3, _⟩ := hR3.cell
      have hR4 := hR3.put hd3 fun g hg' => ⟨Nat.le_trans hR1.size (hg3 g hg').1, (hg3 g hg').2⟩
      have hL4 := hL3.set (u := .slice a3 (y :: t).length cap3) ⟨hqr, hq0⟩
      have hM4 := hM3.set (.slice a3 (y :: t).length cap3)
      rw [List.length_cons] at hR4 hL4 hM4
      obtain ⟨w4, HW4⟩ : ∃ w4, Hid (w4 = w3.setCell ⟨q, 0, none⟩ (.slice a3 (t.length + 1) cap3)) := ⟨_, rfl⟩
      rw [← HW4.out] at hR4 hL4 hM4
      obtain ⟨g4, o4, cap4, a5, cap5, c4, f4, x4, hcut4, hR5⟩ := hR4.first
      have hL5 := hL4.set (u := .slice a5 t.length cap5) ⟨hqr, hq0⟩
      have hM5 := hM4.set (.slice a5 t.length cap5)
      clear hd3 hg3 hR3 hL3 hM3 hB3
      go_upto_region 7 with fail
      rw [← HW4.out]
      go_wp2_with fail
      go_ret2
      exact ⟨rfl, hR5, hL5, hM5⟩
    | cons y t =>
      obtain ⟨g4, o4, cap4, a5, cap5, c4, f4, x4, hcut4, hR5⟩ := hR1.first
      have hL5 := hL1.set (u := .slice a5 t.length cap5) ⟨hqr, hq0⟩
      have hM5 := hM1.set (.slice a5 t.length cap5)
      have hv5 : Rd .i64 (.slice va o.length vcap) o (wr.setCell ⟨q, 0, none⟩ (.slice a5 t.length cap5)) := hv1.keep fun g hg' _ => Below.heap_setCell _ _ _ _ (show g ≠ q from hvo g hg')
      have hgt : decide ((0 : Int) < (t.length : Int) + 1) = true := by rw [decide_eq_true_eq]; omega
      have hne2 : ((t.length : Int) + 1 == 0) = false := by rw [beq_eq_false_iff_ne]; omega
      have hh := fhas_any _ o y wr (by omega) hv1
      by_cases hy : y ∈ o
      · have hN := HOL.out y t (by rw [← HD.out, List.dropWhile_cons_of_neg (by simp [hy])])
        subst hN
        rw [decide_eq_true hy] at hh
        have HY : Hid _ := hy
        clear hy HNW HOL HD
        go_wp2_with fail
        refine hh.mono ?_
        rintro e w2 ⟨rfl, hw2⟩
        subst hw2
        go_wp2_with fail
        go_ret2
        exact ⟨rfl, hR5, hL5, hM5⟩
      · have HD2 : Hid (t.dropWhile (fun x => !decide (x ∈ o)) = s.dropWhile (fun x => !decide (x ∈ o))) := by
          show _ = _
          rw [← HD.out, List.dropWhile_cons_of_pos (by simp [hy])]
        rw [decide_eq_false hy] at hh
        have HY : Hid _ := hy
        clear hy HD
        simp only [List.length_cons] at hlen
        go_wp2_with fail
        refine hh.mono ?_
        rintro e w2 ⟨rfl, hw2⟩
        subst hw2
        go_wp2_with fail
        go_roundg (gk - 1)
        case rel => exact ⟨t, by omega, HD2, hR5, hL5, hv5, hM5⟩
        case measure => omega
end Go.Proofs.Ytnhpkpodeojldaa
