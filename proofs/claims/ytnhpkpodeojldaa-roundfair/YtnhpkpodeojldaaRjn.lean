/-
  Join.
-/
import Derived.Test.YtnhpkpodeojldaaRwt
namespace Go.Proofs.Ytnhpkpodeojldaa
open Go.RowKit

theorem joinS_in {s : List Int} {x : Int} (l : List Int) (h : x ∈ s) : joinS s x l = (s, l) := by unfold joinS; rw [if_pos h]
theorem joinS_new {s : List Int} {x : Int} (l : List Int) (h : x ∉ s) : joinS s x l = (s.take (belowS l (s.length + 1)).1.toNat ++ x :: s.drop (belowS l (s.length + 1)).1.toNat, (belowS l (s.length + 1)).2) := by unfold joinS; rw [if_neg h]
theorem joinS_ok (s : List Int) (x : Int) {l : List Int} (h : Ok l) : Ok (joinS s x l).2 := by
  unfold joinS
  split
  · exact h
  · exact h.below _
theorem joinS_length (s : List Int) (x : Int) (l : List Int) : (joinS s x l).1.length ≤ s.length + 1 := by
  unfold joinS
  split
  · simp
  · simp; omega
theorem below_le (l : List Int) (n : Nat) : ∃ k : Nat, (belowS l ((n : Int) + 1)).1 = k ∧ k ≤ n := by
  obtain ⟨h0, h1⟩ := belowS_range l ((n : Int) + 1)
  refine ⟨(belowS l ((n : Int) + 1)).1.toNat, by omega, ?_⟩
  by_cases h : 2 ≤ (n : Int) + 1
  · have := h1 h; omega
  · have : belowS l ((n : Int) + 1) = (0, l) := by unfold belowS; rw [if_pos (by omega)]
    rw [this]; simp

set_option maxRecDepth 100000 in
set_option maxHeartbeats 1000000 in
theorem rjoin_any (Bp B q p : Nat) (s l : List Int) (x : Int) (w : World) (hs : s.length ≤ 1000000) (hR : Rn 28 B q s w) (hL : Lt Bp p l w) (hok : Ok l) (hq : q < Bp ∨ p < q) (hp : p < B) :
    Calls Try.prog 13 #[.pointer (some ⟨q, 0, none⟩), .int .i64 x, .pointer (some ⟨p, 0, none⟩)] w fun e w' => e = .returned (.tuple #[]) ∧ Rn 28 B q (joinS s x l).1 w' ∧ Lt Bp p (joinS s x l).2 w' ∧ Mv q p w w' := by
  have ba := below_alloc w (.cells #[.int .i64 x] 3)
  have hbx := heap_alloc_new w (.cells #[.int .i64 x] 3)
  have hR1 := hR.below ba
  have hL1 := hL.below ba
  have hM1 : Mv q p w _ := Mv.of ba
  obtain ⟨w1, HW1⟩ : ∃ w1, Hid (w1 = w.alloc (.cells #[.int .i64 x] 3)) := ⟨_, rfl⟩
  rw [← HW1.out] at ba hbx hR1 hL1 hM1
  obtain ⟨a, cap, hc, hf, hd, hg⟩ := hR1.cell
  have hbc : w1.cell? ⟨w.heap.size, 0, none⟩ = some (.int .i64 x) := by simp [World.cell?, hbx]
  have hplace : Calls Try.prog 28 #[.pointer (some ⟨q, 0, none⟩), .func (.func 34) #[] #[.pointer (some ⟨w.heap.size, 0, none⟩)]] w1 fun e w'' => e = .returned (.int .i64 (s.findIdx (fun y => decide (y = x)))) ∧ w'' = w1 := place_any B q s _ _ _ w1 hs hR1 (enter_of Try.func34 (by kernel_rfl) rfl) fun y => alike_any w.heap.size y x w1 hbx
  by_cases hx : x ∈ s
  · rw [joinS_in l hx]
    have hlt : ((s.findIdx (fun y => decide (y = x)) : Nat) : Int) < (s.length : Int) := by
      have := List.findIdx_lt_length_of_exists (p := fun y => decide (y = x)) ⟨x, hx, by simp⟩
      omega
    generalize s.findIdx (fun y => decide (y = x)) = m at *
    go_enter Try.func13, Try.ntmps13
    go_upto_region 1 with fail
    rw [← HW1.out]
    go_wp2_with fail
    refine hplace.mono ?_
    rintro e w2 ⟨rfl, rfl⟩
    go_wp2_with fail
    refine bodyPost_ret (results_none rfl _ _ _) rfl ?_
    exact ⟨rfl, hR1, hL1, hM1⟩
  · rw [joinS_new l hx]
    have hle : s.findIdx (fun y => decide (y = x)) = s.length := by
      rw [List.findIdx_eq_length]
      intro y hy
      simp
      intro e
      rw [e] at hy
      exact hx hy
    rw [hle] at hplace
    obtain ⟨k, hk, hks⟩ := below_le l s.length
    rw [hk, Int.toNat_natCast]
    have hwr : IntKind.i64.wrap ((s.length : Int) + 1) = (s.length : Int) + 1 := by simp [IntKind.wrap, IntKind.bits, IntKind.signed]; omega
    have hbel : ∀ w', w'.heap = w1.heap → w'.os = w1.os → w'.tape = w1.tape → w'.output = w1.output → Calls Try.prog 36 #[.pointer (some ⟨p, 0, none⟩), .int .i64 ((s.length : Int) + 1)] w' fun e w'' => e = .returned (.int .i64 (k : Int)) ∧ w''.cell? ⟨q, 0, none⟩ = some (.slice a s.length cap) ∧ w''.cell? ⟨w.heap.size, 0, none⟩ = some (.int .i64 x) ∧ Rd .i64 (.slice a s.length cap) s w'' ∧ Rn 28 B q s w'' ∧ Lt Bp p (belowS l ((s.length : Int) + 1)).2 w'' ∧ Mv q p w w'' := fun w' h1 h2 h3 h4 => by
      have hL' : Lt Bp p l w' := hL1.keep fun g _ _ => by rw [h1]
      have hM' : Mv q p w1 w' := ⟨h2, h3, h4, by rw [h1]; exact Nat.le_refl _, fun k _ _ _ => by rw [h1]⟩
      have hR' : Rn 28 B q s w' := hR1.keep (by rw [h1]; exact Nat.le_refl _) fun g _ _ => by rw [h1]
      have hpq : p ≠ q := by have := hL.le; omega
      refine (below_any Bp p l ((s.length : Int) + 1) w' hL' hok (by omega)).mono ?_
      rintro e w2 ⟨rfl, hL2, hB2⟩
      rw [hk]
      refine ⟨rfl, ?_, ?_, ?_, hR'.but hB2 ⟨hpq, hp⟩, hL2, (hM1.trans hM').trans (Mv.ofBut hB2)⟩
      · rw [← hc]
        refine (World.cell?_of_block (w := w') (hB2.block q (by rw [h1]; exact hR1.ltw) (Ne.symm hpq))).trans ?_
        exact World.cell?_of_block (w := w1) (by rw [h1])
      · rw [← hbc]
        have hlt : w.heap.size < w1.heap.size := (Array.getElem?_eq_some_iff.1 hbx).1
        refine (World.cell?_of_block (w := w') (hB2.block w.heap.size (by rw [h1]; exact hlt) (by have := hL.lt; omega))).trans ?_
        exact World.cell?_of_block (w := w1) (by rw [h1])
      · refine hd.keep fun g hg' hlt => (hB2.block g (by rw [h1]; exact hlt) (by have := (hg g hg').1; omega)).trans (by rw [h1])
    have hwith := fun w' h => with_any (.slice a s.length cap) s k x w' hs hks h
    have HK : Hid _ := hk
    generalize (belowS l ((s.length : Int) + 1)).2 = l' at *
    have hlen : (s.take k ++ x :: s.drop k).length = s.length + 1 := by simp; omega
    generalize s.take k ++ x :: s.drop k = t at *
    clear hk hle
    go_enter Try.func13, Try.ntmps13
    go_upto_region 1 with fail
    rw [← HW1.out]
    go_wp2_with fail
    refine hplace.mono ?_
    rintro e w2 ⟨rfl, hw2⟩
    subst hw2
    go_wp2_with fail
    go_region_with (first
      | (go_at_call 36; refine (hbel _ (by rfl) (by rfl) (by rfl) (by rfl)).mono ?_; rintro e w3 ⟨rfl, c3, b3, d3, hR3, hL3, hM3⟩)
      | (go_at_call 35; refine (hwith _ d3).mono ?_; rintro e w4 ⟨⟨v4, rfl, d4, g4⟩, hb4⟩; obtain ⟨a4, cap4, rfl⟩ : ∃ a4 cap4, v4 = .slice a4 (s.length + 1) cap4 := (by obtain ⟨a4, cap4, e4, _⟩ := d4; exact ⟨a4, cap4, by rw [e4, hlen]⟩); have hR4 := Rn.below hR3 hb4; obtain ⟨a5, cap5, c5, f5, _⟩ := hR4.cell))
    all_goals
      go_wp2_with fail
      go_end0
      exact ⟨rfl, hR4.put (hlen ▸ d4) fun g hg' => ⟨Nat.le_trans hR3.size (g4 g hg').1, (g4 g hg').2⟩, (hL3.below hb4).set hq, (hM3.trans (Mv.of hb4)).set _⟩
end Go.Proofs.Ytnhpkpodeojldaa
