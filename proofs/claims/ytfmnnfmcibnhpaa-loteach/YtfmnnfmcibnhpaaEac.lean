/-
  The walk of LotEach.
-/
import Derived.Test.YtfmnnfmcibnhpaaSix
import Derived.Test.YtfmnnfmcibnhpaaSme
import Derived.Maps.OwnOps
namespace Go.Proofs.Ytfmnnfmcibnhpaa
open Go.RowKit Go.Maps

abbrev Own (b n : Nat) (D : DataW Unit) (w : World) : Prop := w.ownsMap Try.prog 43 (plainElem Try.prog 4) b n D

set_option maxHeartbeats 1000000 in
theorem each_core (a b c : Int) (wa : (Lit.int .i64 a).wf = true) (wb : (Lit.int .i64 b).wf = true) (wc : (Lit.int .i64 c).wf = true) (hab : a ≠ b) (hbc : b ≠ c) (hac : a ≠ c) (w : World) :
    Calls Try.prog 5 #[.int .i64 a, .int .i64 b, .int .i64 c] w fun e w' => e = .returned (.bool true) ∧ Below w.heap.size w w' := by
  have HS : Hid _ := setN_six a b c wa wb wc hab hbc hac
  have e1 : (a == b) = false := by simp [hab]
  have e2 : (b == c) = false := by simp [hbc]
  have e3 : (a == c) = false := by simp [hac]
  clear hab hbc hac
  have hf : Hid (∀ t ∈ six a b c, Fine t) := by
    intro t ht
    simp only [six, List.mem_cons, List.not_mem_nil, or_false] at ht
    rcases ht with rfl | rfl | rfl | rfl | rfl | rfl <;> simp [Fine, wa, wb, wc]
  clear wa wb wc
  have hmm := @run_makeMap Try.prog
  go_enter Try.func5, Try.ntmps5
  go_wp2_with fail
  refine (shown_any _).mono ?_
  rintro e w1 ⟨rfl, hb1⟩
  have z1 := hb1.size
  go_wp2_with fail
  have hC0 : Own w1.heap.size 0 (setN a b c 0) (w1.alloc (.map #[] 0)) := World.ownsMap_made _ _ _ _
  have hB0 : Below w1.heap.size w1 (w1.alloc (.map #[] 0)) := (Below.refl _ _).alloc (Nat.le_refl _) _
  go_loopg [8] 3 (fun gk t8 wr => ∃ i : Nat, i + gk = 3 ∧ t8 = .int .i64 i ∧ Own w1.heap.size (2 * i) (setN a b c (2 * i)) wr ∧ Below w1.heap.size w1 wr)
  case atStart => exact ⟨0, by omega, rfl, hC0, hB0⟩
  case round =>
    clear hC0 hB0
    obtain ⟨i, hi, rfl, hC0, hB0⟩ := hrel
    by_cases hlt : (i : Int) < 3
    · go_wp2_with fail
      go_loopg [9] 2 (fun gk t9 wr => ∃ k : Nat, k + gk = 2 ∧ t9 = .int .i64 k ∧ Own w1.heap.size (2 * i + k) (setN a b c (2 * i + k)) wr ∧ Below w1.heap.size w1 wr)
      case atStart => exact ⟨0, by omega, rfl, hC0, hB0⟩
      case round =>
        clear hC0 hB0
        obtain ⟨k, hk, rfl, hC, hB⟩ := hrel
        by_cases hkt : (k : Int) < 2
        · obtain ⟨x, y, z, hx, hsh⟩ := shuf_six a b c i k (by omega) (by omega)
          have hst := setN_step a b c (2 * i + k) _ hx
          have hF := hf.out (x, y, z) (List.mem_of_getElem? hx)
          have hkey := keyOf_triple (x, y, z) hF
          have HST : Hid _ := hst
          have HSH : Hid _ := hsh
          clear hst hsh hx
          have i0 : (0 : Int) ≤ i := by omega
          have k0 : (0 : Int) ≤ k := by omega
          have hbz := hC.lt
          go_wp2_with fail
          refine (new_any _ [(i : Int), (k : Int)] _ (by simp) (Rd.lit .u64 32 [(i : Int), (k : Int)] wr (by simp))).mono ?_
          rintro e w2 ⟨⟨p, rfl, hL2⟩, hb2⟩
          go_wp2_with fail
          refine (shuffle_any _ p _ [a, b, c] [(i : Int), (k : Int)] _ (by simp) (Rd.lit .i64 3 [a, b, c] w2 (by simp)) (hL2.below ((Below.refl _ _).alloc (Nat.le_refl _) _)) (by intro v hv; simp at hv; omega)).mono ?_
          rw [HSH.out]
          rintro e w3 ⟨⟨v, rfl, hV, _⟩, _, hb3⟩
          have hp := hL2.le
          have z2 := hb2.size
          have z3 := hb3.size
          simp at hp z2 z3
          have b3 : Below wr.heap.size wr w3 := (((Below.refl _ wr).alloc (Nat.le_refl _) _).trans (hb2.mono (by simp))).trans (((Below.refl _ w2).alloc (by omega) _).trans (hb3.belowAt (by omega) (by simp; omega)))
          obtain ⟨va, vcap, rfl, _⟩ := (id hV : Rd _ _ _ _)
          obtain ⟨g, off, rfl, c0⟩ := hV.at 0 (by simp)
          obtain ⟨g', off', e, c1⟩ := hV.at 1 (by simp)
          cases e
          obtain ⟨g', off', e, c2⟩ := hV.at 2 (by simp)
          cases e
          simp only [Nat.add_zero, List.getElem_cons_zero, List.getElem_cons_succ] at c0 c1 c2
          have hC3 : Own w1.heap.size (2 * i + k) (setN a b c (2 * i + k)) w3 := hC.kept (row := none) ⟨b3.os, b3.tape, b3.output, b3.size, fun k hk _ => b3.block k hk⟩ (by simp)
          obtain ⟨w4, hrun, hC4, hg4⟩ := World.ownsMap.update hC3.drew law43 Try.underlying42 (by unfold maxLen; omega) hkey (plainElem_bool Try.underlying4 true)
          have hB4 : Below w1.heap.size w1 w4 := ((hB.trans (b3.mono hB.size)).drew).grown hg4 (by show w1.heap.size ≤ w3.heap.size; have := hB.size; omega) (fun k hk => by cases hk; exact Nat.le_refl _)
          clear hb2 hb3 hL2 hV hC hC3 hg4 hB b3
          unfold aggT at hrun
          go_wp2_with fail
          go_region
          all_goals go_wp2_with fail
          all_goals go_roundg (gk - 1)
          case rel => exact ⟨k + 1, by omega, by go_num, by rw [← Nat.add_assoc, HST.out]; exact hC4, hB4⟩
          case measure => omega
        · obtain rfl : k = 2 := by omega
          go_wp2_with fail
          go_roundg (3 - i - 1)
          case rel => exact ⟨i + 1, by omega, by go_num, by rw [show 2 * (i + 1) = 2 * i + 2 by omega]; exact hC, hB⟩
          case measure => omega
    · obtain rfl : i = 3 := by omega
      have hC6 : Own w1.heap.size 6 (setN a b c 6) wr := hC0
      clear hC0
      go_wp2_with (at_len; refine wpList_len_own _ rfl _ 42 rfl 43 4 Try.underlying42 _ w1.heap.size 6 (setN a b c 6) rfl hC6 ?_; rw [HS.out])
      go_ret
      exact ⟨rfl, hb1.trans (hB0.mono z1)⟩

set_option maxHeartbeats 400000 in
theorem each_same (a b c : Int) (w : World) (h : (a == b) = true ∨ ((a == b) = false ∧ (b == c) = true) ∨ ((a == b) = false ∧ (b == c) = false ∧ (a == c) = true)) :
    Calls Try.prog 5 #[.int .i64 a, .int .i64 b, .int .i64 c] w fun e w' => e = .returned (.bool true) ∧ Below w.heap.size w w' := by
  rcases h with h1 | ⟨h1, h2⟩ | ⟨h1, h2, h3⟩
  all_goals
    go_enter Try.func5, Try.ntmps5
    go_wp2_with (go_at_call 9; refine (shown_any _).mono ?_; rintro e w1 ⟨rfl, hB1⟩)
    go_ret
    exact ⟨rfl, hB1⟩

theorem each_walk (a b c : Int) (wa : (Lit.int .i64 a).wf = true) (wb : (Lit.int .i64 b).wf = true) (wc : (Lit.int .i64 c).wf = true) (w : World) :
    Calls Try.prog 5 #[.int .i64 a, .int .i64 b, .int .i64 c] w fun e w' => e = .returned (.bool true) ∧ Below w.heap.size w w' := by
  by_cases hab : a = b
  · exact each_same a b c w (Or.inl (by simp [hab]))
  · by_cases hbc : b = c
    · exact each_same a b c w (Or.inr (Or.inl ⟨by simp [hab], by simp [hbc]⟩))
    · by_cases hac : a = c
      · exact each_same a b c w (Or.inr (Or.inr ⟨by simp [hab], by simp [hbc], by simp [hac]⟩))
      · exact each_core a b c wa wb wc hab hbc hac w
end Go.Proofs.Ytfmnnfmcibnhpaa
