/-
  RoundNone: where there is nobody nobody is asked; walked.
-/
import Derived.Test.YtnhpkpodeojldaaRsd
namespace Go.Proofs.Ytnhpkpodeojldaa
open Go.RowKit

set_option maxRecDepth 100000 in
set_option maxHeartbeats 1000000 in
theorem none_walk (o : Int) (go : Int) (a : Option Addr) (len cap : Nat) (l : List Int) (ho : (Lit.int .u64 o).wf = true) (hgo : (Lit.int .u8 go).wf = true) (w : World) (hl : Lots w a len cap l) :
    Calls Try.prog 7 #[.int .u64 o, .int .u8 go, .slice a len cap] w fun e w' => e = .returned (.bool true) ∧ Below w.heap.size w w' := by
  replace ho := bounds_u64 ho
  replace hgo := bounds_u8 hgo
  obtain ⟨hR, hok⟩ := hl
  obtain rfl := hR.len
  obtain ⟨b, rfl⟩ : ∃ b : Nat, o = b := ⟨o.toNat, by omega⟩
  have hb : b < lim := by unfold lim; omega
  by_cases hlen : (300 : Int) < l.length
  · go_enter Try.func7, Try.ntmps7
    go_wp2_with fail
    refine (shown_any w).mono ?_
    rintro e w1 ⟨rfl, hb1⟩
    go_wp2_with fail
    go_ret
    exact ⟨rfl, hb1⟩
  · have hll : (l.length : Int) ≤ 300 := by omega
    go_enter Try.func7, Try.ntmps7
    go_wp2_with fail
    refine (shown_any w).mono ?_
    rintro e w1 ⟨rfl, hb1⟩
    have hR1 := hR.below hb1
    go_wp2_with fail
    refine (new_any _ l w1 (by omega) hR1).mono ?_
    rintro e w2 ⟨⟨p, rfl, hL2⟩, hb2⟩
    have e2 := hb1.trans (hb2.mono hb1.size)
    have n3 := heap_alloc_new w2 (.cells #[.slice none 0 0] 28)
    have b3 := below_alloc w2 (.cells #[.slice none 0 0] 28)
    obtain ⟨w3, HW3⟩ : ∃ w3, Hid (w3 = w2.alloc (.cells #[.slice none 0 0] 28)) := ⟨_, rfl⟩
    rw [← HW3.out] at n3 b3
    have q3 : w2.heap.size < w3.heap.size := (Array.getElem?_eq_some_iff.1 n3).1
    have hS : Sd w w3.heap.size w1.heap.size w2.heap.size p [] l w3 := ⟨Rn.new _ _ _ _ n3 q3 (Nat.le_refl _), hL2.below b3, e2.trans (b3.mono e2.size), hok, by simp, Or.inr hL2.lt, Nat.lt_trans hL2.lt q3, e2.size, hb1.size⟩
    clear hL2 n3 b3 hR1 hb2
    go_upto_region 5 with fail
    rw [← HW3.out]
    go_wp2_with fail
    refine (snext hS (.slice none 0 0) [] (by simp) ⟨Rd.nil _ _, fun g hg => by cases hg⟩).mono ?_
    rw [nxtS_nil]
    rintro e w4 ⟨rfl, hS4, _⟩
    go_wp2_with fail
    refine (left_any _ _ l w4 hS4.lt).mono ?_
    rintro e w5 ⟨rfl, hw5⟩
    subst hw5
    go_wp2_with fail
    refine (sleft hS4).mono ?_
    rintro e w6 ⟨⟨a6, cap6, rfl, _⟩, hS6, _⟩
    go_wp2_with fail
    refine (rlist_any b hb w6).mono ?_
    rintro e w7 ⟨v7, rfl, ho7, hb7⟩
    have hS7 := hS6.below hb7
    have hY7 : Yl w2.heap.size p v7 (lst b) w7 := Yl.of ho7 hS6.rn.ltw hS6.pw
    clear ho7 hS4 hS6 hS
    obtain ⟨a7, cap7, e', _⟩ := id hY7.rd
    subst e'
    have hsm := lst_small b
    by_cases h2 : ((lst b).length : Int) < 2
    · go_wp2_with fail
      go_ret
      exact ⟨rfl, hS7.be⟩
    · have hne : lst b ≠ [] := fun e => by rw [e] at h2; simp at h2
      have hpos : 0 < (lst b).length := List.length_pos_iff.2 hne
      have hmod : go.tmod ((lst b).length : Int) = go % ((lst b).length : Int) := Int.tmod_eq_emod_of_nonneg hgo.1
      obtain ⟨j, hj⟩ : ∃ j : Nat, go % ((lst b).length : Int) = j := ⟨(go % ((lst b).length : Int)).toNat, by have := Int.emod_nonneg go (show ((lst b).length : Int) ≠ 0 by omega); omega⟩
      have hjl : j < (lst b).length := by have := Int.emod_lt_of_pos go (show (0 : Int) < (lst b).length by omega); omega
      rw [hj] at hmod
      clear hj
      have hkn : nodeS (lst b)[j] = true := (nodeS_iff _).2 (lst_range (List.getElem_mem hjl))
      have hlek : lst (lessS b (lst b)[j]) ≠ [] := by
        intro e
        rw [← lst_less b hkn, List.filter_eq_nil_iff] at e
        obtain ⟨i, hi, hij⟩ : ∃ i, i < (lst b).length ∧ i ≠ j := ⟨if j = 0 then 1 else 0, by split <;> omega, by split <;> omega⟩
        have := e _ (List.getElem_mem hi)
        simp only [Bool.not_eq_true', decide_eq_false_iff_not, Decidable.not_not] at this
        have hp := List.pairwise_iff_getElem.1 (lst_sorted b)
        rcases Nat.lt_or_gt_of_ne hij with h | h
        · have := hp _ _ hi hjl h; omega
        · have := hp _ _ hjl hi h; omega
      have hout : (lst b)[j] ∉ lst (lessS b (lst b)[j]) := by
        rw [← lst_less b hkn]
        simp
      have hsm2 := lst_small (lessS b (lst b)[j])
      have hless := fun w' => rless_any b hb (lst b)[j] w'
      have hlist2 := fun w' => rlist_any (lessS b (lst b)[j]) (lessS_lt hb _) w'
      have hnx := fun s' l' => nxt_mem (s := s') (o := lst (lessS b (lst b)[j])) l' hlek
      generalize hkk : (lst b)[j] = k at *
      have HKK : Hid _ := hkk
      clear hkk
      go_wp2_with fail
      refine (snext hS7 _ (lst b) (by omega) hY7).mono ?_
      rintro e w8 ⟨rfl, hS8, hM8⟩
      have hY8 := hY7.mv hM8
      obtain ⟨g8, o8, e8, c8⟩ := hY8.rd.at j hjl
      subst e8
      rw [HKK.out] at c8
      have j0 : (0 : Int) ≤ j := by omega
      have j1 : (j : Int) < (lst b).length := by omega
      have hnz : ((lst b).length : Int) ≠ 0 := by omega
      clear hS7 hY7 hM8
      generalize (nxtS [] (lst b) l).2.1 = s8 at *
      generalize (nxtS [] (lst b) l).2.2 = l8 at *
      go_wp2_with fail
      refine (hless _).mono ?_
      rintro e w9 ⟨rfl, hw9⟩
      subst hw9
      go_wp2_with fail
      refine (hlist2 _).mono ?_
      rintro e w10 ⟨v10, rfl, ho10, hb10⟩
      have hS10 := hS8.below hb10
      have hY10 : Yl w2.heap.size p v10 (lst (lessS b k)) w10 := Yl.of ho10 hS8.rn.ltw hS8.pw
      clear hS8 ho10 hlist2 hless
      generalize lst (lessS b k) = L at *
      obtain ⟨N, hN⟩ : ∃ N, N = (lst b).length := ⟨_, rfl⟩
      rw [← hN]
      rw [← hN] at hsm hY8 j1 hjl hnz
      go_wp2_with fail
      go_loopg [14] (2 * N) (fun gk t14 wr => ∃ (i : Nat) (s' l' : List Int), i + gk = 2 * N ∧ t14 = .int .i64 i ∧ Sd w w3.heap.size w1.heap.size w2.heap.size p s' l' wr ∧ Yl w2.heap.size p v10 L wr)
      case atStart => exact ⟨0, s8, l8, by omega, rfl, hS10, hY10⟩
      case round =>
        obtain ⟨i, s', l', hi, rfl, hS, hY⟩ := hrel
        by_cases hlt : (i : Int) < 2 * N
        · obtain ⟨hn1, hn2⟩ := hnx s' l'
          have hnk : ((nxtS s' L l').1.1 == k) = false := by
            rw [beq_eq_false_iff_ne]
            intro e
            rw [e] at hn2
            exact hout hn2
          have hcall := snext hS v10 L (by omega) hY
          rw [hn1] at hcall
          generalize (nxtS s' L l').1.1 = y at *
          generalize (nxtS s' L l').2.1 = s2 at *
          generalize (nxtS s' L l').2.2 = l2 at *
          clear hn1 hn2 hnx
          go_wp2_with fail
          refine hcall.mono ?_
          rintro e w11 ⟨rfl, hS11, hM11⟩
          have hY11 := hY.mv hM11
          go_wp2_with fail
          go_roundg (gk - 1)
          case rel => exact ⟨i + 1, s2, l2, by omega, by go_num, hS11, hY11⟩
          case measure => omega
        · go_wp2_with fail
          go_ret
          exact ⟨rfl, hS.be⟩
end Go.Proofs.Ytnhpkpodeojldaa
