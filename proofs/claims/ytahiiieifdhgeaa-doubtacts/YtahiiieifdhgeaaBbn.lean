/-
  More leaves of band and of its reference: Has, With; how many a band has with one more.
-/
import Derived.Test.YtahiiieifdhgeaaBbt
namespace Go.Proofs.Ytahiiieifdhgeaa.Bnd
open Go.RowKit

set_option maxHeartbeats 1000000 in
theorem node_any (n : Int) (w : World) : Calls Try.prog 43 #[.int .i64 n] w fun e w' => e = .returned (.bool (nodeS n)) ∧ w' = w := by
  unfold nodeS
  go_enter Try.func43, Try.ntmps43
  go_wp2
  all_goals go_ret
  all_goals (simp_all <;> omega)
set_option maxHeartbeats 1000000 in
theorem rhas_any (b : Nat) (hb : b < lim) (n : Int) (w : World) : Calls Try.prog 28 #[.int .u64 b, .int .i64 n] w fun e w' => e = .returned (.bool (hasS b n)) ∧ w' = w := by
  unfold hasS
  cases h : nodeS n
  · go_enter Try.func28, Try.ntmps28
    go_wp2_with fail
    refine (node_any n w).mono ?_
    rw [h]
    rintro e w1 ⟨rfl, rfl⟩
    go_wp2_with fail
    go_ret
    exact ⟨rfl, rfl⟩
  · obtain ⟨h0, h1⟩ := (nodeS_iff n).1 h
    have ha := shr_bit b n.toNat hb
    cases h2 : b.testBit n.toNat
    all_goals
      rw [h2] at ha
      simp only [Bool.false_eq_true, if_false, if_true] at ha
      go_enter Try.func28, Try.ntmps28
      go_wp2_with fail
      refine (node_any n w).mono ?_
      rw [h]
      rintro e w1 ⟨rfl, rfl⟩
      go_wp2_with fail
      go_ret
      exact ⟨rfl, rfl⟩
set_option maxHeartbeats 1000000 in
set_option maxHeartbeats 1000000 in
theorem rwith_any (b : Nat) (hb : b < lim) (n : Int) (w : World) : Calls Try.prog 29 #[.int .u64 b, .int .i64 n] w fun e w' => e = .returned (.int .u64 (withS b n)) ∧ w' = w := by
  cases h : nodeS n
  · have hz : withS b n = b := by unfold withS bitS; rw [h]; simp
    rw [hz]
    go_enter Try.func29, Try.ntmps29
    go_wp2_with fail
    refine (node_any n w).mono ?_
    rw [h]
    rintro e w1 ⟨rfl, rfl⟩
    go_wp2_with fail
    go_ret
    exact ⟨rfl, rfl⟩
  · have hw := wrap_pow n h
    obtain ⟨h0, h1⟩ := (nodeS_iff n).1 h
    have ha := with_bits b n hb
    go_enter Try.func29, Try.ntmps29
    go_wp2_with fail
    refine (node_any n w).mono ?_
    rw [h]
    rintro e w1 ⟨rfl, rfl⟩
    go_wp2_with fail
    go_ret
    exact ⟨rfl, rfl⟩
set_option maxHeartbeats 1000000 in
theorem has_any (b : Nat) (hb : b < lim) (n : Int) (w : World) : Calls Try.prog 26 #[.int .u64 b, .int .i64 n] w fun e w' => e = .returned (.bool (hasS b n)) ∧ w' = w := by
  have ha := and_bit b n hb
  cases h : hasS b n
  · rw [h, if_neg (by simp)] at ha
    go_enter Try.func26, Try.ntmps26
    go_wp2_with fail
    refine (bit_any n w).mono ?_
    rintro e w1 ⟨rfl, rfl⟩
    go_wp2_with fail
    go_ret
    exact ⟨rfl, rfl⟩
  · rw [h, if_pos rfl] at ha
    have hp := bitS_pos b n h
    have hp' : ((bitS n : Int) != 0) = true := by simpa using hp
    go_enter Try.func26, Try.ntmps26
    go_wp2_with fail
    refine (bit_any n w).mono ?_
    rintro e w1 ⟨rfl, rfl⟩
    go_wp2_with fail
    go_ret
    exact ⟨rfl, rfl⟩

theorem count_one (p : Nat → Bool) (k : Nat) (hk : p k = false) : ∀ l : List Nat, (l.filter (fun i => p i || decide (k = i))).length = (l.filter p).length + l.count k
  | [] => by simp
  | x :: l => by
    have ih := count_one p k hk l
    simp only [List.filter_cons, List.count_cons]
    by_cases e : k = x
    · subst e
      simp [hk, ih]; omega
    · have e2 : ¬ (x = k) := fun h => e h.symm
      cases h : p x <;> simp [e, e2, ih]
      omega
theorem many_with {b : Nat} {n : Int} (hn : nodeS n = true) (h : hasS b n = false) : manyS (withS b n) = manyS b + 1 := by
  obtain ⟨h0, h1⟩ := (nodeS_iff n).1 hn
  unfold hasS at h
  rw [hn, Bool.true_and] at h
  have hc := count_one (fun i => b.testBit i) n.toNat h (List.range 64)
  have e : (List.range 64).count n.toNat = 1 := by
    rw [List.nodup_range.count]
    rw [if_pos (List.mem_range.2 (by omega))]
  rw [e] at hc
  unfold manyS nodesS
  rw [← hc]
  congr 1
  refine List.filter_congr fun i _ => ?_
  rw [testBit_withS, hn, Bool.true_and]
end Go.Proofs.Ytahiiieifdhgeaa.Bnd
