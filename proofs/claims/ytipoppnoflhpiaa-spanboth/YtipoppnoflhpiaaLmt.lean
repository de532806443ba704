/-
  Plain mathematics of the laws: sets that are joined, taken away, added to; the first ones and what is left. No program is known here.
-/
import Derived.Test.YtipoppnoflhpiaaMad
namespace Go.Proofs.Ytipoppnoflhpiaa

theorem mayS_of {l : List Sn} (h : Up 0 l) : mayS l = true := (mayS_iff l).2 h
theorem cnt_one (n : Int) (n0 : 0 ≤ n) (N : Nat) (h : n < N) : cnt (fun m => decide (n = m)) N = 1 := by
  have e : cnt (fun m => decide (n = m)) N = cnt (fun m => decide (n ≤ m) && decide (m ≤ n)) N := by
    refine cnt_congr N fun m _ => ?_
    rw [Bool.eq_iff_iff]
    simp
    omega
  rw [e, cnt_run n n n0 (Int.le_refl _), if_neg (by omega)]
  split <;> omega
theorem many_cnt {l : List Sn} (h : Up 0 l) (ht : ∀ n, hasS l n = true → n ≤ 255) : manyS l = cnt (hasS l) 256 :=
  manyS_cnt 256 (Int.le_refl _) h fun s hs => by have := hasS_top h ht s hs; omega
theorem add_same {l : List Sn} {n : Int} (h : Up 0 l) (hn : hasS l n = true) : addS l n = (l, false) := by
  unfold addS
  rw [mayS_of h, hn]
  simp
theorem add_many {l : List Sn} {n : Int} (h : Up 0 l) (n0 : 0 ≤ n) (n1 : n ≤ 255) (ht : ∀ m, hasS l m = true → m ≤ 255) : manyS (addS l n).1 = manyS l + if hasS l n then 0 else 1 := by
  cases hs : hasS l n
  case true => rw [add_same h hs]; simp
  case false =>
    have hu := addS_up h n0 (show n < 18446744073709551615 by omega)
    have hh := addS_has h n0 (show n < 18446744073709551615 by omega)
    rw [many_cnt hu (fun m hm => by
      rw [hh] at hm
      rcases Bool.or_eq_true_iff.1 hm with e | e
      · exact ht m e
      · have e : n = m := by simpa using e
        omega), many_cnt h ht]
    have e : cnt (hasS (addS l n).1) 256 = cnt (fun m => hasS l m || decide (n = m)) 256 := cnt_congr 256 fun m _ => hh m
    rw [e, cnt_or 256 (fun m _ hm => by
      rw [decide_eq_false_iff_not]
      rintro rfl
      rw [hs] at hm; cases hm), cnt_one n n0 256 (by omega)]
    simp

theorem join_comm {a b : List Sn} (ha : Up 0 a) (hb : Up 0 b) : joinS a b = joinS b a := uniq _ _ 0 (joinS_up ha hb) (joinS_up hb ha) fun n => by rw [joinS_has ha hb, joinS_has hb ha, Bool.or_comm]
theorem join_join {a b c : List Sn} (ha : Up 0 a) (hb : Up 0 b) (hc : Up 0 c) : joinS (joinS a b) c = joinS a (joinS b c) := uniq _ _ 0 (joinS_up (joinS_up ha hb) hc) (joinS_up ha (joinS_up hb hc)) fun n => by
  rw [joinS_has (joinS_up ha hb) hc, joinS_has ha hb, joinS_has ha (joinS_up hb hc), joinS_has hb hc, Bool.or_assoc]
theorem minus_minus {a b c : List Sn} (ha : Up 0 a) (hb : Up 0 b) (hc : Up 0 c) : minusS (minusS a b) c = minusS a (joinS b c) := uniq _ _ 0 (minusS_up (minusS_up ha hb) hc) (minusS_up ha (joinS_up hb hc)) fun n => by
  rw [minusS_has (minusS_up ha hb) hc, minusS_has ha hb, minusS_has ha (joinS_up hb hc), joinS_has hb hc]
  cases hasS a n <;> cases hasS b n <;> cases hasS c n <;> rfl
theorem minus_join {a b : List Sn} (ha : Up 0 a) (hb : Up 0 b) : joinS (minusS a b) b = joinS a b := uniq _ _ 0 (joinS_up (minusS_up ha hb) hb) (joinS_up ha hb) fun n => by
  rw [joinS_has (minusS_up ha hb) hb, minusS_has ha hb, joinS_has ha hb]
  cases hasS a n <;> cases hasS b n <;> rfl
theorem minus_none {a b : List Sn} (ha : Up 0 a) (hb : Up 0 b) (h : ∀ n, hasS a n = true → hasS b n = true) : minusS a b = [] := uniq _ _ 0 (minusS_up ha hb) trivial fun n => by
  rw [minusS_has ha hb, hasS_nil]
  cases e : hasS a n
  · rfl
  · rw [h n e]; rfl
theorem first_join {a b : List Sn} (ha : Up 0 a) (hb : Up 0 b) (h : ∀ n, hasS b n = true → hasS a n = true) : joinS b (minusS a b) = a := uniq _ _ 0 (joinS_up hb (minusS_up ha hb)) ha fun n => by
  rw [joinS_has hb (minusS_up ha hb), minusS_has ha hb]
  cases e : hasS b n
  · simp
  · rw [h n e]; rfl
theorem minus_self {a : List Sn} (ha : Up 0 a) : minusS a a = [] := minus_none ha ha fun _ h => h
theorem join_self {a : List Sn} (ha : Up 0 a) : joinS a a = a := uniq _ _ 0 (joinS_up ha ha) ha fun n => by rw [joinS_has ha ha, Bool.or_self]
theorem made_rev (l : List Int) (hb : Bytes l) : madeS l.reverse = madeS l := by
  obtain ⟨h1, h2, _⟩ := madeS_spec l hb
  obtain ⟨k1, k2, _⟩ := madeS_spec l.reverse (fun x hx => hb x (List.mem_reverse.1 hx))
  refine uniq _ _ 0 k1 h1 fun n => ?_
  rw [k2, h2, Bool.eq_iff_iff]
  simp
end Go.Proofs.Ytipoppnoflhpiaa
