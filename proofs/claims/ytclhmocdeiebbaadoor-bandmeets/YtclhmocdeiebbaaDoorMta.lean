/-
  Plain mathematics, the second part: majorities, halves, places, who is next. No program is known here.
-/
import Derived.Test.YtclhmocdeiebbaaDoorFst
namespace Go.Proofs.YtclhmocdeiebbaaDoor
open Go

/-! ## Majorities -/

theorem count_meet (p q r : Nat → Bool) (hp : ∀ i, p i = true → r i = true) (hq : ∀ i, q i = true → r i = true) : ∀ l : List Nat, (l.filter p).length + (l.filter q).length ≤ (l.filter r).length + (l.filter (fun i => p i && q i)).length
  | [] => by simp
  | x :: l => by
    have ih := count_meet p q r hp hq l
    have h1 := hp x
    have h2 := hq x
    simp only [List.filter_cons]
    cases e1 : p x <;> cases e2 : q x <;> cases e3 : r x <;> simp_all <;> omega
theorem many_meet (a b o : Nat) : manyS (a &&& o) + manyS (b &&& o) ≤ manyS o + manyS (a &&& b &&& o) := by
  have := count_meet (fun i => (a &&& o).testBit i) (fun i => (b &&& o).testBit i) (fun i => o.testBit i) (fun i h => by simp [Nat.testBit_and] at h; exact h.2) (fun i h => by simp [Nat.testBit_and] at h; exact h.2) (List.range 64)
  have e : (List.range 64).filter (fun i => (a &&& o).testBit i && (b &&& o).testBit i) = nodesS (a &&& b &&& o) := by
    unfold nodesS
    refine List.filter_congr fun i _ => ?_
    simp only [Nat.testBit_and]
    cases a.testBit i <;> cases b.testBit i <;> cases o.testBit i <;> rfl
  rw [e] at this
  exact this
theorem many_zero : manyS 0 = 0 := by unfold manyS; rw [nodes_zero]; rfl
theorem major_meet {a b o : Nat} (h1 : majorS a o = true) (h2 : majorS b o = true) : a &&& b &&& o ≠ 0 := by
  intro e
  have := many_meet a b o
  rw [e, many_zero] at this
  unfold majorS at h1 h2
  have h1 := of_decide_eq_true h1
  have h2 := of_decide_eq_true h2
  omega
theorem major_not {a c o : Nat} (h : ∀ i, i < 64 → (a.testBit i && c.testBit i) = false) (ha : a < lim) (h1 : majorS a o = true) : majorS c o = false := by
  cases h2 : majorS c o
  · rfl
  · exfalso
    refine major_meet h1 h2 (eq_of_bits (and_lt (and_lt ha)) (by decide) fun i hi => ?_)
    rw [Nat.testBit_and, Nat.testBit_and, h i hi]
    simp

/-! ## Of, and how many -/

theorem testBit_foldl (l : List Int) : ∀ (b i : Nat), (l.foldl withS b).testBit i = (b.testBit i || l.any (fun n => nodeS n && decide (n.toNat = i))) := by
  induction l with
  | nil => intro b i; simp
  | cons x r ih =>
    intro b i
    rw [List.foldl_cons, ih, testBit_withS, List.any_cons, Bool.or_assoc]
theorem has_ofS (l : List Int) (n : Int) : hasS (ofS l) n = (nodeS n && decide (n ∈ l)) := by
  unfold hasS ofS
  rw [testBit_foldl]
  cases h : nodeS n
  · rfl
  · obtain ⟨h0, h1⟩ := (nodeS_iff n).1 h
    simp only [Nat.zero_testBit, Bool.false_or, Bool.true_and]
    rw [Bool.eq_iff_iff]
    simp only [List.any_eq_true, Bool.and_eq_true, decide_eq_true_eq]
    constructor
    · rintro ⟨x, hx, hn, e⟩
      obtain ⟨h2, h3⟩ := (nodeS_iff x).1 hn
      have : x = n := by omega
      rwa [this] at hx
    · intro hx
      exact ⟨n, hx, h, rfl⟩
theorem testBit_has (b : Nat) {i : Nat} (hi : i < 64) : b.testBit i = hasS b (i : Int) := by
  have : nodeS (i : Int) = true := (nodeS_iff _).2 ⟨by omega, by omega⟩
  unfold hasS; rw [this]; simp
theorem eq_of_has {a b : Nat} (ha : a < lim) (hb : b < lim) (h : ∀ n, nodeS n = true → hasS a n = hasS b n) : a = b :=
  eq_of_bits ha hb fun i hi => by
    rw [testBit_has a hi, testBit_has b hi]
    exact h _ ((nodeS_iff _).2 ⟨by omega, by omega⟩)
theorem of_lst {b : Nat} (hb : b < lim) : ofS (lst b) = b :=
  eq_of_has (ofS_lt _) hb fun n hn => by
    rw [has_ofS, hn, Bool.true_and, Bool.eq_iff_iff, decide_eq_true_eq]
    exact mem_lst
theorem count_one (p : Nat → Bool) (k : Nat) (hk : p k = false) : ∀ l : List Nat, (l.filter (fun i => p i || decide (k = i))).length = (l.filter p).length + l.count k
  | [] => by simp
  | x :: l => by
    have ih := count_one p k hk l
    simp only [List.filter_cons, List.count_cons]
    by_cases e : k = x
    · subst e
      simp [hk, ih]; omega
    · have e2 : ¬ (x = k) := fun h => e h.symm
      cases h : p x <;> simp [e, e2, ih]
      omega
theorem many_with {b : Nat} {n : Int} (hn : nodeS n = true) (h : hasS b n = false) : manyS (withS b n) = manyS b + 1 := by
  obtain ⟨h0, h1⟩ := (nodeS_iff n).1 hn
  unfold hasS at h
  rw [hn, Bool.true_and] at h
  have hc := count_one (fun i => b.testBit i) n.toNat h (List.range 64)
  have e : (List.range 64).count n.toNat = 1 := by
    rw [List.nodup_range.count]
    rw [if_pos (List.mem_range.2 (by omega))]
  rw [e] at hc
  unfold manyS nodesS
  rw [← hc]
  congr 1
  refine List.filter_congr fun i _ => ?_
  rw [testBit_withS, hn, Bool.true_and]
theorem take_lt (b : Nat) {i : Nat} (hi : i < (lst b).length) : ∀ x ∈ (lst b).take i, x < (lst b)[i] := by
  have hs := lst_sorted b
  rw [← List.take_append_drop i (lst b), List.pairwise_append] at hs
  intro x hx
  refine hs.2.2 x hx _ ?_
  rw [List.drop_eq_getElem_cons hi]
  exact List.mem_cons_self
theorem many_take (b : Nat) : ∀ k, k ≤ (lst b).length → manyS (ofS ((lst b).take k)) = k
  | 0, _ => by simp [ofS, many_zero]
  | k + 1, h => by
    have hk : k < (lst b).length := by omega
    have ih := many_take b k (by omega)
    have hm : (lst b)[k] ∈ lst b := List.getElem_mem hk
    have hn : nodeS (lst b)[k] = true := (nodeS_iff _).2 (lst_range hm)
    have e : ofS ((lst b).take (k + 1)) = withS (ofS ((lst b).take k)) (lst b)[k] := by
      unfold ofS
      rw [← List.take_append_getElem hk, List.foldl_append]
      rfl
    rw [e, many_with hn, ih]
    rw [has_ofS, hn, Bool.true_and]
    refine decide_eq_false fun hx => ?_
    have := take_lt b hk _ hx
    omega
theorem take_and (b k : Nat) : ofS ((lst b).take k) &&& b = ofS ((lst b).take k) := by
  refine eq_of_bits (and_lt (ofS_lt _)) (ofS_lt _) fun i hi => ?_
  rw [Nat.testBit_and, testBit_has _ hi, testBit_has b hi, has_ofS]
  cases h : decide ((i : Int) ∈ (lst b).take k)
  · simp
  · have := mem_lst.1 (List.mem_of_mem_take (of_decide_eq_true h))
    rw [this]; simp
theorem major_take (b k : Nat) (hk : k ≤ (lst b).length) : majorS (ofS ((lst b).take k)) b = decide ((lst b).length < 2 * k) := by
  unfold majorS
  rw [take_and b k, many_take b k hk, lst_length]
theorem major_self (b : Nat) : majorS b b = decide (0 < (lst b).length) := by
  unfold majorS
  rw [Nat.and_self, lst_length, decide_eq_decide]
  omega

/-! ## Places -/

theorem place_at (b : Nat) {i : Nat} (hi : i < (lst b).length) : placeS b (lst b)[i] = i := by
  rw [placeS_pre (pre := (lst b).take i) (x := (lst b)[i]) (take_lt b hi) (Int.le_refl _) (by rw [List.take_append_getElem hi]; exact List.take_prefix _ _)]
  rw [List.length_take]; omega
theorem place_mono (b : Nat) {n m : Int} (h : n ≤ m) : placeS b n ≤ placeS b m := by
  unfold placeS
  rw [← List.countP_eq_length_filter, ← List.countP_eq_length_filter]
  refine List.countP_mono_left fun x _ hx => ?_
  have := of_decide_eq_true hx
  exact decide_eq_true (by omega)
theorem place_64 (b : Nat) : placeS b 64 = manyS b := by
  rw [placeS_all fun x hx => (lst_range hx).2, lst_length]
theorem place_0 (b : Nat) : placeS b 0 = 0 := by
  unfold placeS
  rw [List.length_eq_zero_iff, List.filter_eq_nil_iff]
  intro x hx
  have := (lst_range hx).1
  simp; omega
theorem place_le (b : Nat) (n : Int) : placeS b n ≤ 64 := by
  have h1 := List.length_filter_le (fun k => decide (k < n)) (lst b)
  have h2 := many_le b
  rw [lst_length] at h1
  exact Nat.le_trans h1 h2
theorem with_out (b : Nat) {n : Int} (h : nodeS n = false) : withS b n = b := by unfold withS bitS; rw [h]; simp
theorem has_out (b : Nat) {n : Int} (h : nodeS n = false) : hasS b n = false := by unfold hasS; rw [h]; rfl
theorem less_out (b : Nat) {n : Int} (h : nodeS n = false) : lessS b n = b := by unfold lessS; rw [has_out b h]; rfl

/-! ## Off and on again -/

theorem has_less (b : Nat) (n : Int) : hasS (lessS b n) n = false := by
  cases h : nodeS n
  · exact has_out _ h
  · unfold hasS
    rw [testBit_lessS, h]; simp
theorem with_less {b : Nat} (hb : b < lim) (n : Int) : withS (lessS b n) n = withS b n := by
  refine eq_of_bits (withS_lt (lessS_lt hb n) n) (withS_lt hb n) fun i _ => ?_
  rw [testBit_withS, testBit_withS, testBit_lessS]
  cases b.testBit i <;> cases (nodeS n && decide (n.toNat = i)) <;> rfl

/-! ## Who is next -/

theorem first_has {b : Nat} (hb : b < lim) (h0 : b ≠ 0) : (firstS b).2 = true ∧ hasS b (firstS b).1 = true := by
  unfold firstS
  cases h : lst b with
  | nil => exact absurd ((lst_nil hb).1 h) h0
  | cons x r => exact ⟨rfl, mem_lst.1 (by rw [h]; simp)⟩
theorem first_zero : firstS 0 = (0, false) := by unfold firstS; rw [lst_zero]
theorem next_zero (n : Int) : nextS 0 n = (0, false) := by
  rw [nextS_none fun x hx => by rw [lst_zero] at hx; cases hx]
  exact first_zero
theorem next_found {b : Nat} {k i : Int} (hi : hasS b i = true) (hk : k < i) (h : ∀ j, k < j → j < i → hasS b j = false) : nextS b k = (i, true) := by
  obtain ⟨s, t, e⟩ := List.append_of_mem (mem_lst.2 hi)
  have hs := lst_sorted b
  rw [e, List.pairwise_append] at hs
  refine nextS_pre (pre := s) (fun y hy => ?_) hk ⟨t, by rw [e]; simp⟩
  have h1 := hs.2.2 y hy i (by simp)
  have h2 := mem_lst.1 (show y ∈ lst b by rw [e]; simp [hy])
  by_cases h3 : k < y
  · rw [h y h3 h1] at h2; cases h2
  · omega
theorem next_last {b : Nat} {k : Int} (h : ∀ j, k < j → j < 64 → hasS b j = false) : nextS b k = firstS b := by
  refine nextS_none fun x hx => ?_
  by_cases h3 : k < x
  · have := mem_lst.1 hx
    rw [h x h3 (lst_range hx).2] at this; cases this
  · omega
/-- Where one stands behind i steps. -/
def atS (l : List Int) (i : Nat) : Int := if i = 0 then -1 else l.getD ((i - 1) % l.length) 0
theorem first_at {b : Nat} (h : 0 < (lst b).length) : firstS b = ((lst b)[0], true) := by
  unfold firstS
  revert h
  generalize lst b = l
  intro h
  cases l with
  | nil => cases h
  | cons x r => rfl
theorem next_at {b : Nat} (i : Nat) (h : 0 < (lst b).length) : nextS b (atS (lst b) i) = ((lst b)[i % (lst b).length]'(Nat.mod_lt _ h), true) := by
  have hpre : ∀ j (hj : j < (lst b).length), (lst b).take j ++ [(lst b)[j]] <+: lst b := fun j hj => by rw [List.take_append_getElem hj]; exact List.take_prefix _ _
  unfold atS
  by_cases h0 : i = 0
  · subst h0
    rw [if_pos rfl]
    have hr := (lst_range (List.getElem_mem h)).1
    rw [nextS_pre (pre := []) (x := (lst b)[0]) (by simp) (by omega) (by have := hpre 0 h; simpa using this)]
    simp
  · rw [if_neg h0]
    have hj : (i - 1) % (lst b).length < (lst b).length := Nat.mod_lt _ h
    have e1 : i % (lst b).length = ((i - 1) % (lst b).length + 1) % (lst b).length := by rw [Nat.mod_add_mod]; congr 1; omega
    generalize (i - 1) % (lst b).length = j at hj e1
    rw [List.getD_eq_getElem?_getD, List.getElem?_eq_getElem hj, Option.getD_some]
    have hle : ∀ x ∈ (lst b).take (j + 1), x ≤ (lst b)[j] := by
      intro x hx
      rw [← List.take_append_getElem hj] at hx
      rcases List.mem_append.1 hx with hx | hx
      · exact Int.le_of_lt (take_lt b hj x hx)
      · rw [List.mem_singleton.1 hx]; exact Int.le_refl _
    by_cases hl : j + 1 < (lst b).length
    · have e2 : i % (lst b).length = j + 1 := by rw [e1]; exact Nat.mod_eq_of_lt hl
      have hx : (lst b)[j] < (lst b)[j + 1] := take_lt b hl _ (by rw [← List.take_append_getElem hj]; exact List.mem_append_right _ (List.mem_singleton_self _))
      rw [nextS_pre hle hx (hpre _ hl)]
      congr 1
      exact (getElem_congr_idx e2).symm
    · have e2 : i % (lst b).length = 0 := by rw [e1, show j + 1 = (lst b).length by omega]; exact Nat.mod_self _
      rw [nextS_none fun x hx => hle x (by rw [List.take_of_length_le (by omega)]; exact hx), first_at h]
      congr 1
      exact (getElem_congr_idx e2).symm

end Go.Proofs.YtclhmocdeiebbaaDoor
