/-
  Plain mathematics of rounds: what is shuffled has the same things; who is told; who helps; who joins.
-/
import Derived.Test.YtnhpkpodeojldaaRnx
import Derived.Test.YtnhpkpodeojldaaRjn
namespace Go.Proofs.Ytnhpkpodeojldaa

/-! ## Of, and how many -/

theorem testBit_foldl (l : List Int) : ∀ (b i : Nat), (l.foldl withS b).testBit i = (b.testBit i || l.any (fun n => nodeS n && decide (n.toNat = i))) := by
  induction l with
  | nil => intro b i; simp
  | cons x r ih =>
    intro b i
    rw [List.foldl_cons, ih, testBit_withS, List.any_cons, Bool.or_assoc]
theorem has_ofS (l : List Int) (n : Int) : hasS (ofS l) n = (nodeS n && decide (n ∈ l)) := by
  unfold hasS ofS
  rw [testBit_foldl]
  cases h : nodeS n
  · rfl
  · obtain ⟨h0, h1⟩ := (nodeS_iff n).1 h
    simp only [Nat.zero_testBit, Bool.false_or, Bool.true_and]
    rw [Bool.eq_iff_iff]
    simp only [List.any_eq_true, Bool.and_eq_true, decide_eq_true_eq]
    constructor
    · rintro ⟨x, hx, hn, e⟩
      obtain ⟨h2, h3⟩ := (nodeS_iff x).1 hn
      have : x = n := by omega
      rwa [this] at hx
    · intro hx
      exact ⟨n, hx, h, rfl⟩
theorem testBit_has (b : Nat) {i : Nat} (hi : i < 64) : b.testBit i = hasS b (i : Int) := by
  have : nodeS (i : Int) = true := (nodeS_iff _).2 ⟨by omega, by omega⟩
  unfold hasS; rw [this]; simp
theorem eq_of_has {a b : Nat} (ha : a < lim) (hb : b < lim) (h : ∀ n, nodeS n = true → hasS a n = hasS b n) : a = b :=
  eq_of_bits ha hb fun i hi => by
    rw [testBit_has a hi, testBit_has b hi]
    exact h _ ((nodeS_iff _).2 ⟨by omega, by omega⟩)
theorem of_lst {b : Nat} (hb : b < lim) : ofS (lst b) = b :=
  eq_of_has (ofS_lt _) hb fun n hn => by
    rw [has_ofS, hn, Bool.true_and, Bool.eq_iff_iff, decide_eq_true_eq]
    exact mem_lst
theorem count_one (p : Nat → Bool) (k : Nat) (hk : p k = false) : ∀ l : List Nat, (l.filter (fun i => p i || decide (k = i))).length = (l.filter p).length + l.count k
  | [] => by simp
  | x :: l => by
    have ih := count_one p k hk l
    simp only [List.filter_cons, List.count_cons]
    by_cases e : k = x
    · subst e
      simp [hk, ih]; omega
    · have e2 : ¬ (x = k) := fun h => e h.symm
      cases h : p x <;> simp [e, e2, ih]
      omega
theorem many_with {b : Nat} {n : Int} (hn : nodeS n = true) (h : hasS b n = false) : manyS (withS b n) = manyS b + 1 := by
  obtain ⟨h0, h1⟩ := (nodeS_iff n).1 hn
  unfold hasS at h
  rw [hn, Bool.true_and] at h
  have hc := count_one (fun i => b.testBit i) n.toNat h (List.range 64)
  have e : (List.range 64).count n.toNat = 1 := by
    rw [List.nodup_range.count]
    rw [if_pos (List.mem_range.2 (by omega))]
  rw [e] at hc
  unfold manyS nodesS
  rw [← hc]
  congr 1
  refine List.filter_congr fun i _ => ?_
  rw [testBit_withS, hn, Bool.true_and]
/-! ## Orders -/

theorem sw_perm (s : List Int) (i k : Nat) (hi : i < s.length) (hk : k < s.length) : (sw s i k).Perm s := by
  rw [← sw_eq s i k hi hk]
  exact List.set_set_perm hi hk
theorem shufGo_perm (i : Nat) : ∀ s l, i < s.length → (shufGo i s l).1.Perm s := by
  induction i with
  | zero => intro s l _; exact List.Perm.refl _
  | succ i ih =>
    intro s l h
    have hr := belowS_range l ((i : Int) + 2)
    have hk := hr.2 (by omega)
    rw [shufGo]
    exact (ih _ _ (by rw [sw_length]; omega)).trans (sw_perm s (i + 1) _ h (by omega))
theorem shufS_perm (s l : List Int) : (shufS s l).1.Perm s := by
  unfold shufS
  rcases Nat.eq_zero_or_pos s.length with h | h
  · rw [h]; exact List.Perm.refl _
  · exact shufGo_perm _ _ _ (by omega)

theorem lst_nodup (b : Nat) : (lst b).Nodup := (lst_sorted b).imp fun h => by omega
theorem shuf_nodup (b : Nat) (l : List Int) : (shufS (lst b) l).1.Nodup := ((shufS_perm _ _).nodup_iff).2 (lst_nodup b)

/-- So many nodes, each once. -/
theorem many_foldl (h : List Int) : ∀ b : Nat, (∀ x ∈ h, nodeS x = true ∧ hasS b x = false) → h.Nodup → manyS (h.foldl withS b) = manyS b + h.length := by
  induction h with
  | nil => intro b _ _; rfl
  | cons x r ih =>
    intro b hx hn
    rw [List.nodup_cons] at hn
    rw [List.foldl_cons, ih (withS b x) (fun y hy => ⟨(hx y (by simp [hy])).1, ?_⟩) hn.2, many_with (hx x (by simp)).1 (hx x (by simp)).2, List.length_cons]
    · omega
    · have h1 := (hx y (by simp [hy])).2
      have h2 := (hx y (by simp [hy])).1
      have h3 := (hx x (by simp)).1
      unfold hasS at h1 ⊢
      rw [h2, Bool.true_and] at h1 ⊢
      rw [testBit_withS, h1, h3]
      have : x ≠ y := fun e => hn.1 (e ▸ hy)
      have h4 := (nodeS_iff x).1 h3
      have h5 := (nodeS_iff y).1 h2
      have : x.toNat ≠ y.toNat := by omega
      simp [this]
theorem many_ofS {h : List Int} (hx : ∀ x ∈ h, nodeS x = true) (hn : h.Nodup) : manyS (ofS h) = h.length := by
  unfold ofS
  rw [many_foldl h 0 (fun x hm => ⟨hx x hm, by unfold hasS; simp⟩) hn]
  have : manyS 0 = 0 := by decide
  omega
/-- All but one. -/
theorem lst_less (b : Nat) {x : Int} (hx : nodeS x = true) : (lst b).filter (fun y => !decide (y = x)) = lst (lessS b x) := by
  have hr := (nodeS_iff x).1 hx
  unfold lst nodesS
  rw [List.filter_map, List.filter_filter]
  congr 1
  refine List.filter_congr fun i _ => ?_
  rw [testBit_lessS, hx, Bool.true_and, Bool.and_comm]
  congr 2
  simp only [Function.comp]
  have : ((i : Int) = x) ↔ (x.toNat = i) := by omega
  rw [decide_eq_decide.2 this]

/-! ## Who helps -/

theorem help_take (b : Nat) {x n : Int} (hx : nodeS x = true) (hn : 0 ≤ n) (l : List Int) : (helpS (lst b) x n l).1 = (shufS (lst (lessS b x)) l).1.take n.toNat := by
  unfold helpS someS
  rw [lst_less b hx]
  split
  · have : n.toNat = 0 := by omega
    rw [this]; rfl
  · rfl
theorem help_length (b : Nat) {x n : Int} (hx : nodeS x = true) (hn : 0 ≤ n) (l : List Int) : ((helpS (lst b) x n l).1.length : Int) = min n (manyS (lessS b x)) := by
  rw [help_take b hx hn, List.length_take, shufS_length, lst_length]
  omega
theorem help_mem {b : Nat} {x n : Int} (hx : nodeS x = true) (hn : 0 ≤ n) {l : List Int} {y : Int} (hy : y ∈ (helpS (lst b) x n l).1) : hasS (lessS b x) y = true := by
  rw [help_take b hx hn] at hy
  exact mem_lst.1 (((shufS_perm _ _).mem_iff).1 (List.mem_of_mem_take hy))
theorem help_many (b : Nat) {x n : Int} (hx : nodeS x = true) (hn : 0 ≤ n) (l : List Int) : manyS (ofS (helpS (lst b) x n l).1) = (helpS (lst b) x n l).1.length := by
  refine many_ofS (fun y hy => ?_) ?_
  · have := help_mem hx hn hy
    unfold hasS at this
    rw [Bool.and_eq_true] at this
    exact this.1
  · rw [help_take b hx hn]
    exact (shuf_nodup _ l).sublist (List.take_sublist _ _)
theorem help_both (b : Nat) {x n : Int} (hx : nodeS x = true) (hn : 0 ≤ n) (l : List Int) : ofS (helpS (lst b) x n l).1 &&& lessS b x = ofS (helpS (lst b) x n l).1 := by
  refine eq_of_bits (and_lt (ofS_lt _)) (ofS_lt _) fun i hi => ?_
  rw [Nat.testBit_and]
  cases h : (ofS (helpS (lst b) x n l).1).testBit i
  · rfl
  · rw [testBit_has _ hi, has_ofS, Bool.and_eq_true, decide_eq_true_eq] at h
    rw [testBit_has _ hi, help_mem hx hn h.2]; rfl

/-! ## Who is told -/

theorem nxt_mem {s o : List Int} (l : List Int) (ho : o ≠ []) : (nxtS s o l).1.2 = true ∧ (nxtS s o l).1.1 ∈ o := by
  unfold nxtS
  rw [if_neg ho]
  split
  · refine ⟨rfl, ?_⟩
    have hl := shufS_length o l
    have hp := shufS_perm o l
    cases h : (shufS o l).1 with
    | nil => rw [h] at hl; exact absurd (List.length_eq_zero_iff.1 hl.symm) ho
    | cons y r =>
      have : y ∈ (shufS o l).1 := by rw [h]; simp
      exact hp.mem_iff.1 this
  · rename_i h
    refine ⟨rfl, ?_⟩
    cases hd : s.dropWhile (fun x => !decide (x ∈ o)) with
    | nil => exact absurd hd h
    | cons y r =>
      have h2 : (s.dropWhile (fun x => !decide (x ∈ o))) ≠ [] := by rw [hd]; simp
      have := List.head_dropWhile_not (fun x => !decide (x ∈ o)) h2
      simp only [hd, List.head_cons] at this
      simpa using this

/-! ## Who joins -/

theorem join_in (s : List Int) (x : Int) (l : List Int) : x ∈ (joinS s x l).1 := by
  unfold joinS
  split
  · assumption
  · simp
theorem join_count {s : List Int} (hs : s.Nodup) (x : Int) (l : List Int) : (joinS s x l).1.count x = 1 := by
  unfold joinS
  split
  · rename_i h
    rw [hs.count, if_pos h]
  · rename_i h
    simp only [List.count_append, List.count_cons_self]
    rw [List.count_eq_zero_of_not_mem (fun e => h (List.mem_of_mem_take e)), List.count_eq_zero_of_not_mem (fun e => h (List.mem_of_mem_drop e))]
theorem join_rest (s : List Int) (x : Int) (l : List Int) : (joinS s x l).1.filter (fun y => !decide (y = x)) = s.filter (fun y => !decide (y = x)) := by
  unfold joinS
  split
  · rfl
  · rw [List.filter_append, List.filter_cons_of_neg (by simp), ← List.filter_append, List.take_append_drop]
theorem nxt_nodup (b : Nat) (l : List Int) : (nxtS [] (lst b) l).2.1.Nodup := by
  unfold nxtS
  split
  · exact List.nodup_nil
  · exact (shuf_nodup b l).sublist (List.tail_sublist _)
end Go.Proofs.Ytnhpkpodeojldaa
