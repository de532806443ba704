/-
  Two shelves that are mended, one by the other: mathematics.
-/
import Derived.Test.YtlbeincgknmijaaTka
import Derived.Test.YtlbeincgknmijaaGvw
namespace Go.Proofs.Ytlbeincgknmijaa
open Go.RowKit

theorem putR_ri {low : Int} {R : Rng} (h : RI low R) (n : Int) (g : Ms) : RI low (putR low R n g) := by
  unfold putR
  split
  · rename_i e
    obtain ⟨_, a, b⟩ := putE_zero e
    exact h.put g a b
  · exact h
theorem putR_has {low : Int} {R : Rng} (h : RI low R) (l0 : 0 ≤ low) (n : Int) (g : Ms) (m : Int) : hasR low (putR low R n g) m = (hasR low R m || (decide (putE low (hasR low R n) n g = 0) && decide (m = n))) := by
  unfold putR
  by_cases e : putE low (hasR low R n) n g = 0
  · obtain ⟨hn, a, b⟩ := putE_zero e
    rw [if_pos e, decide_eq_true e, put_has h g a b l0 hn, Bool.true_and, Bool.or_comm]
  · rw [if_neg e, decide_eq_false e, Bool.false_and, Bool.or_false]

section
variable {low most : Int}
theorem tkP_ri {s : Rng × Nat} (h : RI low s.1) (x : Pl) : RI low (tkP low most s x).1 := by
  unfold tkP
  split
  · exact putR_ri h _ _
  · exact h
theorem tkP_tx {s : Rng × Nat} (h : Tx s.1) (x : Pl) : Tx (tkP low most s x).1 := by
  unfold tkP
  split
  · exact h.put _ _ _
  · exact h
theorem tkP_has {s : Rng × Nat} (h : RI low s.1) (l0 : 0 ≤ low) (x : Pl) (m : Int) : hasR low (tkP low most s x).1 m = (hasR low s.1 m || (decide (x.n ≤ most) && decide (putE low (hasR low s.1 x.n) x.n x.g = 0) && decide (m = x.n))) := by
  unfold tkP
  by_cases c : x.n ≤ most ∧ putE low (hasR low s.1 x.n) x.n x.g = 0
  · rw [if_pos c, putR_has h l0, decide_eq_true c.1, Bool.true_and]
  · rw [if_neg c]
    by_cases a : x.n ≤ most
    · rw [decide_eq_false (fun b => c ⟨a, b⟩)]; simp
    · rw [decide_eq_false a]; simp
theorem tk_fold (l0 : 0 ≤ low) (l : List Pl) : ∀ s : Rng × Nat, RI low s.1 → Tx s.1 → RI low (l.foldl (tkP low most) s).1 ∧ Tx (l.foldl (tkP low most) s).1 ∧
    (∀ m, hasR low s.1 m = true → hasR low (l.foldl (tkP low most) s).1 m = true) ∧ (∀ m, hasR low (l.foldl (tkP low most) s).1 m = true → hasR low s.1 m = true ∨ ∃ x ∈ l, x.n = m) := by
  induction l with
  | nil => intro s h1 h2; exact ⟨h1, h2, fun _ h => h, fun _ h => Or.inl h⟩
  | cons x l ih =>
    intro s h1 h2
    obtain ⟨a, b, c, d⟩ := ih (tkP low most s x) (tkP_ri h1 x) (tkP_tx h2 x)
    refine ⟨a, b, fun m hm => c m (by rw [tkP_has h1 l0, hm]; rfl), fun m hm => ?_⟩
    rcases d m hm with e | ⟨y, hy, e⟩
    · rw [tkP_has h1 l0, Bool.or_eq_true] at e
      rcases e with e | e
      · exact Or.inl e
      · simp only [Bool.and_eq_true, decide_eq_true_eq] at e
        exact Or.inr ⟨x, List.mem_cons_self, e.2.symm⟩
    · exact Or.inr ⟨y, List.mem_cons_of_mem _ hy, e⟩
end

/-- What R has, behind what it takes of what S gives. -/
def stepR (k : Int) (R S : Rng) : Rng := (takeP 0 1000 R (giveS 0 S (lackM (haveR 0 R) (haveR 0 S) k) k)).1

theorem have0 {R : Rng} (h : RI 0 R) (m : Int) : hasS (haveR 0 R) m = hasR 0 R m := by
  rw [haveR_has h (by omega) (by omega), decide_eq_false (by omega), Bool.false_or]
theorem have0_up (R : Rng) : Up 0 (haveR 0 R) := haveR_up (by omega) (by omega)
/-- The least number that is so. -/
theorem least_of (p : Nat → Bool) : ∀ n, p n = true → ∃ m, p m = true ∧ ∀ j, j < m → p j = false := by
  intro n
  induction n using Nat.strongRecOn with
  | _ n ih =>
    intro hn
    by_cases h : ∃ j, j < n ∧ p j = true
    · obtain ⟨j, a, b⟩ := h
      exact ih j a b
    · exact ⟨n, hn, fun j hj => by cases e : p j; rfl; exact absurd ⟨j, hj, e⟩ h⟩
theorem getM_tx {R : Rng} (h : Tx R) (low n : Int) : ((getM low R n).x.size : Int) ≤ 64 := by
  unfold getM
  split
  · exact h _
  · decide
theorem stepR_ok {k : Int} {R S : Rng} (hR : RI 0 R) (hS : RI 0 S) (xR : Tx R) (xS : Tx S) (k1 : 1 ≤ k) : RI 0 (stepR k R S) ∧ Tx (stepR k R S) ∧
    (∀ m, hasR 0 R m = true → hasR 0 (stepR k R S) m = true) ∧ (∀ m, hasR 0 (stepR k R S) m = true → hasR 0 R m = true ∨ hasR 0 S m = true) ∧
    (∀ n, hasR 0 S n = true → hasR 0 R n = false → ∃ m, hasR 0 S m = true ∧ hasR 0 R m = false ∧ hasR 0 (stepR k R S) m = true) := by
  have hf := tk_fold (low := 0) (most := 1000) (Int.le_refl 0) (giveS 0 S (lackM (haveR 0 R) (haveR 0 S) k) k) (R, 0) hR xR
  have hat := fun i => @giveS_at 0 S hS (by decide) (by decide) (lackM (haveR 0 R) (haveR 0 S) k) k i
  have hl : ∀ n, 0 ≤ n → hasM (lackM (haveR 0 R) (haveR 0 S) k) n = ((hasR 0 S n && !hasR 0 R n) && decide (cnt (hasS (minusS (haveR 0 S) (haveR 0 R))) n.toNat < k)) := fun n n0 => by
    rw [lackM_at (have0_up R) (have0_up S) n0, have0 hS, have0 hR]
  have hin : ∀ i (h : i < (giveS 0 S (lackM (haveR 0 R) (haveR 0 S) k) k).length), hasR 0 S ((giveS 0 S (lackM (haveR 0 R) (haveR 0 S) k) k)[i]).n = true ∧ hasR 0 R ((giveS 0 S (lackM (haveR 0 R) (haveR 0 S) k) k)[i]).n = false := fun i h => by
    obtain ⟨a, _, _, b, _⟩ := hat i h
    rw [hl _ (by omega)] at a
    simp only [Bool.and_eq_true, Bool.not_eq_true'] at a
    exact a.1
  have hne : ∀ n, hasR 0 S n = true → hasR 0 R n = false → 0 < (giveS 0 S (lackM (haveR 0 R) (haveR 0 S) k) k).length := by
    intro n h1 h2
    have hb := hS.has (by omega) h1
    obtain ⟨m, a, b⟩ := least_of (fun j => hasR 0 S j && !hasR 0 R j) n.toNat (by
      show (hasR 0 S (n.toNat : Int) && !hasR 0 R (n.toNat : Int)) = true
      rw [show (n.toNat : Int) = n by omega, h1, h2]; rfl)
    have hz : cnt (hasS (minusS (haveR 0 S) (haveR 0 R))) m = 0 := cnt_none _ fun j hj => by
      rw [minusS_has (have0_up S) (have0_up R), have0 hS, have0 hR]
      exact b j hj
    have hm : hasM (lackM (haveR 0 R) (haveR 0 S) k) m = true := by
      rw [hl _ (by omega), show ((m : Int)).toNat = m from rfl, hz, decide_eq_true (show (0 : Int) < k by omega), Bool.and_true]
      exact a
    have hw : (m : Int) ∈ numS (wantS 0 S (lackM (haveR 0 R) (haveR 0 S) k)) := by
      rw [mem_numS, wantS_has hS (by omega) (by omega), hm]
      simp only [Bool.and_eq_true] at a
      rw [a.1]; rfl
    unfold giveS
    rw [List.length_map, List.length_take]
    have := List.length_pos_of_mem hw
    omega
  unfold stepR takeP
  generalize hG : giveS 0 S (lackM (haveR 0 R) (haveR 0 S) k) k = G at *
  obtain ⟨f1, f2, f3, f4⟩ := hf
  refine ⟨f1, f2, f3, fun m hm => ?_, fun n h1 h2 => ?_⟩
  · rcases f4 m hm with e | ⟨x, hx, rfl⟩
    · exact Or.inl e
    · obtain ⟨i, hi, rfl⟩ := List.mem_iff_getElem.1 hx
      exact Or.inr (hin i hi).1
  · have hp := hne n h1 h2
    obtain ⟨a1, a2⟩ := hin 0 hp
    obtain ⟨_, _, a3, a4, a5, _⟩ := hat 0 hp
    refine ⟨G[0].n, a1, a2, ?_⟩
    clear f1 f2 f3 f4 hne hin hat
    match G, hp with
    | x :: r, _ =>
      simp only [List.getElem_cons_zero] at a1 a2 a3 a4 a5 ⊢
      have hg := getM_tx xS 0 x.n
      rw [a3] at hg
      have e : putE 0 (hasR 0 R x.n) x.n x.g = 0 := by
        unfold putE
        rw [if_neg (by omega), if_neg (by omega), a2, if_neg (by simp), if_neg (by omega)]
      have hh : hasR 0 (tkP 0 1000 (R, 0) x).1 x.n = true := by
        rw [tkP_has (s := (R, 0)) hR (by omega)]
        show (hasR 0 R x.n || (decide (x.n ≤ 1000) && decide (putE 0 (hasR 0 R x.n) x.n x.g = 0) && decide (x.n = x.n))) = true
        rw [e, decide_eq_true (show x.n ≤ 1000 by omega)]; simp
      rw [List.foldl_cons]
      exact (tk_fold (Int.le_refl 0) r _ (tkP_ri (s := (R, 0)) hR x) (tkP_tx (s := (R, 0)) xR x)).2.2.1 _ hh

theorem cnt_mono {p q : Int → Bool} (N : Nat) (h : ∀ n : Nat, n < N → p n = true → q n = true) : cnt p N ≤ cnt q N := by
  induction N with
  | zero => exact Int.le_refl _
  | succ n ih =>
    simp only [cnt]
    have := ih fun m hm => h m (by omega)
    have hn := h n (by omega)
    split
    · rename_i hp
      rw [if_pos (hn hp)]; omega
    · split <;> omega
theorem cnt_less {p q : Int → Bool} (N : Nat) (h : ∀ n : Nat, n < N → p n = true → q n = true) {m : Nat} (hm : m < N) (hq : q m = true) (hp : p m = false) : cnt p N < cnt q N := by
  induction N with
  | zero => omega
  | succ n ih =>
    simp only [cnt]
    by_cases e : m = n
    · subst e
      rw [hq, hp, if_neg (by simp), if_pos rfl]
      have := cnt_mono m fun j hj => h j (by omega)
      omega
    · have := ih (fun j hj => h j (by omega)) (by omega)
      have hn := h n (by omega)
      split
      · rename_i hp
        rw [if_pos (hn hp)]; omega
      · split <;> omega

/-- What both had, and R has not. -/
def dif (A B R : Rng) : Int := cnt (fun n => (hasR 0 A n || hasR 0 B n) && !hasR 0 R n) 65
/-- Both, behind some rounds. -/
structure Md (A B : Rng) (i : Nat) (R S : Rng) : Prop where
  ri : RI 0 R
  rj : RI 0 S
  tx : Tx R
  ty : Tx S
  un : ∀ n, (hasR 0 R n || hasR 0 S n) = (hasR 0 A n || hasR 0 B n)
  dr : dif A B R ≤ 65 - i ∨ dif A B R = 0
  ds : dif A B S ≤ 65 - i ∨ dif A B S = 0
theorem dif_nonneg (A B R : Rng) : 0 ≤ dif A B R := cnt_nonneg _ _
theorem Md.start {A B : Rng} (h1 : RI 0 A) (h2 : RI 0 B) (h3 : Tx A) (h4 : Tx B) : Md A B 0 A B :=
  ⟨h1, h2, h3, h4, fun _ => rfl, Or.inl (cnt_le _ _), Or.inl (cnt_le _ _)⟩
theorem dif_step {A B R S R' : Rng} {i : Nat} (hS : RI 0 S) (un : ∀ n, (hasR 0 R n || hasR 0 S n) = (hasR 0 A n || hasR 0 B n)) (h1 : ∀ m, hasR 0 R m = true → hasR 0 R' m = true)
    (h2 : ∀ n, hasR 0 S n = true → hasR 0 R n = false → ∃ m, hasR 0 S m = true ∧ hasR 0 R m = false ∧ hasR 0 R' m = true) (hd : dif A B R ≤ 65 - i ∨ dif A B R = 0) : dif A B R' ≤ 65 - (i + 1 : Nat) ∨ dif A B R' = 0 := by
  have hs : ∀ n : Nat, n < 65 → ((hasR 0 A n || hasR 0 B n) && !hasR 0 R' n) = true → ((hasR 0 A n || hasR 0 B n) && !hasR 0 R n) = true := by
    intro n _ h
    simp only [Bool.and_eq_true, Bool.not_eq_true'] at h ⊢
    refine ⟨h.1, ?_⟩
    cases e : hasR 0 R n
    · rfl
    · rw [h1 _ e] at h; cases h.2
  have hm : dif A B R' ≤ dif A B R := cnt_mono 65 hs
  have h0 := dif_nonneg A B R'
  by_cases hz : dif A B R = 0
  · exact Or.inr (by omega)
  · by_cases hx : ∃ n : Nat, n < 65 ∧ ((hasR 0 A n || hasR 0 B n) && !hasR 0 R n) = true
    · obtain ⟨n, hn, hx⟩ := hx
      simp only [Bool.and_eq_true, Bool.not_eq_true'] at hx
      obtain ⟨hx1, hx2⟩ := hx
      rw [← un, hx2, Bool.false_or] at hx1
      obtain ⟨m, a, b, c⟩ := h2 n hx1 hx2
      have hb := hS.has (by omega) a
      have hq : dif A B R' < dif A B R := by
        refine cnt_less 65 hs (m := m.toNat) (by omega) ?_ ?_
        · show ((hasR 0 A (m.toNat : Int) || hasR 0 B (m.toNat : Int)) && !hasR 0 R (m.toNat : Int)) = true
          rw [show (m.toNat : Int) = m by omega, ← un, a, b]; rfl
        · show ((hasR 0 A (m.toNat : Int) || hasR 0 B (m.toNat : Int)) && !hasR 0 R' (m.toNat : Int)) = false
          rw [show (m.toNat : Int) = m by omega, c]; simp
      rcases hd with hd | hd
      · exact Or.inl (by omega)
      · exact absurd hd hz
    · refine absurd (cnt_none (p := fun n => (hasR 0 A n || hasR 0 B n) && !hasR 0 R n) 65 fun n hn => ?_) hz
      cases e : ((hasR 0 A n || hasR 0 B n) && !hasR 0 R n)
      · rfl
      · exact absurd ⟨n, hn, e⟩ hx
theorem Md.step {A B R S : Rng} {i : Nat} {k : Int} (h : Md A B i R S) (k1 : 1 ≤ k) : Md A B (i + 1) (stepR k R S) (stepR k S (stepR k R S)) := by
  obtain ⟨a1, a2, a3, a4, a5⟩ := stepR_ok h.ri h.rj h.tx h.ty k1
  have un1 : ∀ n, (hasR 0 (stepR k R S) n || hasR 0 S n) = (hasR 0 A n || hasR 0 B n) := fun n => by
    rw [← h.un]
    cases e : hasR 0 S n
    · cases e1 : hasR 0 R n
      · cases e2 : hasR 0 (stepR k R S) n
        · rfl
        · rcases a4 n e2 with x | x
          · rw [e1] at x; cases x
          · rw [e] at x; cases x
      · rw [a3 n e1]
    · simp
  obtain ⟨b1, b2, b3, b4, b5⟩ := stepR_ok h.rj a1 h.ty a2 k1
  have un2 : ∀ n, (hasR 0 S n || hasR 0 (stepR k R S) n) = (hasR 0 A n || hasR 0 B n) := fun n => by rw [Bool.or_comm]; exact un1 n
  refine ⟨a1, b1, a2, b2, fun n => ?_, dif_step h.rj h.un a3 a5 h.dr, dif_step a1 un2 b3 b5 h.ds⟩
  rw [← un1]
  cases e : hasR 0 (stepR k R S) n
  · cases e1 : hasR 0 S n
    · cases e2 : hasR 0 (stepR k S (stepR k R S)) n
      · rfl
      · rcases b4 n e2 with x | x
        · rw [e1] at x; cases x
        · rw [e] at x; cases x
    · rw [b3 n e1]
  · simp
theorem dif_done {A B R : Rng} (hA : RI 0 A) (hB : RI 0 B) (hR : RI 0 R) (h0 : dif A B R = 0) (h1 : ∀ n, hasR 0 R n = true → (hasR 0 A n || hasR 0 B n) = true) : haveR 0 R = joinS (haveR 0 A) (haveR 0 B) := by
  refine uniq _ _ 0 (have0_up R) (joinS_up (have0_up A) (have0_up B)) fun n => ?_
  rw [have0 hR, joinS_has (have0_up A) (have0_up B), have0 hA, have0 hB]
  cases e : hasR 0 R n
  · cases e1 : (hasR 0 A n || hasR 0 B n)
    · rfl
    · have hb : 0 < n ∧ n ≤ 0 + 64 := by
        rw [Bool.or_eq_true] at e1
        rcases e1 with e1 | e1
        · exact hA.has (by omega) e1
        · exact hB.has (by omega) e1
      have := cnt_less (p := fun _ => false) (q := fun n => (hasR 0 A n || hasR 0 B n) && !hasR 0 R n) 65 (fun _ _ h => by cases h) (m := n.toNat) (by omega) (by
        show ((hasR 0 A (n.toNat : Int) || hasR 0 B (n.toNat : Int)) && !hasR 0 R (n.toNat : Int)) = true
        rw [show (n.toNat : Int) = n by omega, e, e1]; rfl) rfl
      have hz : cnt (fun _ => false) 65 = 0 := cnt_none 65 fun _ _ => rfl
      unfold dif at h0
      omega
  · exact (h1 n e).symm
theorem Md.done {A B R S : Rng} {i : Nat} (hA : RI 0 A) (hB : RI 0 B) (h : Md A B i R S) (hi : 65 ≤ i) : haveR 0 R = joinS (haveR 0 A) (haveR 0 B) ∧ haveR 0 S = joinS (haveR 0 A) (haveR 0 B) := by
  have d1 := dif_nonneg A B R
  have d2 := dif_nonneg A B S
  refine ⟨dif_done hA hB h.ri (by rcases h.dr with x | x <;> omega) fun n hn => ?_, dif_done hA hB h.rj (by rcases h.ds with x | x <;> omega) fun n hn => ?_⟩
  · rw [← h.un, hn]; rfl
  · rw [← h.un, hn, Bool.or_true]
end Go.Proofs.Ytlbeincgknmijaa
