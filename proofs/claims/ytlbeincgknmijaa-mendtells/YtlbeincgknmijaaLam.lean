/-
  The first numbers of some spans, number by number. No program is known here.
-/
import Derived.Test.YtlbeincgknmijaaMth
import Derived.Test.YtlbeincgknmijaaWlk
namespace Go.Proofs.Ytlbeincgknmijaa

theorem cnt_nonneg (p : Int → Bool) (N : Nat) : 0 ≤ cnt p N := by
  induction N with
  | zero => simp [cnt]
  | succ n ih => simp only [cnt]; split <;> omega
theorem cnt_le (p : Int → Bool) (N : Nat) : cnt p N ≤ N := by
  induction N with
  | zero => simp [cnt]
  | succ n ih => simp only [cnt]; split <;> omega

theorem firstS_at (l : List Sn) : ∀ {lo n m : Int}, 0 ≤ lo → 0 ≤ m → Up lo l → hasS (firstS l n) m = (hasS l m && decide (cnt (hasS l) m.toNat < n)) := by
  induction l with
  | nil => intro lo n m h0 h1 h; simp [firstS, hasS_nil]
  | cons s r ih =>
    intro lo n m h0 h1 h
    obtain ⟨u1, u2, u3, u4⟩ := h
    have hc := cnt_nonneg (hasS (s :: r)) m.toNat
    by_cases hn : n ≤ 0
    · rw [firstS_zero _ hn, hasS_nil, decide_eq_false (by omega), Bool.and_false]
    · have hi := @ih _ (n - (min (n - 1) (s.t - s.f) + 1)) m (by omega : 0 ≤ s.t + 2) h1 u4
      simp only [firstS]
      rw [if_neg hn, hasS_cons, hi, hasS_cons]
      have hsplit : cnt (hasS (s :: r)) m.toNat = cnt (fun x => decide (s.f ≤ x) && decide (x ≤ s.t)) m.toNat + cnt (hasS r) m.toNat := by
        refine cnt_or m.toNat fun x _ hx => ?_
        simp only [Bool.and_eq_true, decide_eq_true_eq] at hx
        exact u4.not (by omega)
      have hr0 := cnt_nonneg (hasS r) m.toNat
      rw [hsplit, cnt_run s.f s.t (by omega) u2]
      dsimp only
      by_cases a : m < s.f
      · rw [u4.not (by omega : m < s.t + 2)]
        rw [decide_eq_false (show ¬ s.f ≤ m by omega)]
        simp
      · by_cases b : m ≤ s.t
        · rw [u4.not (by omega : m < s.t + 2)]
          have hz : cnt (hasS r) m.toNat = 0 := cnt_none _ fun k hk => u4.not (by omega)
          rw [hz, decide_eq_true (show s.f ≤ m by omega), decide_eq_true b]
          simp only [Bool.false_and, Bool.or_false, Bool.true_and, Int.add_zero]
          have hs : (if (m.toNat : Int) ≤ s.f then (0 : Int) else if (m.toNat : Int) ≤ s.t + 1 then (m.toNat : Int) - s.f else s.t - s.f + 1) = m - s.f := by
            split
            · omega
            · rw [if_pos (by omega)]; omega
          rw [hs]
          have hq : (m ≤ s.f + min (n - 1) (s.t - s.f)) ↔ (m - s.f < n) := by omega
          rw [decide_eq_decide]
          exact hq
        · rw [decide_eq_false b, decide_eq_false (show ¬ m ≤ s.f + min (n - 1) (s.t - s.f) by omega)]
          simp only [Bool.and_false, Bool.false_or]
          have hs : (if (m.toNat : Int) ≤ s.f then (0 : Int) else if (m.toNat : Int) ≤ s.t + 1 then (m.toNat : Int) - s.f else s.t - s.f + 1) = s.t - s.f + 1 := by
            rw [if_neg (by omega)]
            split
            · omega
            · rfl
          rw [hs]
          congr 1
          rw [decide_eq_decide]
          omega

/-- The spans of some numbers, one by one. -/
def jnS (l : List Int) : List Sn := l.foldl (fun o x => joinS o [⟨x, x⟩]) []
theorem jnS_take {l : List Int} {k : Nat} (h : k < l.length) : jnS (l.take (k + 1)) = joinS (jnS (l.take k)) [⟨l[k], l[k]⟩] := by
  unfold jnS
  rw [List.take_succ_eq_append_getElem h, List.foldl_append]; rfl
theorem jnS_ok (l : List Int) (hb : ∀ x ∈ l, 0 ≤ x ∧ x ≤ 255) : Up 0 (jnS l) ∧ (jnS l).length ≤ l.length := by
  have : ∀ k, k ≤ l.length → Up 0 (jnS (l.take k)) ∧ (jnS (l.take k)).length ≤ k := by
    intro k
    induction k with
    | zero => intro _; exact ⟨trivial, by simp [jnS]⟩
    | succ k ih =>
      intro hk
      obtain ⟨h1, h2⟩ := ih (by omega)
      have hx := hb _ (List.getElem_mem (show k < l.length by omega))
      rw [jnS_take (by omega)]
      have ho := one_up (n := l[k]) hx.1 (by omega)
      exact ⟨joinS_up h1 ho, by have := joinS_len h1 ho; simp at this; omega⟩
  have := this l.length (Nat.le_refl _)
  rwa [List.take_length] at this
end Go.Proofs.Ytlbeincgknmijaa
