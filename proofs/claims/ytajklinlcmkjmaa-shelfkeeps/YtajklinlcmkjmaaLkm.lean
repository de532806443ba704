/-
  ShelfKeeps' mathematics: what was put, and what is there of it.
-/
import Derived.Test.YtajklinlcmkjmaaMpm
import Derived.Test.YtajklinlcmkjmaaLar
namespace Go.Proofs.Ytajklinlcmkjmaa
open Go.RowKit

structure Kp (low : Int) (R : Rng) (f : Int → Option Ms) (n i : Nat) : Prop where
  ri : RI low R
  l0 : 0 ≤ low
  n1 : n ≤ i
  m1 : ∀ x g, f x = some g → 1 ≤ x ∧ x ≤ low + 64 ∧ (x ≤ low ∨ hasR low R x = true ∧ (R (x % 64).toNat).g = g)
  m2 : ∀ x, hasR low R x = true → (f x).isSome = true
theorem Kp.zero : Kp 0 R0 (fun _ => none) 0 0 := ⟨RI0, by omega, by omega, fun x g h => (by cases h), fun x h => by rw [has_R0] at h; cases h⟩
section
variable {low : Int} {R : Rng} {f : Int → Option Ms} {n i : Nat}
theorem Kp.there (h : Kp low R f n i) {x : Int} (hx : low < x) : (f x).isSome = hasR low R x := by
  cases e : f x with
  | none =>
    cases hh : hasR low R x
    · rfl
    · have := h.m2 x hh; rw [e] at this; cases this
  | some g =>
    obtain ⟨_, _, a | a⟩ := h.m1 x g e
    · omega
    · rw [a.1]; rfl
theorem Kp.skip (h : Kp low R f n i) : Kp low R f n (i + 1) := ⟨h.ri, h.l0, by have := h.n1; omega, h.m1, h.m2⟩
theorem Kp.putE (h : Kp low R f n i) {x : Int} {g : Ms} (hg : (g.x.size : Int) = 0) (hx : low < x) (hx1 : x < 18446744073709551615) : putE low (hasR low R x) x g = if hasR low R x = true then 4 else if 64 < x - low then 2 else 0 := by
  have := h.l0
  unfold Go.Proofs.Ytajklinlcmkjmaa.putE
  rw [hg, if_neg (by omega), if_neg (by omega)]
theorem Kp.putR (h : Kp low R f n i) {x : Int} {g : Ms} (hg : (g.x.size : Int) = 0) (hx : low < x) (hx1 : x < 18446744073709551615) : putR low R x g = if hasR low R x = false ∧ x - low ≤ 64 then R.set (x % 64).toNat ⟨x, g⟩ else R := by
  unfold Go.Proofs.Ytajklinlcmkjmaa.putR
  rw [h.putE hg hx hx1]
  cases hh : hasR low R x
  · by_cases a : 64 < x - low
    · have b : ¬ x - low ≤ 64 := by omega
      simp [a, b]
    · have b : x - low ≤ 64 := by omega
      simp [a, b]
  · simp
theorem Kp.put (h : Kp low R f n i) {x : Int} {g : Ms} (hx : low < x) (hx2 : x ≤ low + 64) (hn : hasR low R x = false) : Kp low (R.set (x % 64).toNat ⟨x, g⟩) (setF f x g) (n + 1) (i + 1) := by
  have l0 := h.l0
  have hh := put_has h.ri g hx hx2 l0 hn
  refine ⟨h.ri.put g hx hx2, l0, by have := h.n1; omega, fun y u hy => ?_, fun y hy => ?_⟩
  · unfold setF at hy
    by_cases e : y = x
    · subst e
      rw [if_pos rfl] at hy
      cases hy
      exact ⟨by omega, by omega, Or.inr ⟨by rw [hh]; simp, by rw [Rng.set_same]⟩⟩
    · rw [if_neg e] at hy
      obtain ⟨a, b, c⟩ := h.m1 y u hy
      refine ⟨a, b, ?_⟩
      rcases c with c | ⟨c, d⟩
      · exact Or.inl c
      · refine Or.inr ⟨by rw [hh, c, Bool.or_true], ?_⟩
        have hs : (y % 64).toNat ≠ (x % 64).toNat := fun e2 => by
          have := h.ri.has l0 c
          omega
        rw [Rng.set_other _ _ hs]
        exact d
  · rw [hh, Bool.or_eq_true, decide_eq_true_eq] at hy
    unfold setF
    rcases hy with rfl | hy
    · rw [if_pos rfl]; rfl
    · split
      · rfl
      · exact h.m2 y hy
theorem Kp.trim (h : Kp low R f n i) {k : Int} (hk : k ≤ reachR low R) : Kp (max low k) (trimR R k) f n i := by
  have l0 := h.l0
  have h64 := reachR_le low R
  have ht : ∀ m, hasR (max low k) (trimR R k) m = (decide (k < m) && hasR low R m) := fun m => trim_has l0 m
  refine ⟨h.ri.trim (by omega), by omega, h.n1, fun x g hx => ?_, fun x hx => ?_⟩
  · obtain ⟨a, b, c⟩ := h.m1 x g hx
    refine ⟨a, by omega, ?_⟩
    rcases c with c | ⟨c, d⟩
    · exact Or.inl (by omega)
    · by_cases e : x ≤ max low k
      · exact Or.inl e
      · refine Or.inr ⟨by rw [ht, c, decide_eq_true (show k < x by omega)]; rfl, ?_⟩
        have hn : (R (x % 64).toNat).n = x := by unfold hasR at c; simp only [Bool.and_eq_true, decide_eq_true_eq] at c; exact c.2
        rw [trim_get (by omega) hn]
        exact d
  · rw [ht, Bool.and_eq_true] at hx
    exact h.m2 x hx.2
theorem Kp.get (h : Kp low R f n i) {x : Int} {g : Ms} (hx : f x = some g) : 1 ≤ x ∧ x ≤ low + 64 ∧ (x ≤ low ∧ getE low (hasR low R x) x = 70 ∨ low < x ∧ getE low (hasR low R x) x = 0 ∧ getM low R x = g) := by
  obtain ⟨a, b, c⟩ := h.m1 x g hx
  refine ⟨a, b, ?_⟩
  by_cases e : x ≤ low
  · exact Or.inl ⟨e, by unfold getE; rw [if_pos ⟨by omega, e⟩]⟩
  · rcases c with c | ⟨c, d⟩
    · exact absurd c e
    · have e0 : getE low (hasR low R x) x = 0 := by unfold getE; rw [if_neg (by omega), c]; rfl
      exact Or.inr ⟨by omega, e0, by unfold getM; rw [if_pos e0]; exact d⟩
end
end Go.Proofs.Ytajklinlcmkjmaa
