/-
  A shelf and the reference's, alike.
-/
import Derived.Test.YtlbeincgknmijaaRfk
namespace Go.Proofs.Ytlbeincgknmijaa
open Go.RowKit

structure Cp (low : Int) (R : Rng) (L : List Pl) : Prop where
  ri : RI low R
  l0 : 0 ≤ low
  tr : ∀ x ∈ L, hasR low R x.n = true ∧ (R (x.n % 64).toNat).g = x.g
  fr : ∀ n, hasR low R n = true → ∃ x ∈ L, x.n = n
theorem Cp.zero : Cp 0 (fun _ => zP) [] := ⟨RI.zero, Int.le_refl _, fun x hx => (by cases hx), fun n hn => by
  simp only [hasR, Bool.and_eq_true, decide_eq_true_eq] at hn
  have h : (0 : Int) = n := hn.2
  omega⟩
section
variable {low : Int} {R : Rng} {L : List Pl}
theorem Cp.has (h : Cp low R L) (n : Int) : hasL L n = hasR low R n := by
  rw [Bool.eq_iff_iff, hasL_iff]
  constructor
  · rintro ⟨x, hx, rfl⟩
    exact (h.tr x hx).1
  · exact h.fr n
theorem Cp.nm (h : Cp low R L) (l1 : low ≤ 1000000) : Nm L := fun x hx => by
  have := h.ri.has h.l0 (h.tr x hx).1
  have := h.l0
  omega
theorem Cp.have (h : Cp low R L) (l1 : low ≤ 1000000) : haveL low L = haveR low R := by
  obtain ⟨h1, _, h3⟩ := haveL_ok h.l0 l1 (h.nm l1)
  refine uniq _ _ 0 h1 (haveR_up h.l0 l1) fun m => ?_
  rw [h3, haveR_has h.ri h.l0 l1, h.has]
theorem Cp.reach (h : Cp low R L) (l1 : low ≤ 1000000) : reachM (haveL low L) 0 = reachR low R := by
  rw [h.have l1]
  have hu := haveR_up (R := R) h.l0 l1
  have hh := haveR_has h.ri h.l0 l1
  unfold reachM
  rw [(mayS_iff _).2 hu, if_pos rfl]
  have hge := reachS_ge (haveR low R) 0
  have hn := reachS_next (n := 0) hu
  have ha : ∀ i, 0 < i → i ≤ reachS (haveR low R) 0 → hasS (haveR low R) i = true := fun i => reachS_all
  generalize reachS (haveR low R) 0 = r at *
  have hl : low ≤ r := by
    by_cases a : low ≤ r
    · exact a
    · rw [hh, decide_eq_true (show 1 ≤ r + 1 ∧ r + 1 ≤ low by omega)] at hn
      simp at hn
  symm
  refine reachR_only h.ri h.l0 hl (fun n a b => ?_) ?_
  · have := ha n (by have := h.l0; omega) b
    rw [hh, decide_eq_false (by omega), Bool.false_or] at this
    exact this
  · rw [hh, Bool.or_eq_false_iff] at hn
    exact hn.2
theorem putE_zero {has : Bool} {n : Int} {g : Ms} (h : putE low has n g = 0) : has = false ∧ low < n ∧ n ≤ low + 64 := by
  unfold putE at h
  split at h
  · cases h
  · split at h
    · cases h
    · split at h
      · cases h
      · split at h
        · cases h
        · refine ⟨?_, by omega, by omega⟩
          cases has
          · rfl
          · rename_i hn; exact absurd rfl (by assumption)
theorem Cp.put (h : Cp low R L) (n : Int) (g : Ms) : Cp low (putR low R n g) (putL low L n g) := by
  unfold putR putL
  rw [h.has]
  by_cases e : putE low (hasR low R n) n g = 0
  · rw [if_pos e, if_pos e]
    obtain ⟨hn, a, b⟩ := putE_zero e
    have hh := put_has h.ri g a b h.l0 hn
    refine ⟨h.ri.put g a b, h.l0, fun x hx => ?_, fun m hm => ?_⟩
    · rcases List.mem_append.1 hx with hx | hx
      · have hx1 := h.tr x hx
        have hne : x.n ≠ n := fun e => by rw [e, hn] at hx1; cases hx1.1
        refine ⟨by rw [hh, hx1.1, Bool.or_true], ?_⟩
        have hs : (x.n % 64).toNat ≠ (n % 64).toNat := fun e => by
          have k := h.ri.has h.l0 hx1.1
          have := h.l0
          omega
        rw [Rng.set_other _ _ hs]
        exact hx1.2
      · rw [List.mem_singleton] at hx
        subst hx
        exact ⟨by rw [hh]; simp, by rw [Rng.set_same]⟩
    · rw [hh, Bool.or_eq_true, decide_eq_true_eq] at hm
      rcases hm with rfl | hm
      · exact ⟨_, List.mem_append_right _ (List.mem_singleton_self _), rfl⟩
      · obtain ⟨x, hx, e⟩ := h.fr m hm
        exact ⟨x, List.mem_append_left _ hx, e⟩
  · rw [if_neg e, if_neg e]; exact h
theorem Cp.get (h : Cp low R L) {n : Int} {g : Ms} (h1 : getE low (hasL L n) n ≠ 0 → g = zM) (h2 : getE low (hasL L n) n = 0 → ∃ x ∈ L, x.n = n ∧ x.g = g) : g = getM low R n := by
  rw [h.has] at h1 h2
  unfold getM
  by_cases e : getE low (hasR low R n) n = 0
  · rw [if_pos e]
    obtain ⟨x, hx, rfl, rfl⟩ := h2 e
    exact (h.tr x hx).2.symm
  · rw [if_neg e]; exact h1 e
theorem Cp.trim (h : Cp low R L) {k : Int} (hk : k ≤ reachR low R) (hk0 : low < k) : Cp (max low k) (trimR R k) (trimL L k) := by
  have hl := h.l0
  have h64 := reachR_le low R
  have ht : ∀ m, hasR (max low k) (trimR R k) m = (decide (k < m) && hasR low R m) := fun m => trim_has hl m
  refine ⟨h.ri.trim (by omega), by omega, fun x hx => ?_, fun m hm => ?_⟩
  · unfold trimL at hx
    rw [List.mem_filter, decide_eq_true_eq] at hx
    obtain ⟨a, b⟩ := h.tr x hx.1
    refine ⟨by rw [ht, decide_eq_true hx.2, a]; rfl, ?_⟩
    have hn : (R (x.n % 64).toNat).n = x.n := by unfold hasR at a; simp only [Bool.and_eq_true, decide_eq_true_eq] at a; exact a.2
    rw [trim_get hx.2 hn]
    exact b
  · rw [ht, Bool.and_eq_true, decide_eq_true_eq] at hm
    obtain ⟨x, hx, e⟩ := h.fr m hm.2
    exact ⟨x, by unfold trimL; rw [List.mem_filter, decide_eq_true_eq]; exact ⟨hx, by omega⟩, e⟩
theorem Cp.trim0 (h : Cp low R L) {k : Int} (hk0 : k ≤ low) : Cp (max low k) (trimR R k) L := by
  have hl := h.l0
  have hm : max low k = low := by omega
  have ht : ∀ m, hasR (max low k) (trimR R k) m = (decide (k < m) && hasR low R m) := fun m => trim_has hl m
  have hr := h.ri.trim (show k ≤ low + 64 by omega)
  rw [hm] at ht hr ⊢
  have hh : ∀ m, hasR low (trimR R k) m = hasR low R m := fun m => by
    rw [ht]
    cases e : hasR low R m
    · simp
    · have := h.ri.has hl e
      rw [decide_eq_true (by omega)]; rfl
  refine ⟨hr, hl, fun x hx => ?_, fun m hm => ?_⟩
  · obtain ⟨a, b⟩ := h.tr x hx
    refine ⟨by rw [hh]; exact a, ?_⟩
    have hb := h.ri.has hl a
    have hn : (R (x.n % 64).toNat).n = x.n := by unfold hasR at a; simp only [Bool.and_eq_true, decide_eq_true_eq] at a; exact a.2
    rw [trim_get (by omega) hn]
    exact b
  · rw [hh] at hm
    exact h.fr m hm
end
end Go.Proofs.Ytlbeincgknmijaa
