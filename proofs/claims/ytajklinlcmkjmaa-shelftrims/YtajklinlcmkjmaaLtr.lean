/-
  ShelfTrims: up to what is reached a shelf is trimmed.
-/
import Derived.Test.YtajklinlcmkjmaaLar
namespace Go.Proofs.Ytajklinlcmkjmaa
open Go.RowKit

/-- There are the messages behind low, up to n, each with its number. -/
structure St (low : Int) (R : Rng) (n : Int) : Prop where
  ri : RI low R
  l0 : 0 ≤ low
  le : low ≤ n
  has : ∀ m, hasR low R m = decide (low < m ∧ m ≤ n)
  msg : ∀ m, hasR low R m = true → (R (m % 64).toNat).g.m = m
theorem St.zero : St 0 R0 0 := ⟨RI0, by omega, by omega, fun m => by rw [has_R0, decide_eq_false (by omega)], fun m h => by rw [has_R0] at h; cases h⟩
theorem St.put {R : Rng} {k : Int} (h : St 0 R k) (hk : k < 64) :
    putE 0 (hasR 0 R (k + 1)) (k + 1) ⟨0, k + 1, ⟨#[]⟩⟩ = 0 ∧ St 0 (putR 0 R (k + 1) ⟨0, k + 1, ⟨#[]⟩⟩) (k + 1) := by
  have hle := h.le
  have hn : hasR 0 R (k + 1) = false := by rw [h.has, decide_eq_false (by omega)]
  have e : putE 0 (hasR 0 R (k + 1)) (k + 1) ⟨0, k + 1, ⟨#[]⟩⟩ = 0 := by
    rw [hn]
    unfold putE
    have hs : ((⟨#[]⟩ : ByteArray).size : Int) = 0 := rfl
    dsimp only
    rw [hs, if_neg (by omega), if_neg (by omega), if_neg (by simp), if_neg (by omega)]
  refine ⟨e, ?_⟩
  unfold putR
  rw [if_pos e]
  have hh := put_has h.ri (⟨0, k + 1, ⟨#[]⟩⟩ : Ms) (show (0 : Int) < k + 1 by omega) (by omega) (by omega) hn
  refine ⟨h.ri.put _ (by omega) (by omega), by omega, by omega, fun m => ?_, fun m hm => ?_⟩
  · rw [hh, h.has]
    by_cases e : m = k + 1
    · rw [decide_eq_true e, decide_eq_true (show 0 < m ∧ m ≤ k + 1 by omega)]; rfl
    · rw [decide_eq_false e, Bool.false_or]
      by_cases a : 0 < m ∧ m ≤ k
      · rw [decide_eq_true a, decide_eq_true (by omega)]
      · rw [decide_eq_false a, decide_eq_false (by omega)]
  · by_cases e : (m % 64).toNat = ((k + 1) % 64).toNat
    · rw [e, Rng.set_same]
      show k + 1 = m
      rw [hh] at hm
      rw [h.has] at hm
      simp only [Bool.or_eq_true, decide_eq_true_eq] at hm
      omega
    · rw [Rng.set_other _ _ e]
      rw [hh, Bool.or_eq_true, decide_eq_true_eq] at hm
      rcases hm with hm | hm
      · subst hm; exact absurd rfl e
      · exact h.msg m hm
theorem St.reach {low : Int} {R : Rng} {n : Int} (h : St low R n) : reachR low R = n := by
  refine reachR_only h.ri h.l0 h.le (fun m a b => ?_) ?_
  · rw [h.has, decide_eq_true ⟨a, b⟩]
  · rw [h.has, decide_eq_false (by omega)]
theorem St.trim {R : Rng} {n k : Int} (h : St 0 R n) (k0 : 0 ≤ k) (hk : k ≤ n) : St k (trimR R k) n := by
  have hm : max 0 k = k := by omega
  have ht := fun m => trim_has (low := 0) (R := R) (to := k) (by omega) m
  rw [hm] at ht
  have hr := h.ri.trim (to := k) (by have := reachR_le 0 R; rw [h.reach] at this; omega)
  rw [hm] at hr
  refine ⟨hr, k0, hk, fun m => ?_, fun m hh => ?_⟩
  · rw [ht, h.has]
    by_cases a : k < m
    · rw [decide_eq_true a, Bool.true_and]
      by_cases b : m ≤ n
      · rw [decide_eq_true (by omega), decide_eq_true (by omega)]
      · rw [decide_eq_false (by omega), decide_eq_false (by omega)]
    · rw [decide_eq_false a, Bool.false_and, decide_eq_false (by omega)]
  · rw [ht] at hh
    simp only [Bool.and_eq_true, decide_eq_true_eq] at hh
    have hb := hh.2
    unfold hasR at hb
    simp only [Bool.and_eq_true, decide_eq_true_eq] at hb
    rw [trim_get (by omega) (by omega)]
    exact h.msg m hh.2
/-- What Get answers there. -/
theorem St.get {low : Int} {R : Rng} {n i : Int} (h : St low R n) (i0 : 1 ≤ i) (i1 : i ≤ n) : getE low (hasR low R i) i = (if i ≤ low then 70 else 0) ∧ (low < i → (getM low R i).m = i) := by
  by_cases a : i ≤ low
  · rw [if_pos a]
    exact ⟨by unfold getE; rw [if_pos ⟨by omega, a⟩], fun b => by omega⟩
  · rw [if_neg a]
    have hh : hasR low R i = true := by rw [h.has, decide_eq_true (by omega)]
    have e : getE low (hasR low R i) i = 0 := by unfold getE; rw [if_neg (by omega), hh]; rfl
    exact ⟨e, fun _ => by unfold getM; rw [if_pos e]; exact h.msg i hh⟩
/-- What the last two Puts answer. -/
theorem St.full {low : Int} {R : Rng} {n : Int} (h : St low R n) (hl : low ≤ 1000) : putE low (hasR low R (low + 64 + 1)) (low + 64 + 1) zM = 2 := by
  have l0 := h.l0
  have hn : hasR low R (low + 64 + 1) = false := by
    cases hh : hasR low R (low + 64 + 1)
    · rfl
    · have := h.ri.has l0 hh; omega
  rw [hn]
  unfold putE
  have hs : (zM.x.size : Int) = 0 := rfl
  rw [hs, if_neg (by omega), if_neg (by omega), if_neg (by simp), if_pos (by omega)]
theorem St.last {low : Int} {R : Rng} {n : Int} (h : St low R n) (hl : low ≤ 1000) : putE low (hasR low R (low + 64)) (low + 64) zM = (if n < low + 64 then 0 else 4) ∧ n ≤ reachR low (putR low R (low + 64) zM) := by
  have l0 := h.l0
  have hs : (zM.x.size : Int) = 0 := rfl
  by_cases a : n < low + 64
  · have hn : hasR low R (low + 64) = false := by rw [h.has, decide_eq_false (by omega)]
    have e : putE low (hasR low R (low + 64)) (low + 64) zM = 0 := by
      rw [hn]
      unfold putE
      rw [hs, if_neg (by omega), if_neg (by omega), if_neg (by simp), if_neg (by omega)]
    rw [if_pos a]
    refine ⟨e, ?_⟩
    unfold putR
    rw [if_pos e]
    have := put_reach h.ri zM (n := low + 64) (by omega) (by omega) l0 hn
    rw [h.reach] at this
    exact this
  · have hn : hasR low R (low + 64) = true := by rw [h.has, decide_eq_true (by omega)]
    have e : putE low (hasR low R (low + 64)) (low + 64) zM = 4 := by
      rw [hn]
      unfold putE
      rw [hs, if_neg (by omega), if_neg (by omega), if_pos rfl]
    rw [if_neg a]
    refine ⟨e, ?_⟩
    unfold putR
    rw [e, if_neg (by decide), h.reach]
    omega
end Go.Proofs.Ytajklinlcmkjmaa
