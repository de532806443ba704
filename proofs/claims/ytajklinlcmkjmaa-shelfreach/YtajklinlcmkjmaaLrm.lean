/-
  ShelfReach's mathematics: a shelf of the numbers 1 to 64 but one.
-/
import Derived.Test.YtajklinlcmkjmaaLtr
namespace Go.Proofs.Ytajklinlcmkjmaa
open Go.RowKit

/-- Some of 1 to 64 but g, each with its number. -/
structure Gp (g : Int) (R : Rng) : Prop where
  ri : RI 0 R
  has : ∀ m, hasR 0 R m = true → 1 ≤ m ∧ m ≤ 64 ∧ m ≠ g
theorem Gp.zero (g : Int) : Gp g R0 := ⟨RI0, fun m h => by rw [has_R0] at h; cases h⟩
def gN (n : Int) : Ms := ⟨0, n, ⟨#[]⟩⟩
theorem gN_size (n : Int) : ((gN n).x.size : Int) = 0 := rfl
/-- A put of a number of 1 to 64: it is there behind it, and what was there is. -/
theorem put64 {R : Rng} (h : RI 0 R) {n : Int} (g : Ms) (hg : (g.x.size : Int) = 0) (n1 : 1 ≤ n) (n2 : n ≤ 64) : RI 0 (putR 0 R n g) ∧ (∀ m, hasR 0 (putR 0 R n g) m = (decide (m = n) || hasR 0 R m)) := by
  have e : putE 0 (hasR 0 R n) n g = if hasR 0 R n = true then 4 else 0 := by
    unfold putE
    rw [hg, if_neg (by omega), if_neg (by omega), if_neg (show ¬ 64 < n - 0 by omega)]
  unfold putR
  cases hh : hasR 0 R n
  · rw [hh] at e
    have e : putE 0 false n g = 0 := e
    rw [if_pos e]
    exact ⟨h.put g (by omega) (by omega), fun m => put_has h g (by omega) (by omega) (by omega) hh m⟩
  · rw [hh] at e
    have e : putE 0 true n g = 4 := e
    rw [e, if_neg (by decide)]
    refine ⟨h, fun m => ?_⟩
    by_cases e : m = n
    · subst e; rw [hh]; simp
    · rw [decide_eq_false e, Bool.false_or]
theorem Gp.put {g : Int} {R : Rng} (h : Gp g R) {n : Int} (n1 : 1 ≤ n) (n2 : n ≤ 64) (hn : n ≠ g) : Gp g (putR 0 R n (gN n)) := by
  obtain ⟨h1, h2⟩ := put64 h.ri (gN n) (gN_size n) n1 n2
  refine ⟨h1, fun m hm => ?_⟩
  rw [h2, Bool.or_eq_true, decide_eq_true_eq] at hm
  rcases hm with rfl | hm
  · exact ⟨n1, n2, hn⟩
  · exact h.has m hm
/-- All behind n are there. -/
def Ab (g : Int) (R : Rng) (n : Int) : Prop := ∀ m, n < m → m ≤ 64 → m ≠ g → hasR 0 R m = true
theorem Ab.put {g : Int} {R : Rng} {n : Int} (h : Gp g R) (ha : Ab g R n) (n1 : 1 ≤ n) (n2 : n ≤ 64) : Ab g (putR 0 R n (gN n)) (n - 1) := by
  obtain ⟨h1, h2⟩ := put64 h.ri (gN n) (gN_size n) n1 n2
  intro m a b c
  rw [h2]
  by_cases e : m = n
  · rw [decide_eq_true e]; rfl
  · rw [ha m (by omega) b c, Bool.or_true]
theorem Ab.skip {g : Int} {R : Rng} (ha : Ab g R g) : Ab g R (g - 1) := fun m a b c => ha m (by omega) b c
/-- How it ends. -/
theorem gap_end {g : Int} {R : Rng} (h : Gp g R) (ha : Ab g R 0) (g1 : 1 ≤ g) (g2 : g ≤ 64) :
    reachR 0 R = g - 1 ∧ putE 0 (hasR 0 R 65) 65 zM = 2 ∧ putE 0 (hasR 0 R g) g (gN g) = 0 ∧ reachR 0 (putR 0 R g (gN g)) = 64 ∧
    getE 0 (hasR 0 (putR 0 R g (gN g)) g) g = 0 ∧ (getM 0 (putR 0 R g (gN g)) g).m = g ∧ (haveR 0 (putR 0 R g (gN g))).length = 1 := by
  have hg : hasR 0 R g = false := by
    cases hh : hasR 0 R g
    · rfl
    · exact absurd rfl (h.has g hh).2.2
  obtain ⟨h1, h2⟩ := put64 h.ri (gN g) (gN_size g) g1 g2
  have h65 : ∀ {S : Rng}, RI 0 S → hasR 0 S 65 = false := fun {S} hS => by
    cases hh : hasR 0 S 65
    · rfl
    · have := hS.has (by omega) hh; omega
  have e0 : putE 0 (hasR 0 R g) g (gN g) = 0 := by
    rw [hg]; unfold putE
    rw [gN_size, if_neg (by omega), if_neg (by omega), if_neg (by simp), if_neg (by omega)]
  have hall : ∀ m, 0 < m → m ≤ 64 → hasR 0 (putR 0 R g (gN g)) m = true := fun m a b => by
    rw [h2]
    by_cases e : m = g
    · rw [decide_eq_true e]; rfl
    · rw [ha m a b e, Bool.or_true]
  have hge : getE 0 (hasR 0 (putR 0 R g (gN g)) g) g = 0 := by
    rw [hall g (by omega) g2]; unfold getE; rw [if_neg (by omega)]; rfl
  refine ⟨?_, ?_, e0, ?_, hge, ?_, ?_⟩
  · refine reachR_only h.ri (by omega) (by omega) (fun m a b => ha m a (by omega) (by omega)) ?_
    rw [show g - 1 + 1 = g by omega]; exact hg
  · rw [h65 h.ri]; unfold putE
    rw [show (zM.x.size : Int) = 0 from rfl, if_neg (by omega), if_neg (by omega), if_neg (by simp), if_pos (by omega)]
  · exact reachR_only h1 (by omega) (by omega) (fun m a b => hall m a b) (h65 h1)
  · unfold getM
    rw [if_pos hge]
    unfold putR
    rw [if_pos e0, Rng.set_same]
    rfl
  · have hu : haveR 0 (putR 0 R g (gN g)) = [⟨1, 64⟩] := by
      refine uniq _ _ 0 (haveR_up (by omega) (by omega)) ⟨by show (0 : Int) ≤ 1; omega, by show (1 : Int) ≤ 64; omega, by show (64 : Int) < _; omega, trivial⟩ fun m => ?_
      rw [haveR_has h1 (by omega) (by omega), decide_eq_false (show ¬ (1 ≤ m ∧ m ≤ 0) by omega), Bool.false_or, hasS_cons, hasS_nil, Bool.or_false]
      by_cases a : 1 ≤ m ∧ m ≤ 64
      · rw [hall m (by omega) a.2, decide_eq_true a.1, decide_eq_true a.2]; rfl
      · have hf : hasR 0 (putR 0 R g (gN g)) m = false := by
          cases hh : hasR 0 (putR 0 R g (gN g)) m
          · rfl
          · have := h1.has (by omega) hh; omega
        rw [hf]
        by_cases b : 1 ≤ m
        · rw [decide_eq_true b, decide_eq_false (show ¬ m ≤ 64 by omega)]; rfl
        · rw [decide_eq_false b]; rfl
    rw [hu]; rfl
end Go.Proofs.Ytajklinlcmkjmaa
