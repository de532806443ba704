/-
  What Raise answers, case by case: plain mathematics.
-/
import Derived.Test.YtahiiieifdhgeaaDmt
namespace Go.Proofs.Ytahiiieifdhgeaa

theorem raise_is_old {L : List Dbt} {n i s from_ now nodes : Int} {base : Nat} (ha : argS n s from_ = true) (hh : hasD L n = true) (hi : i < (getD L n).i) : raiseS L n i s from_ now nodes base = (false, 70, L) := by
  unfold raiseS
  rw [if_neg (by rw [ha]; simp), if_neg (by rw [hh]; simp; omega), if_pos hi]
theorem raise_is_told {L : List Dbt} {n i s from_ now nodes : Int} {base : Nat} (ha : argS n s from_ = true) (hh : hasD L n = true) (hi : (getD L n).i = i) (hf : Bnd.hasS (getD L n).f from_ = true) : raiseS L n i s from_ now nodes base = (false, 0, L) := by
  unfold raiseS
  rw [if_neg (by rw [ha]; simp), if_neg (by rw [hh]; simp; omega), if_neg (by omega), if_pos hf]
theorem raise_is_more {L : List Dbt} {n i s from_ now nodes : Int} {base : Nat} (ha : argS n s from_ = true) (hh : hasD L n = true) (hi : (getD L n).i = i) (hf : Bnd.hasS (getD L n).f from_ = false) : raiseS L n i s from_ now nodes base = (true, 0, keepD L (moreD (getD L n) from_ nodes base)) := by
  unfold raiseS
  rw [if_neg (by rw [ha]; simp), if_neg (by rw [hh]; simp; omega), if_neg (by omega), if_neg (by rw [hf]; simp)]
theorem raise_is_new {L : List Dbt} {n i s from_ now nodes : Int} {base : Nat} (ha : argS n s from_ = true) (hh : hasD L n = false ∨ (getD L n).i < i) : raiseS L n i s from_ now nodes base = (true, 0, keepD L (newD n i from_ now nodes base)) := by
  unfold raiseS
  rw [if_neg (by rw [ha]; simp), if_pos hh]
theorem over_one {x : Dbt} {now : Int} (h : x.u ≤ now) : overD [x] now = [x] ∧ stayD [x] now = [] := by
  simp [overD, stayD, h]
end Go.Proofs.Ytahiiieifdhgeaa
