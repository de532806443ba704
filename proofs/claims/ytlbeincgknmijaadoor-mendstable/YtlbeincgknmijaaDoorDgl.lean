/-
  The reference's glued and Join.
-/
import Derived.Test.YtlbeincgknmijaaDoorDcu
namespace Go.Proofs.YtlbeincgknmijaaDoor
open Go.RowKit

theorem flat_set (l : List Sn) : ∀ (j : Nat) (t : Int), j < l.length → (flat l).set (j * 2 + 1) (.int .u64 t) = flat (l.set j ⟨(el l j).f, t⟩) := by
  induction l with
  | nil => intro j t h; cases h
  | cons s r ih =>
    intro j t h
    cases j with
    | zero => rfl
    | succ j =>
      have h' : j < r.length := by simpa using h
      rw [el_succ, List.set_cons_succ]
      simp only [flat, Sn.cs, List.cons_append, List.nil_append]
      rw [show (j + 1) * 2 + 1 = (j * 2 + 1) + 1 + 1 from by omega, List.set_cons_succ, List.set_cons_succ, ih j t h']
theorem Ow.setT {B g n cap : Nat} {l : List Sn} {w : World} (h : Ow B (.slice (some ⟨g, 0, none⟩) n cap) l w) (hn : n = l.length) {j : Nat} (hj : j < l.length) (t : Int) :
    Ow B (.slice (some ⟨g, 0, none⟩) n cap) (l.set j ⟨(el l j).f, t⟩) (w.setCell ⟨g, j * 2 + 1, none⟩ (.int .u64 t)) := by
  subst hn
  unfold Ow at h ⊢
  rw [List.length_set]
  refine ⟨by rw [flat_length, List.length_set], Or.inr ?_⟩
  rcases h.2 with ⟨e, _⟩ | ⟨g', cap', cur, e, hb, hg, h1, h2, h3, h4⟩
  · cases e
  · cases e
    refine ⟨g, cap, cur.setIfInBounds (j * 2 + 1) (.int .u64 t), rfl, hb, ?_, h1, h2, by simpa using h3, ?_⟩
    · simp [World.setCell, Array.getElem?_modify, hg]
    · rw [Array.toList_setIfInBounds, List.take_set, h4, flat_set l j t hj]
theorem Ow.at {B g n cap : Nat} {l : List Sn} {w : World} (h : Ow B (.slice (some ⟨g, 0, none⟩) n cap) l w) {j : Nat} (hj : j < l.length) :
    w.cell? ⟨g, j * 2, none⟩ = some (.int .u64 (el l j).f) ∧ w.cell? ⟨g, j * 2 + 1, none⟩ = some (.int .u64 (el l j).t) ∧ w.frozen? ⟨g, j * 2 + 1, none⟩ = false := by
  obtain ⟨a, b⟩ := flat_get l j hj
  have k := World.ownsRow.cells h (g := g) rfl
  have a := k _ _ a
  have b := k _ _ b
  rw [add_off, Nat.zero_add] at a b
  refine ⟨a, b, ?_⟩
  rcases h.2 with ⟨e, _⟩ | ⟨g', cap', cur, e, hb, hg, _⟩
  · cases e
  · cases e
    simp [World.frozen?, hg]

theorem glue_take {l : List Sn} {k : Nat} (h : k < l.length) : (l.take (k + 1)).foldl glueS [] = glueS ((l.take k).foldl glueS []) (el l k) := by
  rw [take_snoc h, List.foldl_append]; rfl

end Go.Proofs.YtlbeincgknmijaaDoor
