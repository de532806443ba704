/-
  The walk of what is shown.
-/
import Derived.Test.YtglpdchdkabajaaTex
namespace Go.Proofs.Ytglpdchdkabajaa
open Go.RowKit

theorem Wr.behind {T E : TypeId} {B p : Nat} {v : Value} {l : List Int} {w w' : World} (h : Wr T E B p v l w) (o : Obj) (hb : But (w.heap.size + 1) w.heap.size (w.alloc o) w') : Wr T E B p v l w' := by
  have hs := h.size
  exact (h.alloc o).kept hb (by omega) (by omega) (fun k hk => by have := h.row_lt k hk; omega)

/-- It stays where nothing that was there has turned. -/
theorem Wr.keptBelow {T E : TypeId} {B p : Nat} {v : Value} {l : List Int} {w w' : World} (h : Wr T E B p v l w) (hb : Below w.heap.size w w') : Wr T E B p v l w' :=
  h.kept (But.of (p := w.heap.size) hb) h.size (by have := h.size; omega) (fun k hk => by have := h.row_lt k hk; omega)

set_option maxHeartbeats 1000000 in
theorem shown_any (w : World) : Calls Try.prog 9 #[] w fun e w' => e = .returned (.bool true) ∧ Below w.heap.size w w' := by
  have e1 : strOfNums ([] ++ le (Int.toNat 2) 258) = ⟨#[2, 1]⟩ := by decide
  have e2 : ofLE (((ints ⟨#[2, 1]⟩).drop 0).take (Int.toNat 2)) = 258 := by decide
  go_enter Try.func9, Try.ntmps9
  go_wp2_with (first
    | (go_at_call 10; refine (wnum_any (w.heap.size + 1) w.heap.size _ [] 258 2 _ (by decide) (by decide) (by decide) (Wr.new 27 5 w) (by decide)).mono ?_; rintro e w1 ⟨rfl, ⟨v1, h1⟩, h2⟩)
    | (go_at_call 17; refine (new_any _ _).mono ?_; rintro e w' ⟨rfl, rfl⟩)
    | (go_at_call 18; refine (rnum_ok w1.heap.size _ 0 2 _ (Rd.new 63 _ w1) (by decide) (by decide) (by decide) (by decide)).mono ?_; rintro e w2 ⟨rfl, h3, h4⟩; rw [e2])
    | (go_at_call 16; refine (bytes_any (w.heap.size + 1) w.heap.size v1 _ _ (by exact h1.behind _ (h4.mono (by simp)))).mono ?_; rintro e w3 ⟨rfl, rfl⟩; rw [e1]))
  go_ret
  refine ⟨rfl, ((((Below.refl w.heap.size w).alloc (Nat.le_refl _) _).trans (h2.belowAt (Nat.le_refl _) (by omega))).alloc ?_ _).trans (h4.belowAt ?_ (by simp; have := h2.size; simp at this; omega))⟩
  · have := h2.size; simp at this; omega
  · have := h2.size; simp at this; omega
end Go.Proofs.Ytglpdchdkabajaa
