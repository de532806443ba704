/-
  shown.
-/
import Derived.Test.YtnhpkpodeojldaaRhl
namespace Go.Proofs.Ytnhpkpodeojldaa
open Go.RowKit

theorem nxt_shown : nxtS [] [1, 2, 3] [0, 0] = ((2, true), [3, 1], []) := by decide

set_option maxHeartbeats 1000000 in
theorem shown_any (w : World) : Calls Try.prog 8 #[] w fun e w' => e = .returned (.bool true) ∧ Below w.heap.size w w' := by
  have n1 := heap_alloc_new w (.cells #[.slice none 0 0] 28)
  have b1 := below_alloc w (.cells #[.slice none 0 0] 28)
  obtain ⟨w1, HW1⟩ : ∃ w1, Hid (w1 = w.alloc (.cells #[.slice none 0 0] 28)) := ⟨_, rfl⟩
  rw [← HW1.out] at n1 b1
  have q1 : w.heap.size < w1.heap.size := (Array.getElem?_eq_some_iff.1 n1).1
  go_enter Try.func8, Try.ntmps8
  go_upto_region 2 with fail
  rw [← HW1.out]
  go_wp2_with fail
  refine (new_any _ [0, 0] _ (by decide) (Rd.lit .u64 38 [0, 0] w1 (by decide))).mono ?_
  rintro e w2 ⟨⟨p, rfl, hL2⟩, hB2⟩
  have b2 := (below_alloc w1 (.cells #[.int .u64 0, .int .u64 0] 38)).trans (hB2.mono (by simp))
  have n2 := (b2.block _ q1).trans n1
  have z2 := hB2.size
  have l2 := hL2.lt
  have m2 := hL2.le
  simp at z2 m2
  go_wp2_with fail
  have hR := Rn.new 28 w2.heap.size w.heap.size w2 n2 (by omega) (Nat.le_refl _)
  have b3 := below_alloc w2 (.cells #[.int .i64 1, .int .i64 2, .int .i64 3] 3)
  refine (rnext_any _ w2.heap.size w.heap.size p _ [] [1, 2, 3] [0, 0] _ (by decide) (by decide) (Rd.lit .i64 3 [1, 2, 3] w2 (by decide)) (fun g hg => by cases hg; exact fun e : w2.heap.size = w.heap.size => by omega) (hR.below b3) (hL2.below b3) (by unfold Ok; decide) (Or.inl (by simp; omega)) l2).mono ?_
  rw [nxt_shown]
  rintro e w4 ⟨rfl, hR4, hL4, hM4⟩
  go_wp2_with fail
  refine (rleft_any _ _ [3, 1] _ (by decide) hR4).mono ?_
  rintro e w5 ⟨⟨v5, rfl, ho5⟩, hb5⟩
  obtain ⟨a5, cap5, rfl, _⟩ := Rd.of ho5
  go_wp2_with fail
  go_ret
  have e2 : Below w.heap.size w w2 := b1.trans (b2.mono b1.size)
  have e3 : Below w.heap.size w _ := e2.trans (b3.mono e2.size)
  have e4 : Below w.heap.size w w4 := e3.trans (hM4.below (Nat.le_refl _) (by omega) e3.size)
  exact ⟨rfl, e4.trans (hb5.mono e4.size)⟩
end Go.Proofs.Ytnhpkpodeojldaa
