/-
  What is shown.
-/
import Derived.Test.YtlbeincgknmijaaLck
import Derived.Test.YtlbeincgknmijaaDsa
namespace Go.Proofs.Ytlbeincgknmijaa
open Go.RowKit

set_option maxRecDepth 100000 in
set_option maxHeartbeats 1000000 in
theorem shown_any (w : World) : Calls Try.prog 7 #[] w fun e w' => e = .returned (.bool true) ∧ Below w.heap.size w w' := by
  have b1 := below_alloc w (.cells #[.int .u64 1, .int .u64 2] 51)
  have hU1 := Rs.one (Bx.new 51 1 2 w) ⟨by decide, by decide, by decide, by decide⟩
  have s1 : (w.alloc (.cells #[.int .u64 1, .int .u64 2] 51)).heap.size = w.heap.size + 1 := by simp
  have b2 := below_alloc (w.alloc (.cells #[.int .u64 1, .int .u64 2] 51)) (.cells #[.int .u64 1, .int .u64 5] 51)
  have hU2 := Rs.one (Bx.new 51 1 5 (w.alloc (.cells #[.int .u64 1, .int .u64 2] 51))) ⟨by decide, by decide, by decide, by decide⟩
  have hU1' := hU1.below b2
  have b3 := b1.trans (b2.mono b1.size)
  rw [s1] at hU2
  have hA := lack_any _ _ _ _ 9 _ hU1' hU2 (by decide) (by decide) (by decide) (by decide)
  rw [shown_lack] at hA
  clear hU1 hU2 hU1' b1 b2
  go_enter Try.func7, Try.ntmps7
  go_wp2_with fail
  refine hA.mono ?_
  rintro e w2 ⟨⟨v2, rfl, hO2⟩, hb2⟩
  have hR2 := hO2.rs (by intro s hs; rw [List.mem_singleton] at hs; subst hs; exact ⟨by decide, by decide, by decide, by decide⟩)
  have hB2 := b3.trans (hb2.mono b3.size)
  have b4 := below_alloc w2 (.cells #[.int .u64 3, .int .u64 5] 51)
  have hU := Rs.one (Bx.new 51 3 5 w2) ⟨by decide, by decide, by decide, by decide⟩
  have hR3 := hR2.below b4
  have hB3 := hB2.trans (b4.mono hB2.size)
  go_wp2_with fail
  refine (same_any _ _ [⟨3, 5⟩] _ (by decide) hR3 hU).mono ?_
  rintro e w4 ⟨rfl, hb4⟩
  go_wp2_with fail
  go_ret
  exact ⟨rfl, hB3.trans (hb4.mono hB3.size)⟩
end Go.Proofs.Ytlbeincgknmijaa
