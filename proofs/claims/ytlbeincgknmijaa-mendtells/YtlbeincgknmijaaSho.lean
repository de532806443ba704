/-
  A new shelf; what is shown.
-/
import Derived.Test.YtlbeincgknmijaaTrm
import Derived.Test.YtlbeincgknmijaaGet
namespace Go.Proofs.Ytlbeincgknmijaa
open Go.RowKit

def R0 : Rng := fun _ => zP
theorem zero_shelf : ((Try.prog.info? 61).bind (·.zero)) = some (.agg (shC 0 R0).toArray) := by kernel_rfl
theorem run_zero_shelf (w : World) : (zeroValue 61).run Try.prog w = .ok (.agg (shC 0 R0).toArray) w := by
  have h := zero_shelf
  generalize Value.agg (shC 0 R0).toArray = v at *
  cases hi : Try.prog.info? 61 with
  | none => simp [hi] at h
  | some i =>
    rw [hi] at h
    have hz : i.zero = some v := h
    simp [zeroValue, typeInfo, hi, hz]
theorem shelf_zero_ne : ((shC 0 R0).toArray = #[]) = False := by simp [shC]
theorem Sf.new (w : World) : Sf w.heap.size 0 R0 (w.alloc (.cells (shC 0 R0).toArray 61)) := ⟨heap_alloc_new _ _⟩

def gX : Ms := ⟨3, 9, ⟨#[120]⟩⟩
theorem shown_put : putE 0 (hasR 0 R0 1) 1 gX = 0 := by decide +kernel
theorem shown_get : getE 0 (hasR 0 (putR 0 R0 1 gX) 1) 1 = 0 := by decide +kernel
theorem shown_msg : getM 0 (putR 0 R0 1 gX) 1 = ⟨3, 9, ⟨#[120]⟩⟩ := by unfold getM; rw [shown_get, if_pos rfl]; unfold putR; rw [shown_put, if_pos rfl]; rfl
theorem shown_reach : reachR 0 (putR 0 R0 1 gX) = 1 := by decide +kernel

end Go.Proofs.Ytlbeincgknmijaa
