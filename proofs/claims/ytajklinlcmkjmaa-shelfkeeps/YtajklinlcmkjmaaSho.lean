/-
  A new shelf; what is shown.
-/
import Derived.Test.YtajklinlcmkjmaaTrm
import Derived.Test.YtajklinlcmkjmaaGet
namespace Go.Proofs.Ytajklinlcmkjmaa
open Go.RowKit

def R0 : Rng := fun _ => zP
theorem zero_shelf : ((Try.prog.info? 32).bind (·.zero)) = some (.agg (shC 0 R0).toArray) := by kernel_rfl
theorem run_zero_shelf (w : World) : (zeroValue 32).run Try.prog w = .ok (.agg (shC 0 R0).toArray) w := by
  have h := zero_shelf
  generalize Value.agg (shC 0 R0).toArray = v at *
  cases hi : Try.prog.info? 32 with
  | none => simp [hi] at h
  | some i =>
    rw [hi] at h
    have hz : i.zero = some v := h
    simp [zeroValue, typeInfo, hi, hz]
theorem shelf_zero_ne : ((shC 0 R0).toArray = #[]) = False := by simp [shC]
theorem Sf.new (w : World) : Sf w.heap.size 0 R0 (w.alloc (.cells (shC 0 R0).toArray 32)) := ⟨heap_alloc_new _ _⟩

def gX : Ms := ⟨3, 9, ⟨#[120]⟩⟩
theorem shown_put : putE 0 (hasR 0 R0 1) 1 gX = 0 := by decide +kernel
theorem shown_get : getE 0 (hasR 0 (putR 0 R0 1 gX) 1) 1 = 0 := by decide +kernel
theorem shown_msg : getM 0 (putR 0 R0 1 gX) 1 = ⟨3, 9, ⟨#[120]⟩⟩ := by unfold getM; rw [shown_get, if_pos rfl]; unfold putR; rw [shown_put, if_pos rfl]; rfl
theorem shown_reach : reachR 0 (putR 0 R0 1 gX) = 1 := by decide +kernel

set_option maxRecDepth 100000 in
set_option maxHeartbeats 4000000 in
theorem shown_any (w : World) : Calls Try.prog 8 #[] w fun e w' => e = .returned (.bool true) ∧ Below w.heap.size w w' := by
  have hz := run_zero_shelf
  have hn := shelf_zero_ne
  have hS := Sf.new w
  have b0 := below_alloc w (.cells (shC 0 R0).toArray 32)
  generalize (shC 0 R0).toArray = A at *
  have hp := sput_any w.heap.size 0 R0 1 gX (by decide) (by decide) (by decide) (by decide) _ hS
  rw [shown_put] at hp
  go_enter Try.func8, Try.ntmps8
  go_wp2_with fail
  refine hp.mono ?_
  rintro e w2 ⟨rfl, hS2, hb2⟩
  have hB2 : Below w.heap.size w w2 := b0.trans ((hb2.mono (B := w.heap.size) b0.size).to (Nat.le_refl _))
  have hg := sget_any w.heap.size 0 (putR 0 R0 1 gX) 1 (by decide) w2 hS2
  rw [shown_get, shown_msg] at hg
  dsimp only at hg
  go_wp2_with fail
  refine hg.mono ?_
  rintro e w3 ⟨rfl, hb3⟩
  have hB3 := hB2.trans (hb3.mono hB2.size)
  have hS3 := hS2.below hb3
  have hM : Bm w3.heap.size gX (w3.alloc (.cells #[.int .i64 3, .int .u64 9, .string ⟨#[120]⟩] 27)) := Bm.new gX w3
  have b4 := below_alloc w3 (.cells #[.int .i64 3, .int .u64 9, .string ⟨#[120]⟩] 27)
  have hS4 := hS3.below b4
  have hB4 := hB3.trans (b4.mono hB3.size)
  have c1 : (w3.alloc (.cells #[.int .i64 3, .int .u64 9, .string ⟨#[120]⟩] 27)).cell? ⟨w3.heap.size, 1, none⟩ = some (Value.int .u64 9) := hM.c1
  have hr := sreach_any w.heap.size 0 (putR 0 R0 1 gX) (by decide) (by decide) _ hS4
  rw [shown_reach] at hr
  go_wp2_with fail
  refine hr.mono ?_
  rintro e w5 ⟨rfl, hb5⟩
  go_wp2_with fail
  go_ret
  exact ⟨rfl, hB4.trans (hb5.mono hB4.size)⟩
end Go.Proofs.Ytajklinlcmkjmaa
