/-
  Over, walked.
-/
import Derived.Test.YtahiiieifdhgeaaDov
namespace Go.Proofs.Ytahiiieifdhgeaa
open Go.RowKit Go.Maps

set_option maxRecDepth 100000 in
set_option maxHeartbeats 2000000 in
theorem over_any (p : Nat) (m : Option Nat) (L : List Dbt) (now : Int) (w : World) (hQ : Du p m L w) :
    Calls Try.prog 14 #[.pointer (some ⟨p, 0, none⟩), .int .u64 now] w fun e w' => (∃ v, e = .returned v ∧ Own w.heap.size v ((overD L now).map deadOf) w') ∧ Du p m (stayD L now) w' ∧ Mv p m m w w' := by
  have b1 := below_alloc w (.cells #[.pointer (some ⟨p, 0, none⟩)] 24)
  have n1 : (w.alloc (.cells #[.pointer (some ⟨p, 0, none⟩)] 24)).heap[w.heap.size]? = _ := heap_alloc_new w _
  have z1 : (w.alloc (.cells #[.pointer (some ⟨p, 0, none⟩)] 24)).heap.size = w.heap.size + 1 := by simp
  obtain ⟨w1, HW1⟩ : ∃ w1, Hid (w1 = w.alloc (.cells #[.pointer (some ⟨p, 0, none⟩)] 24)) := ⟨_, rfl⟩
  rw [← HW1.out] at b1 n1 z1
  have b2 := below_alloc w1 (.cells #[.int .u64 now] 32)
  have n2 : (w1.alloc (.cells #[.int .u64 now] 32)).heap[w1.heap.size]? = _ := heap_alloc_new w1 _
  have z2 : (w1.alloc (.cells #[.int .u64 now] 32)).heap.size = w1.heap.size + 1 := by simp
  obtain ⟨w2, HW2⟩ : ∃ w2, Hid (w2 = w1.alloc (.cells #[.int .u64 now] 32)) := ⟨_, rfl⟩
  rw [← HW2.out] at b2 n2 z2
  have b3 := below_alloc w2 (.cells #[.slice none 0 0] 43)
  have n3 : (w2.alloc (.cells #[.slice none 0 0] 43)).heap[w2.heap.size]? = _ := heap_alloc_new w2 _
  obtain ⟨w3, HW3⟩ : ∃ w3, Hid (w3 = w2.alloc (.cells #[.slice none 0 0] 43)) := ⟨_, rfl⟩
  rw [← HW3.out] at b3 n3
  have hB : Below w.heap.size w w3 := (b1.trans (b2.mono (by omega))).trans (b3.mono (by omega))
  have hC : Cl w1.heap.size w.heap.size w2.heap.size p 0 now (.slice none 0 0) w3 := ⟨(b3.block _ (by omega)).trans n2, (b3.block _ (by omega)).trans ((b2.block _ (by omega)).trans n1), n3⟩
  have hcd : w3.cell? ⟨w.heap.size, 0, none⟩ = some (.pointer (some ⟨p, 0, none⟩)) := by simp [World.cell?, hC.d]
  have key := over_each w1.heap.size w.heap.size w2.heap.size p w.heap.size m L now w3 (hQ.below hB) hC hQ.lt hQ.mlt (by omega)
  rw [z2, z1] at key
  clear b1 b2 b3 n1 n2 n3 z1 z2 hQ hC
  generalize (overD L now).map deadOf = R at *
  generalize stayD L now = S at *
  obtain ⟨g1, HG1⟩ : ∃ g1, Hid (w.heap.size = g1) := ⟨_, rfl⟩
  rw [HG1.out] at key hcd hB
  go_enter Try.func14, Try.ntmps14
  go_upto_region 2 with fail
  rw [← HW1.out, ← HW2.out, ← HW3.out, HG1.out]
  go_wp2_with fail
  refine key.mono ?_
  rintro e w' ⟨rfl, v, h1, h2, h3, h4⟩
  have hcl : w'.cell? ⟨g1 + 1 + 1, 0, none⟩ = some v := by simp [World.cell?, h1]
  go_wp2_with fail
  go_ret
  exact ⟨⟨v, rfl, by rw [HG1.out]; exact h2⟩, h3, ⟨h4.os.trans hB.os, h4.tape.trans hB.tape, h4.output.trans hB.output, Nat.le_trans hB.size h4.size, fun k hk hp hm => (h4.block k (by rw [← HG1.out]; exact hk) (by simp; exact ⟨hp, fun e => hm e.symm⟩)).trans (hB.block k (by rw [← HG1.out]; exact hk)), Or.inl rfl⟩⟩
end Go.Proofs.Ytahiiieifdhgeaa
