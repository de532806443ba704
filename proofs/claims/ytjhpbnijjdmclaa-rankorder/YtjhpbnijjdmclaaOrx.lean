/-
  RankOrder: where the first is newer, and the second is not newer than the third.
-/
import Derived.Test.YtjhpbnijjdmclaaTri
namespace Go.Proofs.Ytjhpbnijjdmclaa
open Go.RowKit

set_option maxRecDepth 100000 in
set_option maxHeartbeats 1000000 in
theorem order_x (n i s m j t p k u : Int) (hij : ¬ i = j) (hX : newerS i s j t = true) (hY : newerS j t i s = false) (hZ : newerS j t k u = false) (w : World) :
    Calls Try.prog 4 #[.agg #[.int .i64 n, .int .u64 i, .int .i64 s], .agg #[.int .i64 m, .int .u64 j, .int .i64 t], .agg #[.int .i64 p, .int .u64 k, .int .i64 u]] w fun e w' => e = .returned (.bool true) ∧ Below w.heap.size w w' := by
  have hA : newerS i s i s = false := by simp [newerS]
  go_enter Try.func4, Try.ntmps4
  go_wp2_with fail
  have hT := Tri.new w n i s j t k u
  generalize World.alloc _ _ = w3 at hT
  refine wp_region_kept (Tri w n i s j t k u) (by kernel_rfl) (by kernel_rfl) hT.drew ?_
  have hne : Nonempty (Kept (Tri w n i s j t k u)) := ⟨⟨_, hT⟩⟩
  have c0 : ∀ x : Kept (Tri w n i s j t k u), x.at_.cell? ⟨w.heap.size, 0, none⟩ = some (.int .i64 n) := fun x => x.is.a.c0
  have c1 : ∀ x : Kept (Tri w n i s j t k u), x.at_.cell? ⟨w.heap.size, 1, none⟩ = some (.int .u64 i) := fun x => x.is.a.c1
  have c2 : ∀ x : Kept (Tri w n i s j t k u), x.at_.cell? ⟨w.heap.size, 2, none⟩ = some (.int .i64 s) := fun x => x.is.a.c2
  have d0 : ∀ x : Kept (Tri w n i s j t k u), x.at_.cell? ⟨w.heap.size + 1, 0, none⟩ = some (.int .i64 n) := fun x => x.is.b.c0
  have d1 : ∀ x : Kept (Tri w n i s j t k u), x.at_.cell? ⟨w.heap.size + 1, 1, none⟩ = some (.int .u64 j) := fun x => x.is.b.c1
  have d2 : ∀ x : Kept (Tri w n i s j t k u), x.at_.cell? ⟨w.heap.size + 1, 2, none⟩ = some (.int .i64 t) := fun x => x.is.b.c2
  have e0 : ∀ x : Kept (Tri w n i s j t k u), x.at_.cell? ⟨w.heap.size + 1 + 1, 0, none⟩ = some (.int .i64 n) := fun x => x.is.c.c0
  have e1 : ∀ x : Kept (Tri w n i s j t k u), x.at_.cell? ⟨w.heap.size + 1 + 1, 1, none⟩ = some (.int .u64 k) := fun x => x.is.c.c1
  have e2 : ∀ x : Kept (Tri w n i s j t k u), x.at_.cell? ⟨w.heap.size + 1 + 1, 2, none⟩ = some (.int .i64 u) := fun x => x.is.c.c2
  repeat (go_big_quiet_step (first
    | (refine (newer_any _ _ _ _ _ _ _).mono ?_; (first | rw [hX] | rw [hY] | rw [hZ] | rw [hA]); rintro e w4 ⟨rfl, hb4⟩; exact ⟨rfl, Tri.on hb4⟩)
    | (refine (shown_any _).mono ?_; rintro e w4 ⟨rfl, hb4⟩; exact ⟨rfl, Tri.on hb4⟩)))
  refine wpQuiet_nil ?_
  intro w5 hT5
  go_wp2_with fail
  go_ret
  exact ⟨rfl, hT5.below⟩

set_option maxRecDepth 100000 in
set_option maxHeartbeats 1000000 in
theorem order_x_i (n i s m t p k u : Int) (hst : ¬ s = t) (hX : newerS i s i t = true) (hY : newerS i t i s = false) (hZ : newerS i t k u = false) (w : World) :
    Calls Try.prog 4 #[.agg #[.int .i64 n, .int .u64 i, .int .i64 s], .agg #[.int .i64 m, .int .u64 i, .int .i64 t], .agg #[.int .i64 p, .int .u64 k, .int .i64 u]] w fun e w' => e = .returned (.bool true) ∧ Below w.heap.size w w' := by
  have hA : newerS i s i s = false := by simp [newerS]
  go_enter Try.func4, Try.ntmps4
  go_wp2_with fail
  have hT := Tri.new w n i s i t k u
  generalize World.alloc _ _ = w3 at hT
  refine wp_region_kept (Tri w n i s i t k u) (by kernel_rfl) (by kernel_rfl) hT.drew ?_
  have hne : Nonempty (Kept (Tri w n i s i t k u)) := ⟨⟨_, hT⟩⟩
  have c0 : ∀ x : Kept (Tri w n i s i t k u), x.at_.cell? ⟨w.heap.size, 0, none⟩ = some (.int .i64 n) := fun x => x.is.a.c0
  have c1 : ∀ x : Kept (Tri w n i s i t k u), x.at_.cell? ⟨w.heap.size, 1, none⟩ = some (.int .u64 i) := fun x => x.is.a.c1
  have c2 : ∀ x : Kept (Tri w n i s i t k u), x.at_.cell? ⟨w.heap.size, 2, none⟩ = some (.int .i64 s) := fun x => x.is.a.c2
  have d0 : ∀ x : Kept (Tri w n i s i t k u), x.at_.cell? ⟨w.heap.size + 1, 0, none⟩ = some (.int .i64 n) := fun x => x.is.b.c0
  have d1 : ∀ x : Kept (Tri w n i s i t k u), x.at_.cell? ⟨w.heap.size + 1, 1, none⟩ = some (.int .u64 i) := fun x => x.is.b.c1
  have d2 : ∀ x : Kept (Tri w n i s i t k u), x.at_.cell? ⟨w.heap.size + 1, 2, none⟩ = some (.int .i64 t) := fun x => x.is.b.c2
  have e0 : ∀ x : Kept (Tri w n i s i t k u), x.at_.cell? ⟨w.heap.size + 1 + 1, 0, none⟩ = some (.int .i64 n) := fun x => x.is.c.c0
  have e1 : ∀ x : Kept (Tri w n i s i t k u), x.at_.cell? ⟨w.heap.size + 1 + 1, 1, none⟩ = some (.int .u64 k) := fun x => x.is.c.c1
  have e2 : ∀ x : Kept (Tri w n i s i t k u), x.at_.cell? ⟨w.heap.size + 1 + 1, 2, none⟩ = some (.int .i64 u) := fun x => x.is.c.c2
  repeat (go_big_quiet_step (first
    | (refine (newer_any _ _ _ _ _ _ _).mono ?_; (first | rw [hX] | rw [hY] | rw [hZ] | rw [hA]); rintro e w4 ⟨rfl, hb4⟩; exact ⟨rfl, Tri.on hb4⟩)
    | (refine (shown_any _).mono ?_; rintro e w4 ⟨rfl, hb4⟩; exact ⟨rfl, Tri.on hb4⟩)))
  refine wpQuiet_nil ?_
  intro w5 hT5
  go_wp2_with fail
  go_ret
  exact ⟨rfl, hT5.below⟩

end Go.Proofs.Ytjhpbnijjdmclaa
