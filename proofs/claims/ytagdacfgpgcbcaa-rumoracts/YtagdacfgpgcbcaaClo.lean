/-
  The closure by which rumors are sorted.
-/
import Derived.Test.YtagdacfgpgcbcaaSrt
import Derived.Deep.RegionHeld3
import Derived.Shelf.SlSortCmp.NoneTotal
namespace Go.Proofs.Ytagdacfgpgcbcaa
open Go.RowKit Go.Sort

theorem cell_pair (V : World) (a b : Value) (T : TypeId) : (V.alloc (.cells #[a, b] T)).drew.cell? ⟨V.heap.size, 0, none⟩ = some a ∧ (V.alloc (.cells #[a, b] T)).drew.cell? ⟨V.heap.size, 1, none⟩ = some b := by
  have h := heap_alloc_new V (.cells #[a, b] T)
  have h' : (V.alloc (.cells #[a, b] T)).drew.heap[V.heap.size]? = some (.cells #[a, b] T) := h
  clear h
  generalize (V.alloc (.cells #[a, b] T)).drew = w at *
  constructor <;> simp [World.cell?, h']

set_option maxHeartbeats 1000000 in
theorem closure_any (x y : Itm) (W : World) : Calls Try.prog 32 #[.agg #[.int .i64 x.1, .int .u64 x.2.1, .int .i64 x.2.2.1, .int .i64 x.2.2.2], .agg #[.int .i64 y.1, .int .u64 y.2.1, .int .i64 y.2.2.1, .int .i64 y.2.2.2]] W fun e w' => e = .returned (.int .i64 (cmpI x y)) ∧ ∃ q os', w' = grow (W.drewN q) os' := by
  obtain ⟨x1, x2, x3, x4⟩ := x
  obtain ⟨y1, y2, y3, y4⟩ := y
  unfold cmpI
  simp only
  have hV : ∃ V, Hid (V = (W.alloc (.cells #[.int .i64 x1, .int .u64 x2, .int .i64 x3, .int .i64 x4] 53)).alloc (.cells #[.int .i64 y1, .int .u64 y2, .int .i64 y3, .int .i64 y4] 53)) := ⟨_, rfl⟩
  obtain ⟨V, HV⟩ := hV
  have hp : V.heap[W.heap.size]? = some (.cells #[.int .i64 x1, .int .u64 x2, .int .i64 x3, .int .i64 x4] 53) := by
    rw [HV.out]
    exact ((((Below.refl (W.alloc _).heap.size (W.alloc _)).alloc (Nat.le_refl _) _)).block _ (by simp)).trans (heap_alloc_new W _)
  have hq : V.heap[W.heap.size + 1]? = some (.cells #[.int .i64 y1, .int .u64 y2, .int .i64 y3, .int .i64 y4] 53) := by
    rw [HV.out]
    have := heap_alloc_new (W.alloc (.cells #[.int .i64 x1, .int .u64 x2, .int .i64 x3, .int .i64 x4] 53)) (.cells #[.int .i64 y1, .int .u64 y2, .int .i64 y3, .int .i64 y4] 53)
    simpa using this
  have a0 : V.cell? ⟨W.heap.size, 0, none⟩ = some (.int .i64 x1) := by simp [World.cell?, hp]
  have a3 : V.cell? ⟨W.heap.size, 3, none⟩ = some (.int .i64 x4) := by simp [World.cell?, hp]
  have b0 : V.cell? ⟨W.heap.size + 1, 0, none⟩ = some (.int .i64 y1) := by simp [World.cell?, hq]
  have b3 : V.cell? ⟨W.heap.size + 1, 3, none⟩ = some (.int .i64 y4) := by simp [World.cell?, hq]
  clear hp hq
  have hs := cell_pair V (.int .i64 (cmpS x4 y4)) (.int .i64 (cmpS x1 y1)) 3
  go_enter Try.func32, Try.ntmps32
  go_wp2_with fail
  rw [← HV.out]
  generalize W.heap.size = p at *
  generalize p + 1 = q at *
  go_region_held3 (fun w' => w'.cell? ⟨p, 0, none⟩ = some (.int .i64 x1) ∧ w'.cell? ⟨p, 3, none⟩ = some (.int .i64 x4) ∧ w'.cell? ⟨q, 0, none⟩ = some (.int .i64 y1) ∧ w'.cell? ⟨q, 3, none⟩ = some (.int .i64 y4)) (go_keep) ((first
    | (go_at_call 34; refine (compare_any _ _ _).mono ?_; rintro e w' ⟨rfl, rfl⟩)
    | (go_at_call 33; refine (or_any _ _ (cmpS x4 y4) (cmpS x1 y1) _ hs.1 hs.2).mono ?_; rintro e w' ⟨rfl, rfl⟩)))
  all_goals go_wp2_with fail
  all_goals go_ret
  all_goals exact ⟨rfl, 1, _, by rw [HV.out, alloc_eq_grow, alloc_eq_grow, alloc_eq_grow, grow_grow, grow_grow]; rfl⟩
end Go.Proofs.Ytagdacfgpgcbcaa
