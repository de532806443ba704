/-
  First, Next, Place: who ranges over a band's nodes.
-/
import Derived.Test.YtclhmocdeiebbaaDoorItr
namespace Go.Proofs.YtclhmocdeiebbaaDoor
open Go.RowKit Go.Shelf

attribute [local go_sem] Oper.semAt_some

theorem firstS_nil {b : Nat} (h : lst b = []) : firstS b = (0, false) := by unfold firstS; rw [h]
theorem firstS_pre {b : Nat} {x : Int} (h : [x] <+: lst b) : firstS b = (x, true) := by
  obtain ⟨t, ht⟩ := h
  unfold firstS
  rw [← ht]; rfl
theorem nextS_none {b : Nat} {n : Int} (h : ∀ x ∈ lst b, x ≤ n) : nextS b n = firstS b := by
  unfold nextS
  rw [List.find?_eq_none.2 (fun x hx => by have := h x hx; simp; omega)]
theorem nextS_pre {b : Nat} {n x : Int} {pre : List Int} (hp : ∀ y ∈ pre, y ≤ n) (hx : n < x) (h : pre ++ [x] <+: lst b) : nextS b n = (x, true) := by
  obtain ⟨t, ht⟩ := h
  unfold nextS
  have : (lst b).find? (fun k => decide (n < k)) = some x := by
    rw [← ht, List.append_assoc, List.find?_append, List.find?_eq_none.2 (fun y hy => by have := hp y hy; simp; omega)]
    simp [hx]
  rw [this]
theorem placeS_all {b : Nat} {n : Int} (h : ∀ x ∈ lst b, x < n) : placeS b n = (lst b).length := by
  unfold placeS
  rw [List.filter_eq_self.2 (fun x hx => by simpa using h x hx)]
theorem placeS_pre {b : Nat} {n x : Int} {pre : List Int} (hp : ∀ y ∈ pre, y < n) (hx : n ≤ x) (h : pre ++ [x] <+: lst b) : placeS b n = pre.length := by
  obtain ⟨t, ht⟩ := h
  have hs := lst_sorted b
  unfold placeS
  rw [← ht] at hs ⊢
  rw [List.append_assoc, List.filter_append, List.filter_eq_self.2 (fun x hx => by simpa using hp x hx)]
  have : ([x] ++ t).filter (fun k => decide (k < n)) = [] := by
    rw [List.filter_eq_nil_iff]
    intro y hy
    rw [List.append_assoc, List.pairwise_append] at hs
    have h2 := hs.2.1
    simp only [List.singleton_append, List.pairwise_cons] at h2
    rcases List.mem_cons.1 hy with rfl | hy
    · simp; omega
    · have := h2.1 y hy; simp; omega
  rw [this, List.append_nil]

theorem box_own {X Y : World} {row : Option Nat} {B : Nat} {t : TypeId} {v : Value} (h : Boxed X B t v) (hg : X.grownBy Y row) (hr : ∀ r, row = some r → ∃ o : Obj, X.heap[r]? = some o ∧ o.isCells = false) : Boxed Y B t v :=
  boxed_own (β := Unit) B t (fun _ => v) () X Y row h hg hr

set_option maxRecDepth 100000 in
set_option maxHeartbeats 2000000 in
theorem first_any (b : Nat) (hb : b < lim) (w : World) (hT : Tab w) :
    Calls Tryd.prog 11 #[.int .u64 b] w fun e w' => e = .returned (.tuple #[.int .i64 (firstS b).1, .bool (firstS b).2]) ∧ Below w.heap.size w w' := by
  have h0 := hT.lt
  refine (callsIn_wide (n := 5)).1 ?_
  refine callsIn_of_wp_marks Tryd.func11 rfl trivial ?_ rfl
  simp only [Tryd.ntmps11, List.size_toArray, List.length_cons, List.length_nil, Nat.reduceAdd, Nat.reduceSub, Array.replicate_succ, Array.replicate_zero, List.push_toArray, List.append_toArray, List.nil_append, List.cons_append]
  gi_wp2_with (refine ⟨trivial, ?_⟩; gi_at_call 33; refine (nodes_in Fence.wide 4 trivial rfl _ _).mono ?_; rintro e w' ⟨rfl, rfl⟩)
  have c0 := Boxed.new w 3 (.int .i64 0)
  have c1 := Boxed.new (w.alloc (.cells #[.int .i64 0] 3)) 4 (.bool false)
  have c2 := Boxed.new ((w.alloc (.cells #[.int .i64 0] 3)).alloc (.cells #[.bool false] 4)) 22 (.int .u64 b)
  simp only [World.size_alloc] at c1 c2
  have hB0 : Below w.heap.size w (((w.alloc (.cells #[.int .i64 0] 3)).alloc (.cells #[.bool false] 4)).alloc (.cells #[.int .u64 b] 22)) := (((Below.refl _ w).alloc (Nat.le_refl _) _).alloc (by simp) _).alloc (by simp; omega) _
  refine wpIn_rangeFunc_ownF rfl (by decide) (gf := 37) (lb := #[.pointer (some ⟨w.heap.size + 1 + 1, 0, none⟩)]) rfl trivial (enters_of Tryd.func37 (by kernel_rfl) rfl)
    (each_stops 4 (by decide) (w.heap.size + 1 + 1) w.heap.size b hb h0 _ (by simp) c2.cell (hT.below h0 hB0)) belowK_t (belowK_b (by simp; omega)) (Below.refl _ _) (fun _ => rfl)
    (fun pre W => (pre = [] ∧ Boxed W w.heap.size 3 (.int .i64 0) ∧ Boxed W (w.heap.size + 1) 4 (.bool false)) ∧ Below w.heap.size w W)
    (fun c pre W => (c = .ret ∧ ∃ x : Int, pre = [x] ∧ Boxed W w.heap.size 3 (.int .i64 x) ∧ Boxed W (w.heap.size + 1) 4 (.bool true)) ∧ Below w.heap.size w W)
    (OwnFrom.and (Own.from (fun s A B row hs hg hr => ⟨hs.1, box_own hs.2.1 hg hr, box_own hs.2.2 hg hr⟩) _) (ownFrom_below (Nat.le_refl _) (by simp; omega)))
    (fun c => OwnFrom.and (Own.from (fun s A B row hs hg hr => by obtain ⟨h1, x, h2, h3, h4⟩ := hs; exact ⟨h1, x, h2, box_own h3 hg hr, box_own h4 hg hr⟩) _) (ownFrom_below (Nat.le_refl _) (by simp; omega)))
    ⟨⟨rfl, (c0.alloc _).alloc _, c1.alloc _⟩, hB0⟩
    (fun x => { tmps := #[.int .u64 b, undef, .pointer (some ⟨w.heap.size, 0, none⟩), .pointer (some ⟨w.heap.size + 1, 0, none⟩), .int .i64 x, .int .u64 b, .func (.func 37) #[] #[.pointer (some ⟨w.heap.size + 1 + 1, 0, none⟩)], .int .i64 x, undef], defers := [] }) ?assign ?body ?done ?stop
  case assign =>
    intro l x W K hK
    gi_wp2
    exact hK
  case body =>
    rintro l pre x W ⟨⟨rfl, k0, k1⟩, hB⟩ _
    have g0 := k0.cell; have f0 := k0.frozen
    have k1' := k1.other (B' := w.heap.size) (by omega) (.int .i64 x)
    have g1 := k1'.cell; have f1 := k1'.frozen
    gi_wp2
    exact ⟨(KeepsOthers.setCell _ _ _).trans (KeepsOthers.setCell _ _ _), ⟨rfl, x, rfl, (k0.set _).other (by omega) _, k1'.set _⟩, (hB.setCell (p := ⟨w.heap.size, 0, none⟩) (Nat.le_refl _) _).setCell (p := ⟨w.heap.size + 1, 0, none⟩) (by simp) _⟩
  case done =>
    rintro D ys W hD rfl ⟨⟨hnil, k0, k1⟩, hB⟩ hK
    have g0 := k0.cell; have f0 := k0.frozen
    have k1' := k1.other (B' := w.heap.size) (by omega) (.int .i64 0)
    have g1 := k1'.cell; have f1 := k1'.frozen
    gi_wp2
    have hK' := ((KeepsOthers.setCell W ⟨w.heap.size, 0, none⟩ (.int .i64 0)).trans (KeepsOthers.setCell _ ⟨w.heap.size + 1, 0, none⟩ (.bool false))).same D _ hK rfl
    refine ⟨by simp, .inl ⟨_, _, rfl, run_takeDeferred hK', ?_⟩⟩
    have d0 := (box_own ((k0.set (.int .i64 0)).other (B' := w.heap.size + 1) (by omega) (.bool false)) (grownBy_putObj' _ D (.deferred none)) (fun r e => by cases e; exact ⟨_, hK', rfl⟩)).cell
    have d1 := (box_own (k1'.set (.bool false)) (grownBy_putObj' _ D (.deferred none)) (fun r e => by cases e; exact ⟨_, hK', rfl⟩)).cell
    refine ⟨.tuple #[.int .i64 0, .bool false], ?_, by rw [firstS_nil hnil], ((hB.setCell (p := ⟨w.heap.size, 0, none⟩) (Nat.le_refl _) _).setCell (p := ⟨w.heap.size + 1, 0, none⟩) (by simp) _).trans (belowK_b (w := w) (Nat.le_refl _) _ D _ _ (by simp at hD; omega) hK' rfl rfl)⟩
    simp [results, Tryd.f11, go_sem, d0, d1]
  case stop =>
    rintro D c pre W hD hpre ⟨⟨rfl, x, rfl, k0, k1⟩, hB⟩ hK
    gi_wp2
    refine ⟨by simp, .inl ⟨_, _, rfl, run_takeDeferred hK, ?_⟩⟩
    have d0 := (box_own k0 (grownBy_putObj' _ D (.deferred none)) (fun r e => by cases e; exact ⟨_, hK, rfl⟩)).cell
    have d1 := (box_own k1 (grownBy_putObj' _ D (.deferred none)) (fun r e => by cases e; exact ⟨_, hK, rfl⟩)).cell
    refine ⟨.tuple #[.int .i64 x, .bool true], ?_, by rw [firstS_pre hpre], hB.trans (belowK_b (w := w) (Nat.le_refl _) W D _ _ (by simp at hD; omega) hK rfl rfl)⟩
    simp [results, Tryd.f11, go_sem, d0, d1]

end Go.Proofs.YtclhmocdeiebbaaDoor
