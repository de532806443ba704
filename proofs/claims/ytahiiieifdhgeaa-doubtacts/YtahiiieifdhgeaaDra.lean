/-
  Raise: what is refused, and what was told already.
-/
import Derived.Test.YtahiiieifdhgeaaDow
namespace Go.Proofs.Ytahiiieifdhgeaa
open Go.RowKit Go.Maps

/-- The three boxes of Raise. -/
structure Bs (G : Nat) (n i s nodes : Int) (base : Nat) (w : World) : Prop where
  u : Bx 34 G n i s w
  n : w.heap[G + 1]? = some (.cells #[.int .i64 nodes] 3 (0, 0))
  b : w.heap[G + 1 + 1]? = some (.cells #[.float .f64 base] 35 (0, 0))
section
variable {G : Nat} {n i s nodes : Int} {base : Nat} {w w' : World}
theorem Bs.keep (h : Bs G n i s nodes base w) (e : ∀ k, G ≤ k → k ≤ G + 2 → w'.heap[k]? = w.heap[k]?) : Bs G n i s nodes base w' :=
  ⟨h.u.keep (e G (by omega) (by omega)), (e (G + 1) (by omega) (by omega)).trans h.n, (e (G + 1 + 1) (by omega) (by omega)).trans h.b⟩
theorem Bs.lt (h : Bs G n i s nodes base w) : G + 2 < w.heap.size := (Array.getElem?_eq_some_iff.1 h.b).1
theorem Bs.below (h : Bs G n i s nodes base w) (b : Below w.heap.size w w') : Bs G n i s nodes base w' := h.keep fun k _ hk => b.block k (by have := h.lt; omega)
theorem Bs.cn (h : Bs G n i s nodes base w) : w.cell? ⟨G + 1, 0, none⟩ = some (.int .i64 nodes) := by simp [World.cell?, h.n]
theorem Bs.cb (h : Bs G n i s nodes base w) : w.cell? ⟨G + 1 + 1, 0, none⟩ = some (.float .f64 base) := by simp [World.cell?, h.b]
end
/-- The world behind the three boxes. -/
def boxW (n i s nodes : Int) (base : Nat) (w : World) : World := ((w.alloc (.cells #[.int .i64 n, .int .u64 i, .int .i64 s] 34)).alloc (.cells #[.int .i64 nodes] 3)).alloc (.cells #[.float .f64 base] 35)
theorem boxW_below (n i s nodes : Int) (base : Nat) (w : World) : Below w.heap.size w (boxW n i s nodes base w) := (((Below.refl _ w).alloc (Nat.le_refl _) _).alloc (by simp) _).alloc (by simp; omega) _
theorem boxW_bs (n i s nodes : Int) (base : Nat) (w : World) : Bs w.heap.size n i s nodes base (boxW n i s nodes base w) := by
  have e1 := heap_alloc_new w (.cells #[.int .i64 n, .int .u64 i, .int .i64 s] 34)
  have e2 := heap_alloc_new (w.alloc (.cells #[.int .i64 n, .int .u64 i, .int .i64 s] 34)) (.cells #[.int .i64 nodes] 3)
  have e3 := heap_alloc_new ((w.alloc (.cells #[.int .i64 n, .int .u64 i, .int .i64 s] 34)).alloc (.cells #[.int .i64 nodes] 3)) (.cells #[.float .f64 base] 35)
  have k2 := Below.heap_alloc (w.alloc (.cells #[.int .i64 n, .int .u64 i, .int .i64 s] 34)) (.cells #[.int .i64 nodes] 3)
  have k3 := Below.heap_alloc ((w.alloc (.cells #[.int .i64 n, .int .u64 i, .int .i64 s] 34)).alloc (.cells #[.int .i64 nodes] 3)) (.cells #[.float .f64 base] 35)
  refine ⟨⟨?_⟩, ?_, ?_⟩
  · exact (k3 _ (by simp; omega)).trans ((k2 _ (by simp)).trans e1)
  · refine (k3 _ (by simp)).trans ?_
    simpa using e2
  · have z : ((w.alloc (.cells #[.int .i64 n, .int .u64 i, .int .i64 s] 34)).alloc (.cells #[.int .i64 nodes] 3)).heap.size = w.heap.size + 1 + 1 := by simp
    rw [z] at e3
    exact e3

set_option maxRecDepth 100000 in
set_option maxHeartbeats 2000000 in
theorem raise_arg (p : Nat) (n i s from_ now nodes : Int) (base : Nat) (ha : argS n s from_ = false) (w : World) :
    Calls Try.prog 9 #[.pointer (some ⟨p, 0, none⟩), .agg #[.int .i64 n, .int .u64 i, .int .i64 s], .int .i64 from_, .int .u64 now, .int .i64 nodes, .float .f64 base] w fun e w' => e = .returned (.tuple #[.bool false, .int .i64 1]) ∧ Below w.heap.size w w' := by
  have bW := boxW_below n i s nodes base w
  have hS := boxW_bs n i s nodes base w
  obtain ⟨w3, HW3⟩ : ∃ w3, Hid (w3 = boxW n i s nodes base w) := ⟨_, rfl⟩
  rw [← HW3.out] at bW hS
  unfold boxW at HW3
  have hz := bW.size
  obtain ⟨G, HG⟩ : ∃ G, Hid (w.heap.size = G) := ⟨_, rfl⟩
  rw [HG.out] at bW hS hz ⊢
  have hmay := fun W => may_any n i s W
  have x0 := hS.u.c0
  have x1 := hS.u.c1
  have x2 := hS.u.c2
  cases hm : mayS n s
  · rw [hm] at hmay
    go_enter Try.func9, Try.ntmps9
    go_upto_region 1 with fail
    rw [← HW3.out, HG.out]
    go_wp2_with fail
    refine (hmay _).mono ?_
    rintro e wM ⟨rfl, hb⟩
    go_wp2_with fail
    go_ret2
    exact ⟨rfl, bW.trans (hb.mono hz)⟩
  · rw [hm] at hmay
    unfold argS at ha
    rw [hm, Bool.true_and] at ha
    have hs : s = 1 ∨ (s != 1) = true := by
      by_cases h : s = 1
      · exact Or.inl h
      · exact Or.inr (by simpa using h)
    rcases hs with rfl | hs
    · have hf : from_ < 0 ∨ (0 ≤ from_ ∧ 64 ≤ from_) := by simp at ha; omega
      clear ha
      rcases hf with hf | hf
      all_goals
        go_enter Try.func9, Try.ntmps9
        go_upto_region 1 with fail
        rw [← HW3.out, HG.out]
        go_wp2_with fail
        refine (hmay _).mono ?_
        rintro e wM ⟨rfl, hb⟩
        have y2 := (hS.below hb).u.c2
        go_wp2_with fail
        go_ret2
        exact ⟨rfl, bW.trans (hb.mono hz)⟩
    · clear ha
      go_enter Try.func9, Try.ntmps9
      go_upto_region 1 with fail
      rw [← HW3.out, HG.out]
      go_wp2_with fail
      refine (hmay _).mono ?_
      rintro e wM ⟨rfl, hb⟩
      have y2 := (hS.below hb).u.c2
      go_wp2_with fail
      go_ret2
      exact ⟨rfl, bW.trans (hb.mono hz)⟩
end Go.Proofs.Ytahiiieifdhgeaa
