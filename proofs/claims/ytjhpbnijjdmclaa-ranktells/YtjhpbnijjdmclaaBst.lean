/-
  Best.
-/
import Derived.Test.YtjhpbnijjdmclaaHea
import Derived.Laws.ResultCell
namespace Go.Proofs.Ytjhpbnijjdmclaa
open Go.RowKit

theorem Ru.keep {v : Value} {l : List Upd} {w w' : World} (h : Ru v l w) (hw : ∀ g, v.ownBlock = some g → g < w.heap.size → w'.heap[g]? = w.heap[g]?) : Ru v l w' := by
  obtain ⟨a, cap, rfl, h1, h2, h3⟩ := h
  refine ⟨a, cap, rfl, h1, h2, ?_⟩
  rcases h3 with h3 | ⟨g, off, rfl, h3⟩
  · exact Or.inl h3
  · refine Or.inr ⟨g, off, rfl, fun j hj => ?_⟩
    obtain ⟨c0, c1, c2⟩ := h3 j hj
    have hlt : g < w.heap.size := World.block_lt_of_cell? _ _ c0
    have e := hw g rfl hlt
    exact ⟨(World.cell?_of_block (w := w) e).trans c0, (World.cell?_of_block (w := w) e).trans c1, (World.cell?_of_block (w := w) e).trans c2⟩
theorem Ru.below {v : Value} {l : List Upd} {w w' : World} (h : Ru v l w) (hb : Below w.heap.size w w') : Ru v l w' := h.keep fun g _ hg => hb.block g hg

theorem bestS_take (l : List Upd) (k : Nat) (hk : k < l.length) : bestS (l.take (k + 1)) = stepS (bestS (l.take k)) l[k] := by
  unfold bestS
  rw [List.take_add_one, List.getElem?_eq_getElem hk, List.foldl_append]
  rfl
theorem bestS_all (l : List Upd) (k : Nat) (hk : l.length ≤ k) : bestS (l.take k) = bestS l := by rw [List.take_of_length_le hk]

/-- What Best keeps: the best and whether there is one, in boxes; the room for what it answers. -/
structure Bs (w0 : World) (gb gf gr : Nat) (b : Upd × Bool) (w : World) : Prop where
  best : Bx 41 gb b.1.n b.1.i b.1.s w
  found : Fl gf b.2 w
  room : Bx 24 gr 0 0 0 w
  below : Below w0.heap.size w0 w
  g1 : w0.heap.size ≤ gb
  g2 : w0.heap.size ≤ gf
  g3 : gf ≠ gb
  g4 : gr ≠ gb
  g5 : gr ≠ gf
section
variable {w0 : World} {gb gf gr : Nat} {b : Upd × Bool} {w w' : World}
theorem Bs.later (h : Bs w0 gb gf gr b w) (hb : Below w.heap.size w w') : Bs w0 gb gf gr b w' := ⟨h.best.below hb, h.found.below hb, h.room.below hb, h.below.trans (hb.mono h.below.size), h.g1, h.g2, h.g3, h.g4, h.g5⟩
theorem Bs.hear (h : Bs w0 gb gf gr b w) {b' : Upd × Bool} (h1 : Bx 41 gb b'.1.n b'.1.i b'.1.s w') (h2 : Fl gf b'.2 w') (hb : But2 w.heap.size gf gb w w') : Bs w0 gb gf gr b' w' := by
  have k1 := h.g1
  have k2 := h.g2
  have hz := h.below.size
  refine ⟨h1, h2, h.room.keep (hb.block gr h.room.lt h.g5 h.g4), ⟨hb.os.trans h.below.os, hb.tape.trans h.below.tape, hb.output.trans h.below.output, Nat.le_trans h.below.size hb.size, fun k hk => (hb.block k (by omega) (by omega) (by omega)).trans (h.below.block k hk)⟩, h.g1, h.g2, h.g3, h.g4, h.g5⟩
end

theorem Bs.new (w : World) : Bs w (w.heap.size + 1) (w.heap.size + 1 + 1) w.heap.size (⟨0, 0, 0⟩, false)
    (((w.alloc (.cells #[.int .i64 0, .int .u64 0, .int .i64 0] 24)).alloc (.cells #[.int .i64 0, .int .u64 0, .int .i64 0] 41)).alloc (.cells #[.bool false] 4)) := by
  have h1 := Bx.new 24 0 0 0 w
  have b1 : Below w.heap.size w (w.alloc (.cells #[.int .i64 0, .int .u64 0, .int .i64 0] 24)) := (Below.refl _ _).alloc (Nat.le_refl _) _
  have e1 : (w.alloc (.cells #[.int .i64 0, .int .u64 0, .int .i64 0] 24)).heap.size = w.heap.size + 1 := by simp
  generalize w.alloc _ = w1 at *
  have h2 := Bx.new 41 0 0 0 w1
  have b2 : Below w1.heap.size w1 (w1.alloc (.cells #[.int .i64 0, .int .u64 0, .int .i64 0] 41)) := (Below.refl _ _).alloc (Nat.le_refl _) _
  have e2 : (w1.alloc (.cells #[.int .i64 0, .int .u64 0, .int .i64 0] 41)).heap.size = w1.heap.size + 1 := by simp
  generalize w1.alloc _ = w2 at *
  have h3 : Fl w2.heap.size false (w2.alloc (.cells #[.bool false] 4)) := ⟨heap_alloc_new w2 _⟩
  have b3 : Below w2.heap.size w2 (w2.alloc (.cells #[.bool false] 4)) := (Below.refl _ _).alloc (Nat.le_refl _) _
  rw [e2, e1] at h3
  rw [e1] at h2
  exact ⟨h2.below b3, h3, (h1.below b2).below b3, b1.trans ((b2.mono b1.size).trans (b3.mono (Nat.le_trans b1.size b2.size))), by omega, by omega, by omega, by omega, by omega⟩

set_option maxHeartbeats 1000000 in
theorem best_any (v : Value) (l : List Upd) (w : World) (hR : Ru v l w) (hl : l.length ≤ 1000000) :
    Calls Try.prog 10 #[v] w fun e w' => e = .returned (.tuple #[.agg #[.int .i64 (bestS l).1.n, .int .u64 (bestS l).1.i, .int .i64 (bestS l).1.s], .bool (bestS l).2]) ∧ Below w.heap.size w w' := by
  obtain ⟨a, cap, rfl, h1, h2, h3⟩ := id hR
  have hlen : (l.length : Int) ≤ 1000000 := by omega
  have hB0 := Bs.new w
  obtain ⟨R, HR⟩ : ∃ R, Hid (bestS l = R) := ⟨_, rfl⟩
  rw [HR.out]
  go_enter Try.func10, Try.ntmps10
  go_wp2_with fail
  generalize World.alloc _ _ = w3 at hB0
  generalize w.heap.size + 1 + 1 = gf at *
  generalize w.heap.size + 1 = gb at *
  go_loopg [12] l.length (fun gk t12 wr => ∃ k : Nat, k + gk = l.length ∧ t12 = .int .i64 k ∧ Bs w gb gf w.heap.size (bestS (l.take k)) wr)
  case atStart => exact ⟨0, by omega, rfl, hB0⟩
  case round =>
    obtain ⟨k, hk, rfl, hB⟩ := hrel
    clear hB0
    by_cases hlt : (k : Int) < l.length
    · have hk' : k < l.length := by omega
      have k0 : (0 : Int) ≤ k := by omega
      rcases h3 with h3 | ⟨g, off, rfl, h3⟩
      · omega
      obtain ⟨c0, c1, c2⟩ : wr.cell? ⟨g, off + k * 3, none⟩ = some (.int .i64 l[k].n) ∧ wr.cell? ⟨g, off + k * 3 + 1, none⟩ = some (.int .u64 l[k].i) ∧ wr.cell? ⟨g, off + k * 3 + 2, none⟩ = some (.int .i64 l[k].s) := by
        obtain ⟨_, _, e, _, _, e3⟩ := hR.below hB.below
        cases e
        rcases e3 with e3 | ⟨g', off', e, e3⟩
        · omega
        · cases e; exact e3 k hk'
      have hst' := bestS_take l k hk'
      generalize l[k] = u at *
      have hu := Bx.new 24 u.n u.i u.s wr
      have ha : Below wr.heap.size wr (wr.alloc (.cells #[.int .i64 u.n, .int .u64 u.i, .int .i64 u.s] 24)) := (Below.refl _ _).alloc (Nat.le_refl _) _
      have hB1 := hB.later ha
      go_wp2_with fail
      refine (may_any _ _ _ _).mono ?_
      generalize World.alloc _ _ = w4 at hu hB1
      clear ha hB c0 c1 c2
      generalize wr.heap.size = gu at *
      cases hm : mayS u.n u.s
      case false =>
        rintro e w5 ⟨rfl, hb5⟩
        have hB2 := hB1.later hb5
        go_wp2_with fail
        go_roundg (gk - 1)
        case rel => exact ⟨k + 1, by omega, by go_num, by rw [show bestS (l.take (k + 1)) = bestS (l.take k) from by rw [hst']; simp [stepS, mayU, hm]]; exact hB2⟩
        case measure => omega
      case true =>
        rintro e w5 ⟨rfl, hb5⟩
        have hB2 := hB1.later hb5
        have hu2 := hu.below hb5
        clear hB1 hu
        have u0 := hu2.c0
        have u1 := hu2.c1
        have u2 := hu2.c2
        go_wp2_with fail
        refine (hear_any u _ _ gf gb _ hB2.best hB2.found hB2.g3).mono ?_
        rintro e w6 ⟨rfl, k1, k2, k3⟩
        have hB3 := hB2.hear (b' := hearS (bestS (l.take k)).1 (bestS (l.take k)).2 u) k1 k2 k3
        go_wp2_with fail
        go_roundg (gk - 1)
        case rel => exact ⟨k + 1, by omega, by go_num, by rw [hst']; simp only [stepS, mayU, hm, if_true]; exact hB3⟩
        case measure => omega
    · have ek : l.length ≤ k := by omega
      rw [bestS_all l k ek, HR.out] at hB
      have g4 := hB.g4
      have g5 := hB.g5
      have x0 := hB.best.c0
      have x1 := hB.best.c1
      have x2 := hB.best.c2
      have z0 := hB.found.c
      have r0 := hB.room.c0
      have r1 := hB.room.c1
      have r2 := hB.room.c2
      have q0 := hB.room.free 0
      have q1 := hB.room.free 1
      have q2 := hB.room.free 2
      go_wp2_with fail
      go_region
      have hend := hB.room.set R.1.n R.1.i R.1.s
      have hbl : Below w.heap.size w (((wr.setCell ⟨w.heap.size, 0, none⟩ (.int .i64 R.1.n)).setCell ⟨w.heap.size, 1, none⟩ (.int .u64 R.1.i)).setCell ⟨w.heap.size, 2, none⟩ (.int .i64 R.1.s)).drew :=
        (((hB.below.setCell (p := ⟨w.heap.size, 0, none⟩) (Nat.le_refl _) _).setCell (p := ⟨w.heap.size, 1, none⟩) (Nat.le_refl _) _).setCell (p := ⟨w.heap.size, 2, none⟩) (Nat.le_refl _) _).trans ⟨rfl, rfl, rfl, Nat.le_refl _, fun _ _ => rfl⟩
      have hend' : Bx 24 w.heap.size R.1.n R.1.i R.1.s (((wr.setCell ⟨w.heap.size, 0, none⟩ (.int .i64 R.1.n)).setCell ⟨w.heap.size, 1, none⟩ (.int .u64 R.1.i)).setCell ⟨w.heap.size, 2, none⟩ (.int .i64 R.1.s)).drew := ⟨hend.heap⟩
      generalize World.drew _ = w7 at *
      clear x0 x1 x2 z0 r0 r1 r2 q0 q1 q2
      have r0 := hend'.c0
      have r1 := hend'.c1
      have r2 := hend'.c2
      go_wp2_with fail
      refine bodyPost_ret (v := .tuple #[.agg #[.int .i64 R.1.n, .int .u64 R.1.i, .int .i64 R.1.s], .bool R.2]) ?_ rfl ⟨rfl, hbl⟩
      rw [results_cell_tmp rfl]
      go_simp
end Go.Proofs.Ytjhpbnijjdmclaa
