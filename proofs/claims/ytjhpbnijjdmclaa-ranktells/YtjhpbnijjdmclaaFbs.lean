/-
  The reference's Best.
-/
import Derived.Test.YtjhpbnijjdmclaaBst
import Derived.Test.YtjhpbnijjdmclaaKpt
namespace Go.Proofs.Ytjhpbnijjdmclaa
open Go.RowKit

/-- What the reference's Best keeps: the best, in a box; the room for what it answers. -/
structure Rb (w0 : World) (gb gr : Nat) (b : Upd) (w : World) : Prop where
  best : Bx 24 gb b.n b.i b.s w
  room : Bx 24 gr 0 0 0 w
  below : Below w0.heap.size w0 w
  g1 : w0.heap.size ≤ gb
  g4 : gr ≠ gb
section
variable {w0 : World} {gb gr : Nat} {b : Upd} {w w' : World}
theorem Rb.later (h : Rb w0 gb gr b w) (hb : Below w.heap.size w w') : Rb w0 gb gr b w' := ⟨h.best.below hb, h.room.below hb, h.below.trans (hb.mono h.below.size), h.g1, h.g4⟩
theorem Rb.drew (h : Rb w0 gb gr b w) : Rb w0 gb gr b w.drew := ⟨⟨h.best.heap⟩, ⟨h.room.heap⟩, h.below.trans ⟨rfl, rfl, rfl, Nat.le_refl _, fun _ _ => rfl⟩, h.g1, h.g4⟩
theorem Rb.on {x : Kept (Rb w0 gb gr b)} (hb : Below x.at_.heap.size x.at_ w') : ∃ y : Kept (Rb w0 gb gr b), w' = y.at_ := ⟨⟨w', x.is.later hb⟩, rfl⟩
theorem Rb.put (h : Rb w0 gb gr b w) (u : Upd) : Rb w0 gb gr u (((w.setCell ⟨gb, 0, none⟩ (.int .i64 u.n)).setCell ⟨gb, 1, none⟩ (.int .u64 u.i)).setCell ⟨gb, 2, none⟩ (.int .i64 u.s)) :=
  ⟨h.best.set u.n u.i u.s, ((h.room.other h.g4 _).other h.g4 _).other h.g4 _, ((h.below.setCell (p := ⟨gb, 0, none⟩) h.g1 _).setCell (p := ⟨gb, 1, none⟩) h.g1 _).setCell (p := ⟨gb, 2, none⟩) h.g1 _, h.g1, h.g4⟩
end
theorem Rb.new (w : World) : Rb w (w.heap.size + 1) w.heap.size ⟨0, 0, 0⟩ ((w.alloc (.cells #[.int .i64 0, .int .u64 0, .int .i64 0] 24)).alloc (.cells #[.int .i64 0, .int .u64 0, .int .i64 0] 24)) := by
  have h1 := Bx.new 24 0 0 0 w
  have b1 : Below w.heap.size w (w.alloc (.cells #[.int .i64 0, .int .u64 0, .int .i64 0] 24)) := (Below.refl _ _).alloc (Nat.le_refl _) _
  have e1 : (w.alloc (.cells #[.int .i64 0, .int .u64 0, .int .i64 0] 24)).heap.size = w.heap.size + 1 := by simp
  generalize w.alloc _ = w1 at *
  have h2 := Bx.new 24 0 0 0 w1
  have b2 : Below w1.heap.size w1 (w1.alloc (.cells #[.int .i64 0, .int .u64 0, .int .i64 0] 24)) := (Below.refl _ _).alloc (Nat.le_refl _) _
  rw [e1] at h2
  exact ⟨h2, h1.below b2, b1.trans (b2.mono b1.size), by omega, by omega⟩

set_option maxRecDepth 100000 in
set_option maxHeartbeats 1000000 in
theorem fbest_any (v : Value) (l : List Upd) (w : World) (hR : Ru v l w) (hl : l.length ≤ 1000000) :
    Calls Try.prog 11 #[v] w fun e w' => e = .returned (.tuple #[.agg #[.int .i64 (bestS l).1.n, .int .u64 (bestS l).1.i, .int .i64 (bestS l).1.s], .bool (bestS l).2]) ∧ Below w.heap.size w w' := by
  obtain ⟨a, cap, rfl, h1, h2, h3⟩ := id hR
  have hlen : (l.length : Int) ≤ 1000000 := by omega
  have hB0 := Rb.new w
  obtain ⟨R, HR⟩ : ∃ R, Hid (bestS l = R) := ⟨_, rfl⟩
  rw [HR.out]
  go_enter Try.func11, Try.ntmps11
  go_wp2_with fail
  generalize World.alloc _ _ = w3 at hB0
  generalize w.heap.size + 1 = gb at *
  go_loopg [5, 6] l.length (fun gk t5 t6 wr => ∃ (k : Nat) (b : Upd) (f : Bool), k + gk = l.length ∧ t5 = .bool f ∧ t6 = .int .i64 k ∧ Hid (bestS (l.take k) = (b, f)) ∧ Rb w gb w.heap.size b wr)
  case atStart => exact ⟨0, ⟨0, 0, 0⟩, false, by omega, rfl, rfl, rfl, hB0⟩
  case round =>
    obtain ⟨k, b, f, hk, rfl, rfl, hbest, hB⟩ := hrel
    clear hB0
    by_cases hlt : (k : Int) < l.length
    · have hk' : k < l.length := by omega
      have k0 : (0 : Int) ≤ k := by omega
      rcases h3 with h3 | ⟨g, off, rfl, h3⟩
      · omega
      have hcell : ∀ w', Below w.heap.size w w' → w'.cell? ⟨g, off + k * 3, none⟩ = some (.int .i64 l[k].n) ∧ w'.cell? ⟨g, off + k * 3 + 1, none⟩ = some (.int .u64 l[k].i) ∧ w'.cell? ⟨g, off + k * 3 + 2, none⟩ = some (.int .i64 l[k].s) := by
        intro w' hw'
        obtain ⟨_, _, e, _, _, e3⟩ := hR.below hw'
        cases e
        rcases e3 with e3 | ⟨g', off', e, e3⟩
        · omega
        · cases e; exact e3 k hk'
      have hstep : Hid (bestS (l.take (k + 1)) = stepS (b, f) l[k]) := by
        show _ = _
        rw [bestS_take l k hk', hbest.out]
      generalize l[k] = u at *
      have hne : Nonempty (Kept (Rb w gb w.heap.size b)) := ⟨⟨_, hB⟩⟩
      have c0 : ∀ x : Kept (Rb w gb w.heap.size b), x.at_.cell? ⟨g, off + k * 3, none⟩ = some (.int .i64 u.n) := fun x => (hcell _ x.is.below).1
      have c1 : ∀ x : Kept (Rb w gb w.heap.size b), x.at_.cell? ⟨g, off + k * 3 + 1, none⟩ = some (.int .u64 u.i) := fun x => (hcell _ x.is.below).2.1
      have c2 : ∀ x : Kept (Rb w gb w.heap.size b), x.at_.cell? ⟨g, off + k * 3 + 2, none⟩ = some (.int .i64 u.s) := fun x => (hcell _ x.is.below).2.2
      have d0 : ∀ x : Kept (Rb w gb w.heap.size b), x.at_.cell? ⟨gb, 0, none⟩ = some (.int .i64 b.n) := fun x => x.is.best.c0
      have d1 : ∀ x : Kept (Rb w gb w.heap.size b), x.at_.cell? ⟨gb, 1, none⟩ = some (.int .u64 b.i) := fun x => x.is.best.c1
      have d2 : ∀ x : Kept (Rb w gb w.heap.size b), x.at_.cell? ⟨gb, 2, none⟩ = some (.int .i64 b.s) := fun x => x.is.best.c2
      cases hm : mayS u.n u.s
      case false =>
        rw [show stepS (b, f) u = (b, f) from by simp [stepS, mayU, hm]] at hstep
        go_wp2_with fail
        refine wp_region_kept (Rb w gb w.heap.size b) (by kernel_rfl) (by kernel_rfl) hB.drew ?_
        repeat (go_big_quiet_step (first
          | (refine (fmay_any _ _ _ _).mono ?_; rw [hm]; rintro e w4 ⟨rfl, hb4⟩; exact ⟨rfl, Rb.on hb4⟩)
          | (refine (fnewer_any _ _ _ _ _ _ _).mono ?_; rw [hN]; rintro e w4 ⟨rfl, hb4⟩; exact ⟨rfl, Rb.on hb4⟩)))
        refine wpQuiet_nil ?_
        intro w5 h5
        go_wp2_with fail
        go_roundg (gk - 1)
        case rel => exact ⟨k + 1, b, f, by omega, rfl, by go_num, hstep, h5⟩
        case measure => omega
      case true =>
        cases f
        case false =>
          rw [show stepS (b, false) u = (u, true) from by simp [stepS, mayU, hm, hearS]] at hstep
          go_wp2_with fail
          refine wp_region_kept (Rb w gb w.heap.size b) (by kernel_rfl) (by kernel_rfl) hB.drew ?_
          repeat (go_big_quiet_step (first
            | (refine (fmay_any _ _ _ _).mono ?_; rw [hm]; rintro e w4 ⟨rfl, hb4⟩; exact ⟨rfl, Rb.on hb4⟩)
            | (refine (fnewer_any _ _ _ _ _ _ _).mono ?_; rw [hN]; rintro e w4 ⟨rfl, hb4⟩; exact ⟨rfl, Rb.on hb4⟩)))
          refine wpQuiet_nil ?_
          intro w5 h5
          obtain ⟨c0', c1', c2'⟩ := hcell w5 h5.below
          have x0 := h5.best.c0
          have x1 := h5.best.c1
          have x2 := h5.best.c2
          have y0 := h5.best.free 0
          have y1 := h5.best.free 1
          have y2 := h5.best.free 2
          have h6 := h5.put u
          go_wp2_with fail
          go_roundg (gk - 1)
          case rel => exact ⟨k + 1, u, true, by omega, rfl, by go_num, hstep, h6⟩
          case measure => omega
        case true =>
          cases hn : (u.n == b.n)
          case false =>
            rw [show stepS (b, true) u = (b, true) from by simp [stepS, mayU, hm, hearS, hn]] at hstep
            go_wp2_with fail
            refine wp_region_kept (Rb w gb w.heap.size b) (by kernel_rfl) (by kernel_rfl) hB.drew ?_
            repeat (go_big_quiet_step (first
              | (refine (fmay_any _ _ _ _).mono ?_; rw [hm]; rintro e w4 ⟨rfl, hb4⟩; exact ⟨rfl, Rb.on hb4⟩)
              | (refine (fnewer_any _ _ _ _ _ _ _).mono ?_; rw [hN]; rintro e w4 ⟨rfl, hb4⟩; exact ⟨rfl, Rb.on hb4⟩)))
            refine wpQuiet_nil ?_
            intro w5 h5
            go_wp2_with fail
            go_roundg (gk - 1)
            case rel => exact ⟨k + 1, b, true, by omega, rfl, by go_num, hstep, h5⟩
            case measure => omega
          case true =>
            cases hN : newerS u.i u.s b.i b.s
            case false =>
              rw [show stepS (b, true) u = (b, true) from by simp [stepS, mayU, hm, hearS, hn, newerU, hN]] at hstep
              go_wp2_with fail
              refine wp_region_kept (Rb w gb w.heap.size b) (by kernel_rfl) (by kernel_rfl) hB.drew ?_
              repeat (go_big_quiet_step (first
                | (refine (fmay_any _ _ _ _).mono ?_; rw [hm]; rintro e w4 ⟨rfl, hb4⟩; exact ⟨rfl, Rb.on hb4⟩)
                | (refine (fnewer_any _ _ _ _ _ _ _).mono ?_; rw [hN]; rintro e w4 ⟨rfl, hb4⟩; exact ⟨rfl, Rb.on hb4⟩)))
              refine wpQuiet_nil ?_
              intro w5 h5
              go_wp2_with fail
              go_roundg (gk - 1)
              case rel => exact ⟨k + 1, b, true, by omega, rfl, by go_num, hstep, h5⟩
              case measure => omega
            case true =>
              rw [show stepS (b, true) u = (u, true) from by simp [stepS, mayU, hm, hearS, hn, newerU, hN]] at hstep
              go_wp2_with fail
              refine wp_region_kept (Rb w gb w.heap.size b) (by kernel_rfl) (by kernel_rfl) hB.drew ?_
              repeat (go_big_quiet_step (first
                | (refine (fmay_any _ _ _ _).mono ?_; rw [hm]; rintro e w4 ⟨rfl, hb4⟩; exact ⟨rfl, Rb.on hb4⟩)
                | (refine (fnewer_any _ _ _ _ _ _ _).mono ?_; rw [hN]; rintro e w4 ⟨rfl, hb4⟩; exact ⟨rfl, Rb.on hb4⟩)))
              refine wpQuiet_nil ?_
              intro w5 h5
              obtain ⟨c0', c1', c2'⟩ := hcell w5 h5.below
              have x0 := h5.best.c0
              have x1 := h5.best.c1
              have x2 := h5.best.c2
              have y0 := h5.best.free 0
              have y1 := h5.best.free 1
              have y2 := h5.best.free 2
              have h6 := h5.put u
              go_wp2_with fail
              go_roundg (gk - 1)
              case rel => exact ⟨k + 1, u, true, by omega, rfl, by go_num, hstep, h6⟩
              case measure => omega
    · have ek : l.length ≤ k := by omega
      have e := hbest.out
      rw [bestS_all l k ek, HR.out] at e
      subst e
      have g4 := hB.g4
      have x0 := hB.best.c0
      have x1 := hB.best.c1
      have x2 := hB.best.c2
      have r0 := hB.room.c0
      have r1 := hB.room.c1
      have r2 := hB.room.c2
      have q0 := hB.room.free 0
      have q1 := hB.room.free 1
      have q2 := hB.room.free 2
      have hend := hB.room.set b.n b.i b.s
      have hbl := ((hB.below.setCell (p := ⟨w.heap.size, 0, none⟩) (Nat.le_refl _) (.int .i64 b.n)).setCell (p := ⟨w.heap.size, 1, none⟩) (Nat.le_refl _) (.int .u64 b.i)).setCell (p := ⟨w.heap.size, 2, none⟩) (Nat.le_refl _) (.int .i64 b.s)
      go_wp2_with fail
      generalize World.setCell _ _ _ = w7 at *
      clear x0 x1 x2 r0 r1 r2 q0 q1 q2
      have r0 := hend.c0
      have r1 := hend.c1
      have r2 := hend.c2
      refine bodyPost_ret (v := .tuple #[.agg #[.int .i64 b.n, .int .u64 b.i, .int .i64 b.s], .bool f]) ?_ rfl ⟨rfl, hbl⟩
      rw [results_cell_tmp rfl]
      go_simp
end Go.Proofs.Ytjhpbnijjdmclaa
