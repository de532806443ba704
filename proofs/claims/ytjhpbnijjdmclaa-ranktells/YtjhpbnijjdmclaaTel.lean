/-
  The walk of RankTells.
-/
import Derived.Test.YtjhpbnijjdmclaaFbs
import Derived.Test.YtjhpbnijjdmclaaOth
namespace Go.Proofs.Ytjhpbnijjdmclaa
open Go.RowKit

/-- Two boxes. -/
structure Duo (w0 : World) (n i s m j t : Int) (w : World) : Prop where
  a : Bx 24 w0.heap.size n i s w
  b : Bx 24 (w0.heap.size + 1) m j t w
  below : Below w0.heap.size w0 w
/-- Two boxes, and two of the best. -/
structure Fou (w0 : World) (n i s m j t : Int) (gx gy : Nat) (r : Upd) (w : World) : Prop where
  a : Bx 24 w0.heap.size n i s w
  b : Bx 24 (w0.heap.size + 1) m j t w
  x : Bx 24 gx r.n r.i r.s w
  y : Bx 24 gy r.n r.i r.s w
  below : Below w0.heap.size w0 w
section
variable {w0 : World} {n i s m j t : Int} {gx gy : Nat} {r : Upd} {w w' : World}
theorem Duo.later (h : Duo w0 n i s m j t w) (hb : Below w.heap.size w w') : Duo w0 n i s m j t w' := ⟨h.a.below hb, h.b.below hb, h.below.trans (hb.mono h.below.size)⟩
theorem Duo.new (w : World) (n i s m j t : Int) : Duo w n i s m j t ((w.alloc (.cells #[.int .i64 n, .int .u64 i, .int .i64 s] 24)).alloc (.cells #[.int .i64 m, .int .u64 j, .int .i64 t] 24)) := by
  have h1 := Bx.new 24 n i s w
  have b1 : Below w.heap.size w (w.alloc (.cells #[.int .i64 n, .int .u64 i, .int .i64 s] 24)) := (Below.refl _ _).alloc (Nat.le_refl _) _
  have e1 : (w.alloc (.cells #[.int .i64 n, .int .u64 i, .int .i64 s] 24)).heap.size = w.heap.size + 1 := by simp
  generalize w.alloc _ = w1 at *
  have h2 := Bx.new 24 m j t w1
  have b2 : Below w1.heap.size w1 (w1.alloc (.cells #[.int .i64 m, .int .u64 j, .int .i64 t] 24)) := (Below.refl _ _).alloc (Nat.le_refl _) _
  rw [e1] at h2
  exact ⟨h1.below b2, h2, b1.trans (b2.mono b1.size)⟩
theorem Fou.later (h : Fou w0 n i s m j t gx gy r w) (hb : Below w.heap.size w w') : Fou w0 n i s m j t gx gy r w' := ⟨h.a.below hb, h.b.below hb, h.x.below hb, h.y.below hb, h.below.trans (hb.mono h.below.size)⟩
theorem Fou.drew (h : Fou w0 n i s m j t gx gy r w) : Fou w0 n i s m j t gx gy r w.drew := ⟨⟨h.a.heap⟩, ⟨h.b.heap⟩, ⟨h.x.heap⟩, ⟨h.y.heap⟩, h.below.trans ⟨rfl, rfl, rfl, Nat.le_refl _, fun _ _ => rfl⟩⟩
theorem Fou.on {x : Kept (Fou w0 n i s m j t gx gy r)} (hb : Below x.at_.heap.size x.at_ w') : ∃ y : Kept (Fou w0 n i s m j t gx gy r), w' = y.at_ := ⟨⟨w', x.is.later hb⟩, rfl⟩
end
theorem up_form (i : Int) : ∃ p e, (if i == 18446744073709551615 then Value.tuple #[.int .u64 0, .int .i64 60] else .tuple #[.int .u64 (i + 1), .int .i64 0]) = .tuple #[.int .u64 p, .int .i64 e] := by
  split
  · exact ⟨_, _, rfl⟩
  · exact ⟨_, _, rfl⟩

set_option maxRecDepth 100000 in
set_option maxHeartbeats 1000000 in
theorem tells_core (n i s m j t me inc : Int) (a : Option Addr) (len cap : Nat) (l : List Upd) (h0 : (Lit.int .u64 i).wf = true) (h1 : (Lit.int .u64 inc).wf = true) (w : World) (hU : IsUpds w a len cap l) :
    Calls Try.prog 3 #[.agg #[.int .i64 n, .int .u64 i, .int .i64 s], .agg #[.int .i64 m, .int .u64 j, .int .i64 t], .int .i64 me, .int .u64 inc, .slice a len cap] w fun e w' => e = .returned (.bool true) ∧ Below w.heap.size w w' := by
  have k0 := bounds_u64 h0
  have k1 := bounds_u64 h1
  obtain ⟨rfl, hR, _⟩ := hU
  have hD := Duo.new w n i s m j t
  by_cases hl : (200 : Int) < l.length
  · go_enter Try.func3, Try.ntmps3
    go_wp2_with fail
    generalize World.alloc _ _ = w1 at hD
    refine (shown_any _).mono ?_
    rintro e w2 ⟨rfl, hb⟩
    go_wp2_with fail
    go_ret
    exact ⟨rfl, (hD.later hb).below⟩
  go_enter Try.func3, Try.ntmps3
  go_wp2_with fail
  generalize World.alloc _ _ = w1 at hD
  refine (shown_any _).mono ?_
  rintro e w2 ⟨rfl, hb2⟩
  have hD := hD.later hb2
  go_wp2_with fail
  have hl' : l.length ≤ 1000000 := by omega
  refine (best_any _ l _ (hR.below hD.below) hl').mono ?_
  generalize hRR : bestS l = R
  rintro e w3 ⟨rfl, hb3⟩
  have hD := hD.later hb3
  have hx := Bx.new 24 R.1.n R.1.i R.1.s w3
  have hD := hD.later ((Below.refl _ _).alloc (Nat.le_refl _) (.cells #[.int .i64 R.1.n, .int .u64 R.1.i, .int .i64 R.1.s] 24))
  go_wp2_with fail
  generalize World.alloc _ _ = w4 at *
  generalize w3.heap.size = gx at *
  refine (fbest_any _ l _ (hR.below hD.below) hl').mono ?_
  rw [hRR]
  rintro e w5 ⟨rfl, hb5⟩
  have hD := hD.later hb5
  have hx := hx.below hb5
  have hy := Bx.new 24 R.1.n R.1.i R.1.s w5
  have hax : Below w5.heap.size w5 (w5.alloc (.cells #[.int .i64 R.1.n, .int .u64 R.1.i, .int .i64 R.1.s] 24)) := (Below.refl _ _).alloc (Nat.le_refl _) _
  have hx := hx.below hax
  have hD := hD.later hax
  have hF : Fou w n i s m j t gx w5.heap.size R.1 (w5.alloc (.cells #[.int .i64 R.1.n, .int .u64 R.1.i, .int .i64 R.1.s] 24)) := ⟨hD.a, hD.b, hx, hy, hD.below⟩
  clear hax hy hx hb5 hb2 hb3
  have a0 := hF.a.c0
  have a1 := hF.a.c1
  have a2 := hF.a.c2
  go_wp2_with fail
  generalize World.alloc _ _ = w6 at *
  generalize w5.heap.size = gy at *
  obtain ⟨x, y, z, hr⟩ := refS_form me inc n i s
  refine (refute_any _ _ _ _ _ k0.1 k0.2 _).mono ?_
  rw [hr]
  rintro e w7 ⟨rfl, hb7⟩
  have hF := hF.later hb7
  clear a0 a1 a2
  have a0 := hF.a.c0
  have a1 := hF.a.c1
  have a2 := hF.a.c2
  go_wp2_with fail
  refine (frefute_any _ _ _ _ _ k0.1 k0.2 _).mono ?_
  rw [hr]
  rintro e w8 ⟨rfl, hb8⟩
  have hF := hF.later hb8
  clear a0 a1 a2
  obtain ⟨p, q, hp⟩ := up_form inc
  go_wp2_with fail
  refine (up_any _ k1.1 k1.2 _).mono ?_
  rw [hp]
  rintro e w9 ⟨rfl, rfl⟩
  go_wp2_with fail
  refine (fup_any _ k1.1 k1.2 _).mono ?_
  rw [hp]
  rintro e w9 ⟨rfl, rfl⟩
  clear hD hb7 hb8 hr hp hRR
  obtain ⟨M, HM⟩ : ∃ M, Hid (mayS n s = M) := ⟨_, rfl⟩
  obtain ⟨L, HL⟩ : ∃ L, Hid (liveS s = L) := ⟨_, rfl⟩
  obtain ⟨E, HE⟩ : ∃ E, Hid (newerS i s j t = E) := ⟨_, rfl⟩
  go_wp2_with fail
  refine wp_region_kept (Fou w n i s m j t gx gy R.1) (by kernel_rfl) (by kernel_rfl) hF.drew ?_
  have hne : Nonempty (Kept (Fou w n i s m j t gx gy R.1)) := ⟨⟨_, hF⟩⟩
  have c0 : ∀ x : Kept (Fou w n i s m j t gx gy R.1), x.at_.cell? ⟨w.heap.size, 0, none⟩ = some (.int .i64 n) := fun x => x.is.a.c0
  have c1 : ∀ x : Kept (Fou w n i s m j t gx gy R.1), x.at_.cell? ⟨w.heap.size, 1, none⟩ = some (.int .u64 i) := fun x => x.is.a.c1
  have c2 : ∀ x : Kept (Fou w n i s m j t gx gy R.1), x.at_.cell? ⟨w.heap.size, 2, none⟩ = some (.int .i64 s) := fun x => x.is.a.c2
  have d0 : ∀ x : Kept (Fou w n i s m j t gx gy R.1), x.at_.cell? ⟨w.heap.size + 1, 0, none⟩ = some (.int .i64 m) := fun x => x.is.b.c0
  have d1 : ∀ x : Kept (Fou w n i s m j t gx gy R.1), x.at_.cell? ⟨w.heap.size + 1, 1, none⟩ = some (.int .u64 j) := fun x => x.is.b.c1
  have d2 : ∀ x : Kept (Fou w n i s m j t gx gy R.1), x.at_.cell? ⟨w.heap.size + 1, 2, none⟩ = some (.int .i64 t) := fun x => x.is.b.c2
  have x0 : ∀ x : Kept (Fou w n i s m j t gx gy R.1), x.at_.cell? ⟨gx, 0, none⟩ = some (.int .i64 R.1.n) := fun x => x.is.x.c0
  have x1 : ∀ x : Kept (Fou w n i s m j t gx gy R.1), x.at_.cell? ⟨gx, 1, none⟩ = some (.int .u64 R.1.i) := fun x => x.is.x.c1
  have x2 : ∀ x : Kept (Fou w n i s m j t gx gy R.1), x.at_.cell? ⟨gx, 2, none⟩ = some (.int .i64 R.1.s) := fun x => x.is.x.c2
  have y0 : ∀ x : Kept (Fou w n i s m j t gx gy R.1), x.at_.cell? ⟨gy, 0, none⟩ = some (.int .i64 R.1.n) := fun x => x.is.y.c0
  have y1 : ∀ x : Kept (Fou w n i s m j t gx gy R.1), x.at_.cell? ⟨gy, 1, none⟩ = some (.int .u64 R.1.i) := fun x => x.is.y.c1
  have y2 : ∀ x : Kept (Fou w n i s m j t gx gy R.1), x.at_.cell? ⟨gy, 2, none⟩ = some (.int .i64 R.1.s) := fun x => x.is.y.c2
  repeat (go_big_quiet_step (first
    | (refine (may_any _ _ _ _).mono ?_; rw [HM.out]; rintro e w4 ⟨rfl, hb4⟩; exact ⟨rfl, Fou.on hb4⟩)
    | (refine (fmay_any _ _ _ _).mono ?_; rw [HM.out]; rintro e w4 ⟨rfl, hb4⟩; exact ⟨rfl, Fou.on hb4⟩)
    | (refine (live_any _ _ _ _).mono ?_; rw [HL.out]; rintro e w4 ⟨rfl, hb4⟩; exact ⟨rfl, Fou.on hb4⟩)
    | (refine (flive_any _ _ _ _).mono ?_; rw [HL.out]; rintro e w4 ⟨rfl, hb4⟩; exact ⟨rfl, Fou.on hb4⟩)
    | (refine (newer_any _ _ _ _ _ _ _).mono ?_; rw [HE.out]; rintro e w4 ⟨rfl, hb4⟩; exact ⟨rfl, Fou.on hb4⟩)
    | (refine (fnewer_any _ _ _ _ _ _ _).mono ?_; rw [HE.out]; rintro e w4 ⟨rfl, hb4⟩; exact ⟨rfl, Fou.on hb4⟩)))
  refine wpQuiet_nil ?_
  intro w5 h5
  go_wp2_with fail
  go_ret
  exact ⟨rfl, h5.below⟩
end Go.Proofs.Ytjhpbnijjdmclaa
