/-
  refute, Hear.
-/
import Derived.Test.YtkodeahhckibmaaDoorAll
import Derived.Test.YtkodeahhckibmaaDoorKpt
namespace Go.Proofs.YtkodeahhckibmaaDoor
open Go.RowKit

def mayU (u : Upd) : Bool := mayS u.n u.s
def newerU (u v : Upd) : Bool := newerS u.i u.s v.i v.s
def lastN : Int := 18446744073709551615

/-- What refute answers, and what is known then. -/
def refuteS (k : Nat) (f : Tab) (u : Upd) : Int × Tab :=
  if denS k (ud (f k)).i u.n u.i u.s then (if u.i == 18446744073709551615 then (60, f) else (0, f.set k ⟨k, u.i + 1, 0⟩)) else (70, f)
/-- What Hear answers, and what is known then. -/
def hearS (k : Nat) (f : Tab) (u : Upd) : (Bool × Int) × Tab :=
  if mayU u then
    if u.n == k then ((false, (refuteS k f u).1), (refuteS k f u).2)
    else if (f u.n.toNat).isSome && !newerU u (ud (f u.n.toNat)) then ((false, 70), f) else ((true, 0), f.set u.n.toNat u)
  else ((false, 1), f)

theorem run_inc (n i s : Int) (w : World) : (Instr.field 34 (.agg #[.int .i64 n, .int .u64 i, .int .i64 s]) 1).run Tryd.prog w = .ok (.int .u64 i) w := by simp [Instr.field, go_sem, asAgg]

/-- What refute keeps. -/
structure Rj (p k : Nat) (f : Tab) (g : Nat) (u : Upd) (w0 w : World) : Prop where
  roll : Rl p k f w
  box : Bx 34 g u.n u.i u.s w
  below : Below w0.heap.size w0 w
section
variable {p k : Nat} {f : Tab} {g : Nat} {u : Upd} {w0 w w' : World}
theorem Rj.later (h : Rj p k f g u w0 w) (b : Below w.heap.size w w') : Rj p k f g u w0 w' := ⟨h.roll.below b, h.box.below b, h.below.trans (b.mono h.below.size)⟩
theorem Rj.drew (h : Rj p k f g u w0 w) : Rj p k f g u w0 w.drew := ⟨h.roll.drew, h.box.drew, Below.drew' h.below⟩
theorem Rj.on {x : Kept (Rj p k f g u w0)} (b : Below x.at_.heap.size x.at_ w') : ∃ y : Kept (Rj p k f g u w0), w' = y.at_ := ⟨⟨w', x.is.later b⟩, rfl⟩
theorem Rj.roll' {x : Kept (Rj p k f g u w0)} : Rl p k f x.at_ := x.is.roll
end

set_option maxRecDepth 100000 in
set_option maxHeartbeats 1000000 in
theorem refute_roll (p k : Nat) (f : Tab) (u : Upd) (hk : k < 64) (h0 : 0 ≤ u.i) (h1 : u.i ≤ 18446744073709551615) (w : World) (hR : Rl p k f w) :
    Calls Tryd.prog 22 #[.pointer (some ⟨p, 0, none⟩), .agg #[.int .i64 u.n, .int .u64 u.i, .int .i64 u.s]] w fun e w' => e = .returned (.int .i64 (refuteS k f u).1) ∧ Rl p k (refuteS k f u).2 w' ∧ But w.heap.size p w w' := by
  have ba := below_alloc w (.cells #[.int .i64 u.n, .int .u64 u.i, .int .i64 u.s] 34)
  have hJ : Rj p k f w.heap.size u w (w.alloc (.cells #[.int .i64 u.n, .int .u64 u.i, .int .i64 u.s] 34)) := ⟨hR.below ba, Bx.new _ _ _ _ _, ba⟩
  have hne : Nonempty (Kept (Rj p k f w.heap.size u w)) := ⟨⟨_, hJ⟩⟩
  have c : ∀ x : Kept (Rj p k f w.heap.size u w), x.at_.cell? ⟨p, 0, none⟩ = some (.int .i64 k) := fun x => x.is.roll.cme
  have c0 : ∀ x : Kept (Rj p k f w.heap.size u w), x.at_.cell? ⟨w.heap.size, 0, none⟩ = some (.int .i64 u.n) := fun x => x.is.box.c0
  have c1 : ∀ x : Kept (Rj p k f w.heap.size u w), x.at_.cell? ⟨w.heap.size, 1, none⟩ = some (.int .u64 u.i) := fun x => x.is.box.c1
  have c2 : ∀ x : Kept (Rj p k f w.heap.size u w), x.at_.cell? ⟨w.heap.size, 2, none⟩ = some (.int .i64 u.s) := fun x => x.is.box.c2
  have hfd := run_inc (ud (f k)).n (ud (f k)).i (ud (f k)).s
  obtain ⟨r, HR⟩ : ∃ r, Hid (refuteS k f u = r) := ⟨_, rfl⟩
  rw [HR.out]
  cases hd : denS k (ud (f k)).i u.n u.i u.s
  case false =>
    obtain rfl : r = (70, f) := by rw [← HR.out]; simp [refuteS, hd]
    have hv : refS k (ud (f k)).i u.n u.i u.s = .tuple #[.int .u64 (ud (f k)).i, .bool false, .int .i64 0] := by simp [refS, hd]
    go_enter Tryd.func22, Tryd.ntmps22
    go_wp2_with fail
    refine wp_region_kept (Rj p k f w.heap.size u w) (by kernel_rfl) (by kernel_rfl) hJ.drew ?_
    repeat (go_big_quiet_step (first
      | (refine (mine_any p k f hk _ Rj.roll').mono ?_; rintro e w4 ⟨rfl, hb4⟩; exact ⟨rfl, Rj.on hb4⟩)
      | (refine (refute_any _ _ _ _ _ h0 h1 _).mono ?_; rw [hv]; rintro e w4 ⟨rfl, hb4⟩; exact ⟨rfl, Rj.on hb4⟩)))
    refine wpQuiet_nil ?_
    intro w5 h5
    go_wp2_with fail
    go_ret
    exact ⟨rfl, h5.roll, But.of h5.below⟩
  case true =>
    cases hi : (u.i == 18446744073709551615)
    case true =>
      obtain rfl : r = (60, f) := by rw [← HR.out]; simp [refuteS, hd, hi]
      have hv : refS k (ud (f k)).i u.n u.i u.s = .tuple #[.int .u64 (ud (f k)).i, .bool false, .int .i64 60] := by simp [refS, hd, hi]
      go_enter Tryd.func22, Tryd.ntmps22
      go_wp2_with fail
      refine wp_region_kept (Rj p k f w.heap.size u w) (by kernel_rfl) (by kernel_rfl) hJ.drew ?_
      repeat (go_big_quiet_step (first
        | (refine (mine_any p k f hk _ Rj.roll').mono ?_; rintro e w4 ⟨rfl, hb4⟩; exact ⟨rfl, Rj.on hb4⟩)
        | (refine (refute_any _ _ _ _ _ h0 h1 _).mono ?_; rw [hv]; rintro e w4 ⟨rfl, hb4⟩; exact ⟨rfl, Rj.on hb4⟩)))
      refine wpQuiet_nil ?_
      intro w5 h5
      go_wp2_with fail
      go_ret
      exact ⟨rfl, h5.roll, But.of h5.below⟩
    case false =>
      obtain rfl : r = (0, f.set k ⟨k, u.i + 1, 0⟩) := by rw [← HR.out]; simp [refuteS, hd, hi]
      have hv : refS k (ud (f k)).i u.n u.i u.s = .tuple #[.int .u64 (u.i + 1), .bool true, .int .i64 0] := by simp [refS, hd, hi]
      go_enter Tryd.func22, Tryd.ntmps22
      go_wp2_with fail
      refine wp_region_kept (Rj p k f w.heap.size u w) (by kernel_rfl) (by kernel_rfl) hJ.drew ?_
      repeat (go_big_quiet_step (first
        | (refine (mine_any p k f hk _ Rj.roll').mono ?_; rintro e w4 ⟨rfl, hb4⟩; exact ⟨rfl, Rj.on hb4⟩)
        | (refine (refute_any _ _ _ _ _ h0 h1 _).mono ?_; rw [hv]; rintro e w4 ⟨rfl, hb4⟩; exact ⟨rfl, Rj.on hb4⟩)))
      refine wpQuiet_nil ?_
      intro w5 h5
      have hc := h5.roll.cme
      go_wp2_with fail
      refine (keep_any p k f k ⟨k, u.i + 1, 0⟩ rfl hk _ h5.roll).mono ?_
      rintro e w6 ⟨rfl, hR6, hb6⟩
      go_wp2_with fail
      go_ret
      exact ⟨rfl, hR6, (But.of h5.below).trans (hb6.mono h5.below.size)⟩

set_option maxRecDepth 100000 in
set_option maxHeartbeats 1000000 in
theorem hear_any (p k : Nat) (f : Tab) (u : Upd) (hk : k < 64) (h0 : 0 ≤ u.i) (h1 : u.i ≤ 18446744073709551615) (w : World) (hR : Rl p k f w) :
    Calls Tryd.prog 8 #[.pointer (some ⟨p, 0, none⟩), .agg #[.int .i64 u.n, .int .u64 u.i, .int .i64 u.s]] w fun e w' =>
      e = .returned (.tuple #[.bool (hearS k f u).1.1, .int .i64 (hearS k f u).1.2]) ∧ Rl p k (hearS k f u).2 w' ∧ But w.heap.size p w w' := by
  have ba := below_alloc w (.cells #[.int .i64 u.n, .int .u64 u.i, .int .i64 u.s] 34)
  have hX := Bx.new 34 u.n u.i u.s w
  have hR1 := hR.below ba
  obtain ⟨r, HR⟩ : ∃ r, Hid (hearS k f u = r) := ⟨_, rfl⟩
  rw [HR.out]
  go_enter Tryd.func8, Tryd.ntmps8
  go_wp2_with fail
  refine (may_any _ _ _ _).mono ?_
  cases hm : mayS u.n u.s
  case false =>
    obtain rfl : r = ((false, 1), f) := by rw [← HR.out]; simp [hearS, mayU, hm]
    rintro e w1 ⟨rfl, hb1⟩
    go_wp2_with fail
    go_ret2
    exact ⟨rfl, hR1.below hb1, But.of (ba.trans (hb1.mono ba.size))⟩
  case true =>
    rintro e w1 ⟨rfl, hb1⟩
    have hn : 0 ≤ u.n ∧ u.n < 64 := by simp [mayS] at hm; omega
    have hB1 := ba.trans (hb1.mono ba.size)
    have hX1 := hX.below hb1
    have hR2 := hR1.below hb1
    clear hX hR1 hb1 ba
    have x0 := hX1.c0
    have x1 := hX1.c1
    have x2 := hX1.c2
    have x := hR2.cme
    cases hq : (u.n == (k : Int))
    case true =>
      obtain rfl : r = ((false, (refuteS k f u).1), (refuteS k f u).2) := by rw [← HR.out]; simp [hearS, mayU, hm, hq]
      go_wp2_with fail
      go_quiet (fail)
      have hR3 : Rl p k f (w1.drewN nq) := ⟨hR2.heap⟩
      have hX3 : Bx 34 w.heap.size u.n u.i u.s (w1.drewN nq) := ⟨hX1.heap⟩
      have hB3 : Below w.heap.size w (w1.drewN nq) := hB1.trans (below_drewN _ _ _)
      generalize w1.drewN nq = w2 at *
      clear x0 x1 x2 x hX1 hR2 hB1
      have x0 := hX3.c0
      have x1 := hX3.c1
      have x2 := hX3.c2
      go_wp2_with fail
      refine (refute_roll p k f u hk h0 h1 _ hR3).mono ?_
      rintro e w3 ⟨rfl, hR4, hb4⟩
      go_wp2_with fail
      go_ret2
      exact ⟨rfl, hR4, (But.of hB3).trans (hb4.mono hB3.size)⟩
    case false =>
      go_wp2_with fail
      go_quiet (fail)
      have hR3 : Rl p k f (w1.drewN nq) := ⟨hR2.heap⟩
      have hX3 : Bx 34 w.heap.size u.n u.i u.s (w1.drewN nq) := ⟨hX1.heap⟩
      have hB3 : Below w.heap.size w (w1.drewN nq) := hB1.trans (below_drewN _ _ _)
      generalize w1.drewN nq = w2 at *
      clear x0 x1 x2 x hX1 hR2 hB1
      have x0 := hX3.c0
      have x1 := hX3.c1
      have x2 := hX3.c2
      have hg : getS f u.n = f u.n.toNat := by unfold getS; rw [if_pos hn]
      have hG := get_any p k u.n f w2 hR3
      rw [hg] at hG
      have HR' : Hid (r = if (f u.n.toNat).isSome && !newerU u (ud (f u.n.toNat)) then ((false, 70), f) else ((true, 0), f.set u.n.toNat u)) := by
        show _ = _
        rw [← HR.out]; simp only [hearS, mayU, hm, hq, if_true]; rfl
      have hj : u.n.toNat < 64 := by omega
      have hjn : Hid (u.n = (u.n.toNat : Nat)) := by show _ = _; omega
      generalize u.n.toNat = j at *
      unfold newerU at HR'
      generalize (f j).isSome = b at *
      generalize ud (f j) = v at *
      clear hg
      go_wp2_with fail
      refine hG.mono ?_
      rintro e w3 ⟨rfl, hb3⟩
      have hB4 := hB3.trans (hb3.mono hB3.size)
      have hX4 := hX3.below hb3
      have hR4 := hR3.below hb3
      have bc := below_alloc w3 (.cells #[.int .i64 v.n, .int .u64 v.i, .int .i64 v.s] 34)
      have hY := Bx.new 34 v.n v.i v.s w3
      have hB5 := hB4.trans (bc.mono hB4.size)
      have hX5 := hX4.below bc
      have hR5 := hR4.below bc
      clear x0 x1 x2 hX3 hR3 hB3 hb3 hX4 hR4 hB4 bc
      cases b
      case false =>
        obtain rfl : r = ((true, 0), f.set j u) := by rw [HR'.out]; rfl
        have x0 := hX5.c0
        have x1 := hX5.c1
        have x2 := hX5.c2
        go_wp2_with fail
        refine (keep_any p k f j u hjn.out hj _ hR5).mono ?_
        rintro e w4 ⟨rfl, hR6, hb6⟩
        go_wp2_with fail
        go_ret2
        exact ⟨rfl, hR6, (But.of hB5).trans (hb6.mono hB5.size)⟩
      case true =>
        have x0 := hX5.c0
        have x1 := hX5.c1
        have x2 := hX5.c2
        have y0 := hY.c0
        have y1 := hY.c1
        have y2 := hY.c2
        go_wp2_with fail
        refine (newer_any _ _ _ _ _ _ _).mono ?_
        cases hN : newerS u.i u.s v.i v.s
        case false =>
          obtain rfl : r = ((false, 70), f) := by rw [HR'.out, hN]; rfl
          rintro e w4 ⟨rfl, hb4⟩
          go_wp2_with fail
          go_ret2
          exact ⟨rfl, hR5.below hb4, But.of (hB5.trans (hb4.mono hB5.size))⟩
        case true =>
          obtain rfl : r = ((true, 0), f.set j u) := by rw [HR'.out, hN]; rfl
          rintro e w4 ⟨rfl, hb4⟩
          have hB6 := hB5.trans (hb4.mono hB5.size)
          have hR6 := hR5.below hb4
          have hX6 := hX5.below hb4
          clear x0 x1 x2 y0 y1 y2 hX5 hR5 hB5 hY hb4
          have x0 := hX6.c0
          have x1 := hX6.c1
          have x2 := hX6.c2
          go_wp2_with fail
          refine (keep_any p k f j u hjn.out hj _ hR6).mono ?_
          rintro e w5 ⟨rfl, hR7, hb7⟩
          go_wp2_with fail
          go_ret2
          exact ⟨rfl, hR7, (But.of hB6).trans (hb7.mono hB6.size)⟩
end Go.Proofs.YtkodeahhckibmaaDoor
