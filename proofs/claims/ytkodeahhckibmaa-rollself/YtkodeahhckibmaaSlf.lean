/-
  RollSelf.
-/
import Derived.Test.YtkodeahhckibmaaTwo
namespace Go.Proofs.Ytkodeahhckibmaa
open Go.RowKit

/-- What RollSelf keeps. -/
structure Sf (w0 : World) (p q k o : Nat) (f g : Tab) (w : World) : Prop where
  two : Two w0 p q k o f g w
  i1 : Inv k f
  i2 : Inv o g
  rel : k ≠ o → g k = none ∨ g k = f k

/-- Two rolls, and a box with an update. -/
structure Tb (w0 : World) (p q k o : Nat) (f g : Tab) (b : Nat) (u : Upd) (w : World) : Prop where
  two : Two w0 p q k o f g w
  box : Bx 29 b u.n u.i u.s w
section
variable {w0 : World} {p q k o : Nat} {f g : Tab} {b : Nat} {u : Upd} {w' : World}
theorem Tb.on {x : Kept (Tb w0 p q k o f g b u)} (h : Below x.at_.heap.size x.at_ w') : ∃ y : Kept (Tb w0 p q k o f g b u), w' = y.at_ := ⟨⟨w', x.is.two.later h, x.is.box.below h⟩, rfl⟩
theorem Tb.one {x : Kept (Tb w0 p q k o f g b u)} : Rl p k f x.at_ := x.is.two.one
end

set_option maxRecDepth 100000 in
set_option maxHeartbeats 2000000 in
theorem self_core (me other : Int) (hme : 0 ≤ me ∧ me ≤ 255) (hot : 0 ≤ other ∧ other ≤ 255) (a : Option Addr) (cap : Nat) (l : List Upd) (w : World) (hU : Ru (.slice a l.length cap) l w) (hin : ∀ u ∈ l, InOk u) (hl : (l.length : Int) ≤ 100) :
    Calls Try.prog 4 #[.int .u8 me, .int .u8 other, .slice a l.length cap] w fun e w' => e = .returned (.bool true) ∧ Below w.heap.size w w' := by
  obtain ⟨k, hk, hk64⟩ := mod64 me
  obtain ⟨o, ho, ho64⟩ := mod64 other
  obtain ⟨h0, h1⟩ := hme
  obtain ⟨h2, h4⟩ := hot
  obtain ⟨_, _, e, _, _, h3⟩ := id hU
  cases e
  go_enter Try.func4, Try.ntmps4
  go_wp2_with fail
  refine (shown_any _).mono ?_
  rintro e w1 ⟨rfl, hb1⟩
  go_wp2_with fail
  refine (new_any _ _).mono ?_
  rintro e w2 ⟨hN, _, hb2⟩
  obtain ⟨p, rfl, hp, hR2⟩ := hN k rfl hk64
  clear hN
  go_wp2_with fail
  refine (new_any _ _).mono ?_
  rintro e w3 ⟨hN, _, hb3⟩
  obtain ⟨q, rfl, hq, hR3⟩ := hN o rfl ho64
  clear hN
  have hp2 := hR2.lt
  have hS : Sf w p q k o (newS k) (newS o) w3 := ⟨⟨hR2.below hb3, hR3, by omega, Nat.le_trans hb1.size hp, Nat.le_trans hb1.size (Nat.le_trans hb2.size hq), hb1.trans ((hb2.trans (hb3.mono hb2.size)).mono hb1.size)⟩, inv_new hk64, inv_new ho64, fun hne => Or.inl (Tab.set_other _ _ hne)⟩
  have hi0 : (0 : Int) ≤ (ud (newS k k)).i := by unfold newS; rw [Tab.set_same]; exact Int.le_refl _
  generalize newS k = f0 at *
  generalize newS o = g0 at *
  clear hb1 hb2 hb3 hR2 hR3 hp hq hp2 hk ho
  go_wp2_with fail
  go_loopg [11, 12] l.length (fun gk t11 t12 wr => ∃ (j : Nat) (f g : Tab) (inc : Int), j + gk = l.length ∧ t11 = .int .u64 inc ∧ t12 = .int .i64 j ∧ inc ≤ (ud (f k)).i ∧ Sf w p q k o f g wr)
  case atStart => exact ⟨0, f0, g0, 0, by omega, rfl, rfl, hi0, hS⟩
  case round =>
    obtain ⟨j, f, g, inc, hj, rfl, rfl, hinc, hH⟩ := hrel
    clear hS hi0
    by_cases hlt : (j : Int) < l.length
    · have hj' : j < l.length := by omega
      have j0 : (0 : Int) ≤ j := by omega
      rcases h3 with h3 | ⟨b, off, rfl, h3⟩
      · omega
      clear h3
      have hcell := fun w' (hb : Below w.heap.size w w') => hU.at hb hj'
      have hiu := hin l[j] (List.getElem_mem hj')
      generalize l[j] = u at *
      obtain ⟨x0, x1, x2⟩ := hcell _ hH.two.below
      go_wp2_with fail
      refine (hear_any p k f u hk64 hiu.1 hiu.2 _ hH.two.one).mono ?_
      have hI1 := hear_inv hH.i1 hiu
      have hg1 := hear_grow hH.i1 u
      have hsi := self_inc hH.i1 hg1
      have hstep := fun hne hc => self_step hH.i1 hH.i2 hne hiu (hH.rel hne) hc
      have hI1b := hear_inv hI1 hiu
      have hsi2 := self_inc hI1 (hear_grow hI1 u)
      have hI2 := hear_inv hH.i2 hiu
      obtain ⟨r1, HR1⟩ : ∃ r, Hid (hearS k f u = r) := ⟨_, rfl⟩
      rw [HR1.out] at hI1 hg1 hsi hstep hI1b hsi2 ⊢
      obtain ⟨⟨b1, e1⟩, f1⟩ := r1
      dsimp only at hI1 hg1 hsi hstep hI1b hsi2 ⊢
      rintro e w1 ⟨rfl, hR1, hb1⟩
      have hT1 := hH.two.first hR1 hb1
      obtain ⟨i1, hm1⟩ := hI1.mine
      have hM1 := mine_any p k f1 hk64 w1 hT1.one
      rw [hm1, ud_some] at hM1 hsi hsi2
      dsimp only at hM1 hsi hsi2
      have hle : inc ≤ i1 := Int.le_trans hinc hsi
      have hle' : ¬ i1 < inc := by omega
      have hrel := hH.rel
      have hI2g := hH.i2
      clear hb1 hR1 x0 x1 x2 hg1 hinc hH
      go_wp2_with fail
      refine hM1.mono ?_
      rintro e w2 ⟨rfl, hb2⟩
      have ba := below_alloc w2 (.cells #[.int .i64 k, .int .u64 i1, .int .i64 0] 29)
      have hT2 := (hT1.later hb2).later ba
      have hX := Bx.new 29 k i1 0 w2
      clear hT1 hb2 ba hM1
      by_cases hko : k = o
      · subst hko
        go_wp2_with fail
        go_roundg (gk - 1)
        case rel => exact ⟨j + 1, f1, g, i1, by omega, rfl, by go_num, by rw [hm1, ud_some]; exact Int.le_refl _, ⟨hT2, hI1, hI2g, fun h => absurd rfl h⟩⟩
        case measure => omega
      · have hkb : ((k : Int) == (o : Int)) = false := by simp; omega
        obtain ⟨x0, x1, x2⟩ := hcell _ hT2.below
        have hst := hstep hko
        clear hstep hrel
        go_wp2_with fail
        refine (hear_any q o g u ho64 hiu.1 hiu.2 _ hT2.two).mono ?_
        obtain ⟨r2, HR2⟩ : ∃ r, Hid (hearS o g u = r) := ⟨_, rfl⟩
        rw [HR2.out] at hI2 hst ⊢
        obtain ⟨⟨b2, e2⟩, g1⟩ := r2
        dsimp only at hI2 hst ⊢
        rintro e w3 ⟨rfl, hR3, hb3⟩
        have hT3 := hT2.second hR3 hb3
        clear hT2 hR3 hb3 x0 x1 x2 hX
        obtain ⟨x0, x1, x2⟩ := hcell _ hT3.below
        go_wp2_with fail
        refine (hear_any p k f1 u hk64 hiu.1 hiu.2 _ hT3.one).mono ?_
        obtain ⟨r3, HR3⟩ : ∃ r, Hid (hearS k f1 u = r) := ⟨_, rfl⟩
        rw [HR3.out] at hI1b hst hsi2 ⊢
        obtain ⟨⟨b3, e3⟩, f2⟩ := r3
        dsimp only at hI1b hst hsi2 ⊢
        rintro e w4 ⟨rfl, hR4, hb4⟩
        have hT4 := hT3.first hR4 hb4
        clear hT3 hR4 hb4 x0 x1 x2
        cases he : (e3 == 60)
        case true =>
          obtain rfl : e3 = 60 := by simpa using he
          clear he
          go_wp2_with fail
          go_ret
          exact ⟨rfl, hT4.below⟩
        case false =>
          have hst2 := hst he
          obtain ⟨i2, hm2⟩ := hI1b.mine
          have hM2 := mine_any p k f2 hk64 w4 hT4.one
          have hmo := hI1b.may k _ hm2
          rw [hm2, ud_some] at hM2 hsi2 hst2
          dsimp only at hM2 hsi2
          go_wp2_with fail
          refine hM2.mono ?_
          rintro e w5 ⟨rfl, hb5⟩
          have hT5 := hT4.later hb5
          clear hT4 hb5 hM2
          go_wp2_with fail
          refine (hear_any q o g1 ⟨k, i2, 0⟩ ho64 hmo.2.2.1 hmo.2.2.2 _ hT5.two).mono ?_
          have hI3 := hear_inv hI2 hmo.2.2
          obtain ⟨r4, HR4⟩ : ∃ r, Hid (hearS o g1 ⟨k, i2, 0⟩ = r) := ⟨_, rfl⟩
          rw [HR4.out] at hI3 hst2 ⊢
          obtain ⟨⟨b4, e4⟩, g2⟩ := r4
          dsimp only at hI3 hst2 ⊢
          rintro e w6 ⟨rfl, hR6, hb6⟩
          have hT6 := hT5.second hR6 hb6
          clear hT5 hR6 hb6
          have hG := get_any q o k g2 w6 hT6.two
          have hgs : getS g2 k = some ⟨k, i2, 0⟩ := by unfold getS; rw [if_pos (by omega), Int.toNat_natCast]; exact hst2
          rw [hgs, ud_some] at hG
          go_wp2_with fail
          refine hG.mono ?_
          rintro e w7 ⟨rfl, hb7⟩
          have ba := below_alloc w7 (.cells #[.int .i64 k, .int .u64 i2, .int .i64 0] 29)
          have hT7 := (hT6.later hb7).later ba
          have hX7 := Bx.new 29 k i2 0 w7
          have hM3 := fun w' (hR : Rl p k f2 w') => mine_any p k f2 hk64 w' hR
          rw [hm2, ud_some] at hM3
          dsimp only at hM3
          have hq := run_neqU ⟨k, i2, 0⟩ ⟨k, i2, 0⟩
          rw [eqU_refl] at hq
          have hJ : Tb w p q k o f2 g2 w7.heap.size ⟨k, i2, 0⟩ (w7.alloc (.cells #[.int .i64 k, .int .u64 i2, .int .i64 0] 29)) := ⟨hT7, hX7⟩
          have hJd : Tb w p q k o f2 g2 w7.heap.size ⟨k, i2, 0⟩ (w7.alloc (.cells #[.int .i64 k, .int .u64 i2, .int .i64 0] 29)).drew := ⟨hT7.drewN 1, hX7.drew⟩
          have hne : Nonempty (Kept (Tb w p q k o f2 g2 w7.heap.size ⟨k, i2, 0⟩)) := ⟨⟨_, hJ⟩⟩
          have c0 : ∀ x : Kept (Tb w p q k o f2 g2 w7.heap.size ⟨k, i2, 0⟩), x.at_.cell? ⟨w7.heap.size, 0, none⟩ = some (.int .i64 k) := fun x => x.is.box.c0
          have c1 : ∀ x : Kept (Tb w p q k o f2 g2 w7.heap.size ⟨k, i2, 0⟩), x.at_.cell? ⟨w7.heap.size, 1, none⟩ = some (.int .u64 i2) := fun x => x.is.box.c1
          have c2 : ∀ x : Kept (Tb w p q k o f2 g2 w7.heap.size ⟨k, i2, 0⟩), x.at_.cell? ⟨w7.heap.size, 2, none⟩ = some (.int .i64 0) := fun x => x.is.box.c2
          clear hJ hX7 ba hb7 hG hT6
          go_wp2_with fail
          refine wp_region_kept (Tb w p q k o f2 g2 w7.heap.size ⟨k, i2, 0⟩) (by kernel_rfl) (by kernel_rfl) hJd ?_
          repeat (go_big_quiet_step (first | (refine (hM3 _ Tb.one).mono ?_; rintro e w4 ⟨rfl, hb4⟩; exact ⟨rfl, Tb.on hb4⟩)))
          refine wpQuiet_nil ?_
          intro w8 h8
          go_wp2_with fail
          go_roundg (gk - 1)
          case rel => exact ⟨j + 1, f2, g2, i1, by omega, rfl, by go_num, by rw [hm2, ud_some]; exact hsi2, ⟨h8.two, hI1b, hI3, fun _ => Or.inr (by rw [hst2, hm2])⟩⟩
          case measure => omega
    · go_wp2_with fail
      go_ret
      exact ⟨rfl, hH.two.below⟩

set_option maxRecDepth 100000 in
theorem self_long (me other : Int) (a : Option Addr) (len cap : Nat) (w : World) (hl : (100 : Int) < len) :
    Calls Try.prog 4 #[.int .u8 me, .int .u8 other, .slice a len cap] w fun e w' => e = .returned (.bool true) ∧ Below w.heap.size w w' := by
  go_enter Try.func4, Try.ntmps4
  go_wp2_with (go_at_call 8; refine (shown_any _).mono ?_; rintro e w1 ⟨rfl, hb1⟩)
  go_ret
  exact ⟨rfl, hb1⟩

theorem self_walk (me other : Int) (a : Option Addr) (len cap : Nat) (l : List Upd) (h : (Lit.int .u8 me).wf = true) (h' : (Lit.int .u8 other).wf = true) (w : World) (hU : IsUpds w a len cap l) :
    Calls Try.prog 4 #[.int .u8 me, .int .u8 other, .slice a len cap] w fun e w' => e = .returned (.bool true) ∧ Below w.heap.size w w' := by
  have hin := hU.inok
  obtain ⟨rfl, hR, _⟩ := hU
  by_cases hl : (100 : Int) < l.length
  · exact self_long me other a l.length cap w hl
  · exact self_core me other (bounds_u8 h) (bounds_u8 h') a cap l w hR hin (by omega)
end Go.Proofs.Ytkodeahhckibmaa
