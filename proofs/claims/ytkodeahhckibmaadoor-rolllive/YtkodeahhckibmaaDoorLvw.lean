/-
  RollLive.
-/
import Derived.Test.YtkodeahhckibmaaDoorLvm
namespace Go.Proofs.YtkodeahhckibmaaDoor
open Go.RowKit

/-- A roll, the table, and all that is known. -/
structure Lw (w0 : World) (p k : Nat) (f : Tab) (L : List Upd) (v : Value) (w : World) : Prop where
  os : Ow w0 p k f w
  all : Ru v L w
theorem Lw.later {w0 : World} {p k : Nat} {f : Tab} {L : List Upd} {v : Value} {w w' : World} (h : Lw w0 p k f L v w) (b : Below w.heap.size w w') : Lw w0 p k f L v w' := ⟨h.os.later b, h.all.below b⟩
theorem Ru.at {g off cap : Nat} {L : Nat} {l : List Upd} {w w' : World} (h : Ru (.slice (some ⟨g, off, none⟩) L cap) l w) (hb : Below w.heap.size w w') {j : Nat} (hj : j < l.length) :
    w'.cell? ⟨g, off + j * 3, none⟩ = some (.int .i64 l[j].n) ∧ w'.cell? ⟨g, off + j * 3 + 1, none⟩ = some (.int .u64 l[j].i) ∧ w'.cell? ⟨g, off + j * 3 + 2, none⟩ = some (.int .i64 l[j].s) := by
  obtain ⟨_, _, e, _, _, e3⟩ := h.below hb
  cases e
  rcases e3 with e3 | ⟨g', off', e, e3⟩
  · omega
  · cases e; exact e3 j hj

set_option maxRecDepth 100000 in
set_option maxHeartbeats 2000000 in
theorem live_core (me : Int) (hme : 0 ≤ me ∧ me ≤ 255) (a : Option Addr) (cap : Nat) (l : List Upd) (w : World) (hU : Ru (.slice a l.length cap) l w) (hTb : Bnd.Tab w) (hin : ∀ u ∈ l, InOk u) (hl : (l.length : Int) ≤ 100) :
    Calls Tryd.prog 4 #[.int .u8 me, .slice a l.length cap] w fun e w' => e = .returned (.bool true) ∧ Below w.heap.size w w' := by
  obtain ⟨k, hk, hk64⟩ := mod64 me
  obtain ⟨h0, h1⟩ := hme
  go_enter Tryd.func4, Tryd.ntmps4
  go_wp2_with fail
  refine (shown_any _).mono ?_
  rintro e w1 ⟨rfl, hb1⟩
  go_wp2_with fail
  refine (new_any _ _).mono ?_
  rintro e w2 ⟨hN, _, hb2⟩
  obtain ⟨p, rfl, hp, hR2⟩ := hN k rfl hk64
  have hI0 := inv_new hk64
  generalize newS k = f0 at *
  have hB2 : Below w.heap.size w w2 := hb1.trans (hb2.mono hb1.size)
  have hpw : w.heap.size ≤ p := Nat.le_trans hb1.size hp
  have hU2 := hU.below hB2
  have hv : l.length ≠ 0 → (Value.slice a l.length cap).ownBlock ≠ some p := fun hl => hU.ne hpw hl
  clear hN hb1 hb2 hp
  go_wp2_with fail
  refine (merge_any p k f0 _ l hk64 w2 hR2 hU2 hv (by omega) hin).mono ?_
  have hI := hearAll_inv l hI0 hin
  generalize hearAllS k f0 l = r at *
  obtain ⟨e1, f⟩ := r
  rintro e w3 ⟨⟨v1, rfl, _⟩, hR3, hb3⟩
  dsimp only at hR3 hI ⊢
  have hB3 : Below w.heap.size w w3 := hB2.trans ((hb3.mono hB2.size).to hpw)
  have hO3 : Ow w p k f w3 := ⟨hR3, hTb.below hTb.lt hB3, hB3⟩
  clear hR2 hU2 hb3 hI0 hB2 hR3 hB3 hv
  have hF := lf_all hI
  have hA := all_any p k f w3 hO3.roll
  have hLv := fun w' (h : Rl p k f w') => rlive_any p k f w' h
  have hOt := fun w' (h : Ow w p k f w') => others_any p k f w' h.roll h.tab
  generalize allS f = L at *
  clear hI
  go_wp2_with fail
  refine hA.mono ?_
  rintro e w4 ⟨⟨v4, rfl, hO4⟩, hb4⟩
  have hL4 : Lw w p k f L v4 w4 := ⟨hO3.later hb4, hO4.ru⟩
  obtain ⟨ar, capr, rfl, hc1, hc2, h3⟩ := id hL4.all
  have hlen := hF.len
  have hlen' : (L.length : Int) ≤ 64 := by omega
  clear hO4 hO3 hb4 hA
  go_wp2_with fail
  go_loopg [7, 9] L.length (fun gk t7 t9 wr => ∃ j : Nat, j + gk = L.length ∧ t9 = .int .i64 j ∧ t7 = .int .u64 (bandS (L.take j)) ∧ Lw w p k f L (.slice ar L.length capr) wr)
  case atStart => exact ⟨0, by omega, rfl, rfl, hL4⟩
  case round =>
    obtain ⟨j, hj, rfl, rfl, hH⟩ := hrel
    clear hL4
    by_cases hlt : (j : Int) < L.length
    · have hj' : j < L.length := by omega
      have j0 : (0 : Int) ≤ j := by omega
      rcases h3 with h3 | ⟨gb, off, rfl, h3⟩
      · omega
      clear h3
      obtain ⟨x0, x1, x2⟩ := hH.all.at (Below.refl _ _) hj'
      obtain ⟨hg, hn0, hn64, hs0⟩ := hF.get _ (List.getElem_mem hj')
      have hbt := bandS_take L j hj'
      have hblt := bandS_lt (L.take j)
      obtain ⟨un, hprev⟩ : ∃ un : Int, 0 < j → wr.cell? ⟨gb, off + (j - 1) * 3, none⟩ = some (.int .i64 un) ∧ un < L[j].n := by
        by_cases hp : 0 < j
        · exact ⟨_, fun _ => ⟨(hH.all.at (Below.refl _ _) (show j - 1 < L.length by omega)).1, hF.sort j hp hj'⟩⟩
        · exact ⟨0, fun h => absurd h hp⟩
      have hcell := fun w' (h : Lw w p k f L (.slice (some ⟨gb, off, none⟩) L.length capr) w') => h.all.at (Below.refl _ _) hj'
      generalize hbj : bandS (L.take j) = bj at *
      have HBJ : Hid _ := hbj
      clear hbj
      have HBT : Hid _ := hbt
      clear hbt
      generalize L[j] = u at *
      have hq := run_neqU u u
      rw [eqU_refl] at hq
      have hG := fun w' (h : Rl p k f w') => get_any p k u.n f w' h
      rw [hg, ud_some] at hG
      have hnode : Bnd.nodeS u.n = true := (Bnd.nodeS_iff _).2 ⟨hn0, hn64⟩
      have hwp := Bnd.wrap_pow u.n hnode
      have hwb := Bnd.with_bits bj u.n hblt
      have hcell0 := hcell
      by_cases hs2 : u.s < 2
      · have HT : Hid (bandS (L.take (j + 1)) = Bnd.withS bj u.n) := by show _ = _; rw [HBT.out, live_lt hs0 hs2]; rfl
        by_cases hjp : (0 : Int) < j
        · obtain ⟨hc, hlu⟩ := hprev (by omega)
          obtain ⟨jm, hjm⟩ : ∃ jm : Nat, (j : Int) - 1 = jm := ⟨j - 1, by omega⟩
          rw [show j - 1 = jm from by omega] at hc
          have jm0 : (0 : Int) ≤ jm := by omega
          have jm1 : (jm : Int) < L.length := by omega
          have hnle : ¬ u.n ≤ un := by omega
          have hjn : 0 < j := by omega
          have hjd : decide (0 < j) = true := by simp; omega
          have hjd2 : decide ((0 : Int) < (j : Int)) = true := by simp; omega
          clear hprev
          go_wp2_with fail
          go_quiet (fail)
          have hH2 := hH.later (below_drewN _ _ nq)
          generalize wr.drewN nq = w5 at *
          obtain ⟨y0, y1, y2⟩ := hcell _ hH2
          clear x0 x1 x2 hcell
          go_wp2_with fail
          refine (hG _ hH2.os.roll).mono ?_
          rintro e w6 ⟨rfl, hb6⟩
          have ba := below_alloc w6 (.cells #[.int .i64 u.n, .int .u64 u.i, .int .i64 u.s] 34)
          have hH3 := (hH2.later hb6).later ba
          have hX := Bx.new 34 u.n u.i u.s w6
          have hcell3 := hcell0 _ hH3
          obtain ⟨z0, z1, z2⟩ := hcell3
          have q0 := hX.c0
          have q1 := hX.c1
          have q2 := hX.c2
          clear y0 y1 y2 hH2 hb6 ba
          go_wp2_with fail
          go_quiet (fail)
          have hH4 := hH3.later (below_drewN _ _ nq)
          go_wp2_with fail
          go_roundg (gk - 1)
          case rel => exact ⟨j + 1, by omega, by go_num, by rw [HT.out], hH4⟩
          case measure => omega
        · clear hprev
          have hjn : j = 0 := by omega
          have hjd : decide (0 < j) = false := by simp; omega
          have hjd2 : decide ((0 : Int) < (j : Int)) = false := by simp; omega
          have hjd3 : ¬ (0 < j) := by omega
          clear hjn
          go_wp2_with fail
          go_quiet (fail)
          have hH2 := hH.later (below_drewN _ _ nq)
          generalize wr.drewN nq = w5 at *
          obtain ⟨y0, y1, y2⟩ := hcell _ hH2
          clear x0 x1 x2 hcell
          go_wp2_with fail
          refine (hG _ hH2.os.roll).mono ?_
          rintro e w6 ⟨rfl, hb6⟩
          have ba := below_alloc w6 (.cells #[.int .i64 u.n, .int .u64 u.i, .int .i64 u.s] 34)
          have hH3 := (hH2.later hb6).later ba
          have hX := Bx.new 34 u.n u.i u.s w6
          have hcell3 := hcell0 _ hH3
          obtain ⟨z0, z1, z2⟩ := hcell3
          have q0 := hX.c0
          have q1 := hX.c1
          have q2 := hX.c2
          clear y0 y1 y2 hH2 hb6 ba
          go_wp2_with fail
          go_quiet (fail)
          have hH4 := hH3.later (below_drewN _ _ nq)
          go_wp2_with fail
          go_roundg (gk - 1)
          case rel => exact ⟨j + 1, by omega, by go_num, by rw [HT.out], hH4⟩
          case measure => omega
      · have HT : Hid (bandS (L.take (j + 1)) = bj) := by show _ = _; rw [HBT.out, live_ge hs2]; rfl
        by_cases hjp : (0 : Int) < j
        · obtain ⟨hc, hlu⟩ := hprev (by omega)
          obtain ⟨jm, hjm⟩ : ∃ jm : Nat, (j : Int) - 1 = jm := ⟨j - 1, by omega⟩
          rw [show j - 1 = jm from by omega] at hc
          have jm0 : (0 : Int) ≤ jm := by omega
          have jm1 : (jm : Int) < L.length := by omega
          have hnle : ¬ u.n ≤ un := by omega
          have hjn : 0 < j := by omega
          have hjd : decide (0 < j) = true := by simp; omega
          have hjd2 : decide ((0 : Int) < (j : Int)) = true := by simp; omega
          clear hprev
          go_wp2_with fail
          go_quiet (fail)
          have hH2 := hH.later (below_drewN _ _ nq)
          generalize wr.drewN nq = w5 at *
          obtain ⟨y0, y1, y2⟩ := hcell _ hH2
          clear x0 x1 x2 hcell
          go_wp2_with fail
          refine (hG _ hH2.os.roll).mono ?_
          rintro e w6 ⟨rfl, hb6⟩
          have ba := below_alloc w6 (.cells #[.int .i64 u.n, .int .u64 u.i, .int .i64 u.s] 34)
          have hH3 := (hH2.later hb6).later ba
          have hX := Bx.new 34 u.n u.i u.s w6
          have hcell3 := hcell0 _ hH3
          obtain ⟨z0, z1, z2⟩ := hcell3
          have q0 := hX.c0
          have q1 := hX.c1
          have q2 := hX.c2
          clear y0 y1 y2 hH2 hb6 ba
          go_wp2_with fail
          go_quiet (fail)
          have hH4 := hH3.later (below_drewN _ _ nq)
          go_wp2_with fail
          go_roundg (gk - 1)
          case rel => exact ⟨j + 1, by omega, by go_num, by rw [HT.out], hH4⟩
          case measure => omega
        · clear hprev
          have hjn : j = 0 := by omega
          have hjd : decide (0 < j) = false := by simp; omega
          have hjd2 : decide ((0 : Int) < (j : Int)) = false := by simp; omega
          have hjd3 : ¬ (0 < j) := by omega
          clear hjn
          go_wp2_with fail
          go_quiet (fail)
          have hH2 := hH.later (below_drewN _ _ nq)
          generalize wr.drewN nq = w5 at *
          obtain ⟨y0, y1, y2⟩ := hcell _ hH2
          clear x0 x1 x2 hcell
          go_wp2_with fail
          refine (hG _ hH2.os.roll).mono ?_
          rintro e w6 ⟨rfl, hb6⟩
          have ba := below_alloc w6 (.cells #[.int .i64 u.n, .int .u64 u.i, .int .i64 u.s] 34)
          have hH3 := (hH2.later hb6).later ba
          have hX := Bx.new 34 u.n u.i u.s w6
          have hcell3 := hcell0 _ hH3
          obtain ⟨z0, z1, z2⟩ := hcell3
          have q0 := hX.c0
          have q1 := hX.c1
          have q2 := hX.c2
          clear y0 y1 y2 hH2 hb6 ba
          go_wp2_with fail
          go_quiet (fail)
          have hH4 := hH3.later (below_drewN _ _ nq)
          go_wp2_with fail
          go_roundg (gk - 1)
          case rel => exact ⟨j + 1, by omega, by go_num, by rw [HT.out], hH4⟩
          case measure => omega
    · obtain rfl : j = L.length := by omega
      rw [List.take_length]
      have hsb := Bnd.shr_bit (bandS L) k hF.lt
      rw [hF.self, if_pos rfl] at hsb
      have hcnt := hF.count
      generalize bandS L = B at *
      go_wp2_with fail
      refine (hLv _ hH.os.roll).mono ?_
      rintro e w5 ⟨rfl, hb5⟩
      have hH5 := hH.later hb5
      have k0 : (0 : Int) ≤ k := by omega
      have k64 : (k : Int) < 64 := by omega
      go_wp2_with fail
      refine (hOt _ hH5.os).mono ?_
      rintro e w6 ⟨⟨v6, rfl, hv6⟩, hb6⟩
      have hH6 := hH5.later hb6
      obtain ⟨a6, c6, rfl, hz6⟩ := hv6
      clear hz6
      generalize (othS k f).length = N at *
      have hd := dead_any _ L w6 hH6.all (by omega)
      generalize deadS L = D at *
      have e1 : (L.length : Int) - D - 1 = N := by omega
      have d0 : (0 : Int) ≤ D := by omega
      have d1 : (D : Int) ≤ 64 := by omega
      have hn1 : (N : Int) ≤ 64 := by omega
      clear hcnt
      go_wp2_with fail
      refine hd.mono ?_
      rintro e w7 ⟨rfl, hb7⟩
      have hH7 := hH6.later hb7
      go_wp2_with fail
      go_ret
      exact ⟨by simp, hH7.os.below⟩

set_option maxRecDepth 100000 in
theorem live_long (me : Int) (a : Option Addr) (len cap : Nat) (w : World) (hl : (100 : Int) < len) :
    Calls Tryd.prog 4 #[.int .u8 me, .slice a len cap] w fun e w' => e = .returned (.bool true) ∧ Below w.heap.size w w' := by
  go_enter Tryd.func4, Tryd.ntmps4
  go_wp2_with (go_at_call 5; refine (shown_any _).mono ?_; rintro e w1 ⟨rfl, hb1⟩)
  go_ret
  exact ⟨rfl, hb1⟩

theorem live_walk (me : Int) (a : Option Addr) (len cap : Nat) (l : List Upd) (h : (Lit.int .u8 me).wf = true) (w : World) (hU : IsUpds w a len cap l) (hT : Bnd.Tab w) :
    Calls Tryd.prog 4 #[.int .u8 me, .slice a len cap] w fun e w' => e = .returned (.bool true) ∧ Below w.heap.size w w' := by
  have hin := hU.inok
  obtain ⟨rfl, hR, _⟩ := hU
  by_cases hl : (100 : Int) < l.length
  · exact live_long me a l.length cap w hl
  · exact live_core me (bounds_u8 h) a cap l w hR hT hin (by omega)
end Go.Proofs.YtkodeahhckibmaaDoor
