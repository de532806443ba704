/-
  DetectActs, walked.
-/
import Derived.Test.YtpoofjnfaijjjaaGreatDoorMFTi
import Derived.Test.YtpoofjnfaijjjaaGreatDoorMFHe
import Derived.Test.YtpoofjnfaijjjaaGreatDoorMFAl
import Derived.Test.YtpoofjnfaijjjaaGreatDoorMNLop
import Derived.Deep.CutBlock
namespace Go.Proofs.YtpoofjnfaijjjaaGreatDoor.Fx
open Go.RowKit Go.Proofs.YtpoofjnfaijjjaaGreatDoor Go.Proofs.YtpoofjnfaijjjaaGreatDoor.Ro
theorem ruB {v : Value} {u : List Upd} {w w' : World} (hU : Ro.Ru v u w) (hb : Below w.heap.size w w') : Ro.Ru v u w' := hU.keep fun g _ hlt => hb.block g hlt
theorem nw_old {v : Value} {u : List Upd} {p : Nat} {b : Bl} {w0 w : World} (hR : Ro.Ru v u w0) (hU : Und p b w0 w) : Nw p b w v u := by
  obtain ⟨a, cap, rfl, _, _, h3⟩ := hR
  rcases h3 with h3 | ⟨g, off, rfl, h3⟩
  · exact .inl (List.length_eq_zero_iff.1 h3)
  · cases u with
    | nil => exact .inl rfl
    | cons x r =>
      refine .inr fun g' e => ?_
      obtain rfl : g = g' := Option.some.inj e
      have hlt : g < w0.heap.size := World.block_lt_of_cell? _ _ (h3 0 (by simp)).1
      exact ⟨Nat.lt_of_lt_of_le hlt hU.below.size, fun e => by have := hU.p; omega, fun i e => by have := hU.own i g e; omega⟩
structure Ba (g : Nat) (A : Ac) (w : World) : Prop where
  heap : w.heap[g]? = some (.cells #[.int .i64 A.kind, .int .i64 A.x.n.k, .int .i64 A.x.n.f, .int .i64 A.x.n.t, .int .u64 A.x.n.q, .int .i64 A.x.n.o, .slice A.x.a A.x.L A.x.c, .int .i64 A.U.n, .int .u64 A.U.i, .int .i64 A.U.s] 41 (0, 0))
section
variable {g : Nat} {A : Ac} {w w' : World}
theorem Ba.c0 (h : Ba g A w) : w.cell? ⟨g, 0, none⟩ = some (.int .i64 A.kind) := by simp [World.cell?, h.heap]
theorem Ba.c1 (h : Ba g A w) : w.cell? ⟨g, 1, none⟩ = some (.int .i64 A.x.n.k) := by simp [World.cell?, h.heap]
theorem Ba.c2 (h : Ba g A w) : w.cell? ⟨g, 2, none⟩ = some (.int .i64 A.x.n.f) := by simp [World.cell?, h.heap]
theorem Ba.c3 (h : Ba g A w) : w.cell? ⟨g, 3, none⟩ = some (.int .i64 A.x.n.t) := by simp [World.cell?, h.heap]
theorem Ba.c4 (h : Ba g A w) : w.cell? ⟨g, 4, none⟩ = some (.int .u64 A.x.n.q) := by simp [World.cell?, h.heap]
theorem Ba.c5 (h : Ba g A w) : w.cell? ⟨g, 5, none⟩ = some (.int .i64 A.x.n.o) := by simp [World.cell?, h.heap]
theorem Ba.c6 (h : Ba g A w) : w.cell? ⟨g, 6, none⟩ = some (.slice A.x.a A.x.L A.x.c) := by simp [World.cell?, h.heap]
theorem Ba.c7 (h : Ba g A w) : w.cell? ⟨g, 7, none⟩ = some (.int .i64 A.U.n) := by simp [World.cell?, h.heap]
theorem Ba.c8 (h : Ba g A w) : w.cell? ⟨g, 8, none⟩ = some (.int .u64 A.U.i) := by simp [World.cell?, h.heap]
theorem Ba.c9 (h : Ba g A w) : w.cell? ⟨g, 9, none⟩ = some (.int .i64 A.U.s) := by simp [World.cell?, h.heap]
theorem Ba.lt (h : Ba g A w) : g < w.heap.size := (Array.getElem?_eq_some_iff.1 h.heap).1
theorem Ba.keep (h : Ba g A w) (e : w'.heap[g]? = w.heap[g]?) : Ba g A w' := ⟨e.trans h.heap⟩
end
set_option maxRecDepth 100000 in
theorem acts_short (me : Int) (a1 : Option Addr) (len1 cap1 : Nat) (a2 : Option Addr) (len2 cap2 : Nat) (w : World) (hT : Bnd.Tab w) (h : (600 : Int) < len1 ∨ (80 : Int) < len2) :
    Calls Tryz.prog 3 #[.int .i64 me, .slice a1 len1 cap1, .slice a2 len2 cap2] w fun e w' => e = .returned (.bool true) ∧ Below w.heap.size w w' := by
  have hs := shown_any w hT
  by_cases h1 : (600 : Int) < len1
  · go_enter Tryz.func3, Tryz.ntmps3
    go_wp2_with fail
    refine hs.mono ?_
    rintro e w1 ⟨rfl, hb1⟩
    go_wp2_with fail
    go_ret
    exact ⟨rfl, hb1⟩
  · have h2 : (80 : Int) < len2 := h.resolve_left h1
    go_enter Tryz.func3, Tryz.ntmps3
    go_wp2_with fail
    refine hs.mono ?_
    rintro e w1 ⟨rfl, hb1⟩
    go_wp2_with fail
    go_ret
    exact ⟨rfl, hb1⟩
set_option maxRecDepth 100000 in
theorem acts_none (me : Int) (hme : ¬ (0 ≤ me ∧ me < 64)) (a1 : Option Addr) (len1 cap1 : Nat) (a2 : Option Addr) (len2 cap2 : Nat) (w : World) (hT : Bnd.Tab w) (h1 : ¬ (600 : Int) < len1) (h2 : ¬ (80 : Int) < len2) :
    Calls Tryz.prog 3 #[.int .i64 me, .slice a1 len1 cap1, .slice a2 len2 cap2] w fun e w' => e = .returned (.bool true) ∧ Below w.heap.size w w' := by
  have hs := shown_any w hT
  go_enter Tryz.func3, Tryz.ntmps3
  go_wp2_with fail
  refine hs.mono ?_
  rintro e w1 ⟨rfl, hb1⟩
  have hT1 := hT.below hT.lt hb1
  have hn := dnew_any me w1 hT1
  go_wp2_with fail
  refine hn.mono ?_
  rintro e w2 ⟨_, he, b2⟩
  obtain rfl := he hme
  have hf := fnew_none me hme w2
  go_wp2_with fail
  refine hf.mono ?_
  rintro e w3 ⟨rfl, b3⟩
  go_wp2_with fail
  go_ret
  exact ⟨rfl, bT (bT hb1 b2) b3⟩
theorem BW.set4 {g : Nat} {x y : Wch} {w : World} (h : w.heap[g]? = some (.cells (cellsW x) 65 (0, 0))) : BW g y ((((w.setCell ⟨g, 0, none⟩ (.int .i64 y.n)).setCell ⟨g, 1, none⟩ (.int .u64 y.q)).setCell ⟨g, 2, none⟩ (.int .u64 y.a)).setCell ⟨g, 3, none⟩ (.bool y.h)) :=
  ⟨by simp [World.setCell, Array.getElem?_modify, h]⟩
structure Ar (k Bp p : Nat) (c : Rc) (q i : Nat) (w : World) : Prop where
  ex : ∃ b br d l, Bo k Bp p c b br d d l l w ∧ d.W.length ≤ i ∧ b.q = q
theorem news_old {k Bp p : Nat} {c : Rc} {b : Bl} {br : Rw} {d e : Det} {l m : List Int} {w : World} (h : Bo k Bp p c b br d e l m w) {v : Value} {u : List Upd} (hR : Ro.Ru v u c.w0) : Nv c br w v u := by
  obtain ⟨a, cap, rfl, _, _, h3⟩ := hR
  rcases h3 with h3 | ⟨g, off, rfl, h3⟩
  · exact .inl (List.length_eq_zero_iff.1 h3)
  · cases u with
    | nil => exact .inl rfl
    | cons x r =>
      refine .inr fun g' e => ?_
      obtain rfl : g = g' := Option.some.inj e
      have hlt : g < c.w0.heap.size := World.block_lt_of_cell? _ _ (h3 0 (by simp)).1
      have hy := h.r.lots.le
      exact ⟨Nat.lt_of_lt_of_le hlt h.r.lots.below.size, fun e => by omega, fun i e => by have := (h.r.out i g e).2; omega⟩
theorem hear_len (k : Nat) (d : Det) (n : Nte) (l : List Int) {i : Nat} (h : d.W.length ≤ i) : (d.hear k n l).2.1.W.length ≤ i := Nat.le_trans (hear_W k d n l) h
set_option maxRecDepth 100000 in
set_option maxHeartbeats 16000000 in
theorem acts_walk (me : Int) (a1 : Option Addr) (len1 cap1 : Nat) (l : List Int) (a2 : Option Addr) (len2 cap2 : Nat) (A : List Ac) (_ : (Lit.int .i64 me).wf = true) (w : World) (hl : Rn.Lots w a1 len1 cap1 l) (hA : IsActs w a2 len2 cap2 A) (hT : Bnd.Tab w) :
    Calls Tryz.prog 3 #[.int .i64 me, .slice a1 len1 cap1, .slice a2 len2 cap2] w fun e w' => e = .returned (.bool true) ∧ Below w.heap.size w w' := by
  by_cases hsh : (600 : Int) < len1 ∨ (80 : Int) < len2
  · exact acts_short me a1 len1 cap1 a2 len2 cap2 w hT hsh
  have h1 : ¬ (600 : Int) < len1 := fun h => hsh (.inl h)
  have h2 : ¬ (80 : Int) < len2 := fun h => hsh (.inr h)
  by_cases hme : 0 ≤ me ∧ me < 64
  case neg => exact acts_none me hme a1 len1 cap1 a2 len2 cap2 w hT h1 h2
  obtain ⟨hRl, hok⟩ := hl
  obtain ⟨_, _, e, _⟩ := id hRl
  cases e
  obtain ⟨rfl, hA2, hA3⟩ := hA
  obtain ⟨k, rfl⟩ : ∃ k : Nat, me = k := ⟨me.toNat, by omega⟩
  have hk : k < 64 := by omega
  clear hme hsh
  have hs := shown_any w hT
  go_enter Tryz.func3, Tryz.ntmps3
  go_wp2_with fail
  refine hs.mono ?_
  rintro e w1 ⟨rfl, hb1⟩
  have hT1 := hT.below hT.lt hb1
  have hn := dnew_any k w1 hT1
  go_upto_region 4 with (go_at_call 9; go_must (refine hn.mono ?_; rintro e w2 ⟨hnew, _, b2⟩; obtain ⟨bA, rfl, hA0, oA⟩ := hnew k rfl hk))
  have hb2 := bT hb1 b2
  have hfn := fnew_any k hk w2 (by have := hT.lt; have := hb2.size; omega)
  go_upto_region 5 with (go_at_call 10; go_must (refine hfn.mono ?_; rintro e w3 ⟨q, r, qq, qd, qs, bR, rfl, b3, hRp⟩))
  have hb3 := bT hb2 b3
  have hln := Rn.new_any _ l w3 (by omega) (hRl.below hb3)
  go_upto_region 10 with (go_at_call 11; go_must (refine hln.mono ?_; rintro e w4 ⟨⟨p, rfl, hL4⟩, b4⟩))
  have hb4 := bT hb3 b4
  have hX4 := (hA0.below b3).sx b4 hL4 hok
  have hR5 := Rp.ry (fun y => (hRp y w a1 cap1 l).1.below b4) (fun y i g hg => Nat.le_trans hb2.size ((hRp y w a1 cap1 l).2 i g hg)) hb4 hRl hok (by omega)
  have b5 := below_alloc w4 (.cells #[.slice a1 l.length cap1, .int .i64 0] 33)
  have hz5 : (w4.alloc (.cells #[.slice a1 l.length cap1, .int .i64 0] 33)).heap.size = w4.heap.size + 1 := by simp
  obtain ⟨w5, HW5⟩ : ∃ w5, Hid (w5 = w4.alloc (.cells #[.slice a1 l.length cap1, .int .i64 0] 33)) := ⟨_, rfl⟩
  rw [← HW5.out] at hR5 b5 hz5
  have hX5 := hX4.below b5
  have hz1 := hb1.size
  have hz2 := b2.size
  have hz3 := b3.size
  have hpl := hL4.le
  have hpt := hL4.lt
  obtain ⟨y, HY⟩ : ∃ y, Hid (w4.heap.size = y) := ⟨_, rfl⟩
  have hB5 : Bo k w3.heap.size p ⟨k, q, r, qq, qd, qs, w4.heap.size, w, a1, cap1, l⟩ bA bR (Det.new k) (Det.new k) l l w5 := by
    refine ⟨hX5, hR5, fun i g hg => ?_, fun i g hg => ?_, ?_, hpt, ⟨bT hb4 b5, (show w.heap.size ≤ p by omega), fun i g e => show w.heap.size ≤ g by have := oA i g e; omega⟩⟩
    · have q1 := (hRp w4.heap.size w a1 cap1 l).2 i g hg
      have q2 := ((hRp w4.heap.size w a1 cap1 l).1.sep.lt i g hg).2
      exact ⟨by have := b4.size; omega, by omega, fun j e => by have := (hA0.sep.lt j g e).2; omega⟩
    · have q2 := ((hRp w4.heap.size w a1 cap1 l).1.sep.lt i g hg).2
      exact .inl q2
    · exact ⟨by show w4.heap.size < _; omega, by show w4.heap.size ≠ p; omega, fun j e => by have q1 := (hA0.sep.lt j w4.heap.size e).2; have q2 := b4.size; omega⟩
  rw [HY.out] at hB5
  obtain ⟨c, HC⟩ : ∃ c : Rc, Hid ((⟨k, q, r, qq, qd, qs, y, w, a1, cap1, l⟩ : Rc) = c) := ⟨_, rfl⟩
  have hck : c.k = k := by rw [← HC.out]
  have hcq : c.q = q := by rw [← HC.out]
  have hcy : c.y = y := by rw [← HC.out]
  have hcw : c.w0 = w := by rw [← HC.out]
  rw [HC.out] at hB5
  obtain ⟨Bp, HBp⟩ : ∃ Bp, Hid (w3.heap.size = Bp) := ⟨_, rfl⟩
  rw [HBp.out] at hB5
  have hAr : Ar k Bp p c bA.q 0 w5 := ⟨⟨bA, bR, Det.new k, l, hB5, Nat.le_refl _, rfl⟩⟩
  obtain ⟨q0, HQ⟩ : ∃ q0, Hid (bA.q = q0) := ⟨_, rfl⟩
  go_upto_region 11 with fail
  rw [HY.out, HQ.out, ← HW5.out]
  rw [HQ.out] at hAr
  subst hck hcq hcy hcw
  clear hs hn hnew hfn hln hRp hA0 oA hX4 hX5 hR5 hB5 b2 b3 b4 b5 hb2 hb3 hb4 hz1 hz2 hz3 hz5 hT1 hpl hpt hL4 hRl HY HQ HBp HC hok
  obtain ⟨N, HN⟩ : ∃ N, Hid (A.length = N) := ⟨_, rfl⟩
  rw [HN.out] at h2 hA2 ⊢
  go_wp2_with fail
  go_loopg [11] N (fun gk t11 wr => ∃ i : Nat, i + gk = N ∧ t11 = .int .i64 i ∧ Ar c.k Bp p c q0 i wr)
  case atStart => exact ⟨0, by omega, rfl, hAr⟩
  case round =>
    obtain ⟨i, hi, rfl, ⟨b, br, d, l', hB, hW, hq⟩⟩ := hrel
    by_cases hlt : (i : Int) < N
    · have i0 : (0 : Int) ≤ i := by omega
      have hil : i < A.length := by rw [HN.out]; omega
      have hAi := hA3 A[i] (List.getElem_mem hil)
      obtain ⟨ga, off, rfl, hga, hc⟩ := hA2.at_ hil
      have hU := hB.un
      obtain ⟨x0, x1, x2, x3, x4, x5, x6, x7, x8, x9⟩ : wr.cell? ⟨ga, off + i * 10, none⟩ = some (.int .i64 A[i].kind) ∧ wr.cell? ⟨ga, off + i * 10 + 1, none⟩ = some (.int .i64 A[i].x.n.k) ∧ wr.cell? ⟨ga, off + i * 10 + 2, none⟩ = some (.int .i64 A[i].x.n.f) ∧ wr.cell? ⟨ga, off + i * 10 + 3, none⟩ = some (.int .i64 A[i].x.n.t) ∧ wr.cell? ⟨ga, off + i * 10 + 4, none⟩ = some (.int .u64 A[i].x.n.q) ∧
          wr.cell? ⟨ga, off + i * 10 + 5, none⟩ = some (.int .i64 A[i].x.n.o) ∧ wr.cell? ⟨ga, off + i * 10 + 6, none⟩ = some (.slice A[i].x.a A[i].x.L A[i].x.c) ∧ wr.cell? ⟨ga, off + i * 10 + 7, none⟩ = some (.int .i64 A[i].U.n) ∧ wr.cell? ⟨ga, off + i * 10 + 8, none⟩ = some (.int .u64 A[i].U.i) ∧ wr.cell? ⟨ga, off + i * 10 + 9, none⟩ = some (.int .i64 A[i].U.s) := by
        have hk := fun c v hv => (Below.cell (p := ⟨ga, off + i * 10 + c, none⟩) hU.below hga).trans (hc c v hv)
        exact ⟨hk 0 _ rfl, hk 1 _ rfl, hk 2 _ rfl, hk 3 _ rfl, hk 4 _ rfl, hk 5 _ rfl, hk 6 _ rfl, hk 7 _ rfl, hk 8 _ rfl, hk 9 _ rfl⟩
      clear hc hU
      obtain ⟨Y, HY⟩ : ∃ Y, Hid (A[i] = Y) := ⟨A[i], rfl⟩
      rw [HY.out] at hAi x0 x1 x2 x3 x4 x5 x6 x7 x8 x9
      obtain ⟨hYo, hYr⟩ := hAi
      have bY := below_alloc wr (.cells #[.int .i64 Y.kind, .int .i64 Y.x.n.k, .int .i64 Y.x.n.f, .int .i64 Y.x.n.t, .int .u64 Y.x.n.q, .int .i64 Y.x.n.o, .slice Y.x.a Y.x.L Y.x.c, .int .i64 Y.U.n, .int .u64 Y.U.i, .int .i64 Y.U.s] 41)
      have hBa : Ba wr.heap.size Y (wr.alloc (.cells #[.int .i64 Y.kind, .int .i64 Y.x.n.k, .int .i64 Y.x.n.f, .int .i64 Y.x.n.t, .int .u64 Y.x.n.q, .int .i64 Y.x.n.o, .slice Y.x.a Y.x.L Y.x.c, .int .i64 Y.U.n, .int .u64 Y.U.i, .int .i64 Y.U.s] 41)) := ⟨heap_alloc_new wr _⟩
      obtain ⟨w4, HW4⟩ : ∃ w4, Hid (w4 = wr.alloc (.cells #[.int .i64 Y.kind, .int .i64 Y.x.n.k, .int .i64 Y.x.n.f, .int .i64 Y.x.n.t, .int .u64 Y.x.n.q, .int .i64 Y.x.n.o, .slice Y.x.a Y.x.L Y.x.c, .int .i64 Y.U.n, .int .u64 Y.U.i, .int .i64 Y.U.s] 41)) := ⟨_, rfl⟩
      rw [← HW4.out] at bY hBa
      have hB4 := hB.below bY
      have hAw4 := hB.s.away (Nat.le_refl _) hBa.lt
      have hOf4 := hB.r.off (Nat.le_refl _) hBa.lt
      obtain ⟨gb, HGB⟩ : ∃ gb, Hid (wr.heap.size = gb) := ⟨_, rfl⟩
      rw [HGB.out] at hBa hAw4 hOf4
      have hAb : Away p b w4 gb := hAw4
      go_upto_region 15 with fail
      rw [HGB.out, ← HW4.out]
      clear x0 x1 x2 x3 x4 x5 x6 x7 x8 x9
      have y6 := hBa.c6
      by_cases h30 : (30 : Int) < Y.x.L
      · have hsw := shown_any w4 (hT.below hT.lt hB4.un.below)
        go_wp2_with fail
        refine hsw.mono ?_
        rintro e w5 ⟨rfl, hb5⟩
        go_wp2_with fail
        go_ret
        exact ⟨rfl, bT hB4.un.below hb5⟩
      go_upto_region 18 with fail
      clear y6
      have y0 := hBa.c0
      go_upto_block 2 with fail
      go_cut [13, 14, 15, 16, 17, 18, 19, 20, 21, 22, 23] from 68 to 175 (fun t13 t14 t15 t16 t17 t18 t19 t20 t21 t22 t23 wx => t13 = .bool true ∧ Ar c.k Bp p c q0 (i + 1) wx)
      case first =>
        have hWl : d.W.length ≤ 500 := by omega
        by_cases e0 : Y.kind = 0
        · have t0 : (Y.kind == 0) = true := by simpa using e0
          clear e0
          have htk := tick_any hB4.s hWl
          rw [hq] at htk
          go_wp2_with (first
            | (go_at_call 13; go_must (refine htk.mono ?_; rintro e w6 ⟨v6, X6, b6, rfl, hs6, hX6, h6, s6⟩; have hB6 := hB4.code h6 s6; have hft := ftick_any hB6.r hWl))
            | (go_at_call 14; go_must (refine hft.mono ?_; rintro e w7 ⟨v7, X7, b7, rfl, hs7, hX7, h7, s7⟩; have hB7 := hB6.ref h7 s7; have hsm := same_any v6 v7 X6 X7 (Bo.said hB4 hs6 s7) hs7.ns (hX6.trans hX7.symm)))
            | (go_at_call 12; go_must (refine hsm.mono ?_; rintro e w8 ⟨rfl, b8⟩)))
          go_meet
          exact ⟨rfl, ⟨⟨b6, b7, _, _, hB7.below b8, Nat.le_trans (tick_W _ _ _) (Nat.succ_le_succ hW), s6.q.trans hq⟩⟩⟩
        have t0 : (Y.kind == 0) = false := by simpa using e0
        clear e0
        by_cases e12 : Y.kind = 1 ∨ Y.kind = 2
        · have ht12 : ((Y.kind == 1) = true) ∨ ((Y.kind == 1) = false ∧ (Y.kind == 2) = true) := by
            rcases e12 with e | e
            · exact .inl (by simpa using e)
            · exact .inr ⟨by rw [e]; rfl, by simpa using e⟩
          clear e12
          have hlen : Y.x.n.u.length ≤ 30 := by
            obtain ⟨_, _, e, _⟩ := id hYr
            have : Y.x.L = Y.x.n.u.length := by injection e
            omega
          have hhe := hear_any hB4.s Y.x.n Y.x.a Y.x.L Y.x.c (ruB hYr hB4.un.below) (nw_old hYr hB4.un) (Nat.le_trans hlen (by decide)) hYo.u (by omega) hYo.q
          rw [hq] at hhe
          have hfh := fun (w' : World) (h' : Ry c br d l' w') hU hA => fhearn_any h' Y.x.n Y.x.a Y.x.L Y.x.c hU hA (Nat.le_trans hlen (by decide)) hYo.u (by omega) hYo.q
          have hhw := hear_len c.k d Y.x.n l' (Nat.le_succ_of_le hW)
          generalize d.hear c.k Y.x.n l' = R at *
          obtain ⟨⟨R1, R2⟩, R3, R4⟩ := R
          dsimp only at hhe hfh hhw
          have y1 := hBa.c1
          have y2 := hBa.c2
          have y3 := hBa.c3
          have y4 := hBa.c4
          have y5 := hBa.c5
          have y6 := hBa.c6
          rcases ht12 with t1 | ⟨t1, t2⟩
          all_goals
            go_wp2_with (first
              | (go_at_call 15; go_must (refine hhe.mono ?_; rintro e w6 ⟨v6, X6, b6, rfl, hs6, hX6, h6, s6⟩; have hB6 := hB4.code h6 s6; have hBa6 := hBa.keep (s6.keep hAb); have z1 := hBa6.c1; have z2 := hBa6.c2; have z3 := hBa6.c3; have z4 := hBa6.c4; have z5 := hBa6.c5; have z6 := hBa6.c6; have hfh6 := hfh w6 hB6.r (ruB hYr hB6.un.below) (news_old hB6 hYr)))
              | (go_at_call 16; go_must (refine hfh6.mono ?_; rintro e w7 ⟨v7, X7, b7, rfl, hs7, hX7, h7, s7⟩; have hB7 := hB6.ref h7 s7; have hsm := same_any v6 v7 X6 X7 (Bo.said hB4 hs6 s7) hs7.ns (hX6.trans hX7.symm)))
              | (go_at_call 12; go_must (refine hsm.mono ?_; rintro e w8 ⟨rfl, b8⟩)))
            go_meet
            exact ⟨by first | rfl | simp, ⟨⟨b6, b7, _, _, hB7.below b8, hhw, s6.q.trans hq⟩⟩⟩
        have t1 : (Y.kind == 1) = false := by simpa using fun h => e12 (.inl h)
        have t2 : (Y.kind == 2) = false := by simpa using fun h => e12 (.inr h)
        clear e12
        by_cases e3 : Y.kind = 3
        · have t3 : (Y.kind == 3) = true := by simpa using e3
          clear e3
          have hkc : ∀ w' m', Sx c.k Bp p b d m' w' → _ := fun w' m' h' => know_any h' Y.U hYo.U
          rw [hq] at hkc
          have hkr := fun w' m' (h' : Ry c br d m' w') => fknow_any h' Y.U hYo.U
          have htw := (take_W c.k d Y.U c.k l').1
          go_upto_region 27 with fail
          have hB := hB4.below (bD (Below.refl _ _))
          have hBa := hBa.keep (w' := w4.drew) rfl
          have hAb : Away p b w4.drew gb := ⟨hAb.lt, hAb.p, hAb.own⟩
          have hOf := hOf4.drew
          have hS := And.intro hBa.c7 (And.intro hBa.c8 hBa.c9)
          go_region_held3 (fun w' => w'.cell? ⟨gb, 7, none⟩ = some (.int .i64 Y.U.n) ∧ w'.cell? ⟨gb, 8, none⟩ = some (.int .u64 Y.U.i) ∧ w'.cell? ⟨gb, 9, none⟩ = some (.int .i64 Y.U.s)) (first | exact hS) ((first
            | (go_at_call 17; refine (hkc _ _ (Bo.s hB)).mono ?_; rintro e w6 ⟨rfl, b6, h6, s6⟩; have hq6 := s6.q.trans hq; have hBa := Ba.keep hBa (s6.keep hAb); have hOf := Off.more hOf s6.size; have hAb := hAb.stp s6; have hB := Bo.code hB h6 s6; have hS := And.intro hBa.c7 (And.intro hBa.c8 hBa.c9))
            | (go_at_call 18; refine (hkr _ _ (Bo.r hB)).mono ?_; rintro e w7 ⟨rfl, b7, h7, s7⟩; have hBa := Ba.keep hBa (s7.keep hOf); have hAb : Away p _ w7 gb := ⟨Nat.lt_of_lt_of_le hAb.lt s7.size, hAb.p, hAb.own⟩; have hOf := hOf.step s7; have hB := Bo.ref hB h7 s7; have hS := And.intro hBa.c7 (And.intro hBa.c8 hBa.c9))))
          all_goals
            go_wp2_with fail
            go_meet
            exact ⟨by first | rfl | simp, ⟨⟨_, _, _, _, hB, by rw [htw]; exact Nat.le_succ_of_le hW, hq6⟩⟩⟩
        have t3 : (Y.kind == 3) = false := by simpa using e3
        clear e3
        by_cases e4 : Y.kind = 4
        · have t4 : (Y.kind == 4) = true := by simpa using e4
          clear e4
          have hlc := leave_any hB4.s
          rw [hq] at hlc
          have hlr := fun w' (h' : Ry c br d l' w') => fleave_any h'
          generalize (if d.le = true then (5 : Int) else 0) = z at *
          go_wp2_with (first
            | (go_at_call 19; go_must (refine hlc.mono ?_; rintro e w6 ⟨rfl, h6, s6⟩; have hB6 := hB4.code h6 s6; have hlr6 := hlr w6 hB6.r))
            | (go_at_call 20; go_must (refine hlr6.mono ?_; rintro e w7 ⟨rfl, h7, s7⟩; have hB7 := hB6.ref h7 s7)))
          go_meet
          exact ⟨by first | rfl | simp, ⟨⟨b, br, _, _, hB7, Nat.le_succ_of_le hW, hq⟩⟩⟩
        have t4 : (Y.kind == 4) = false := by simpa using e4
        clear e4
        by_cases e5 : Y.kind = 5
        case neg =>
          have t5 : (Y.kind == 5) = false := by simpa using e5
          clear e5
          go_wp2_with fail
          go_meet
          exact ⟨rfl, ⟨⟨b, br, d, l', hB4, Nat.le_succ_of_le hW, hq⟩⟩⟩
        have t5 : (Y.kind == 5) = true := by simpa using e5
        clear e5
        have hrow := hB4.r.ws
        have c5 := hB4.r.c5
        obtain ⟨ua, ucap, hvw, _⟩ := hrow.len
        obtain ⟨NW, HNW⟩ : ∃ NW, Hid (d.W.length = NW) := ⟨_, rfl⟩
        rw [HNW.out] at hvw hWl
        rw [hvw] at c5 hrow
        by_cases hW0 : NW = 0
        · have hM : ¬ (0 : Int) < NW := by omega
          go_wp2_with fail
          go_meet
          exact ⟨rfl, ⟨⟨b, br, d, l', hB4, Nat.le_succ_of_le hW, hq⟩⟩⟩
        have hM : (0 : Int) < NW := by omega
        obtain ⟨M, HM⟩ : ∃ M : Nat, Hid (NW = M + 1) := ⟨NW - 1, by show _ = _; omega⟩
        have hMl : M < d.W.length := by rw [HNW.out, HM.out]; omega
        have hM0 : (0 : Int) ≤ M := by omega
        have hMN : (M : Int) < NW := by have := HM.out; omega
        have hwr : IntKind.i64.wrap ((NW : Int) - 1) = M := by have := HM.out; rw [IntKind.wrap_i64]; omega
        obtain ⟨gw, rfl⟩ : ∃ gw, ua = some ⟨gw, 0, none⟩ := by
          rcases hrow.2 with ⟨e, h0⟩ | ⟨g, cap, cur, e, _⟩
          · omega
          · cases e; exact ⟨g, rfl⟩
        obtain ⟨x0, x1, x2, x3⟩ := hrow.atW (by rw [HNW.out]) M hMl
        have hyo := hB4.r.ok.W d.W[M] (List.getElem_mem hMl)
        generalize d.W[M] = y at *
        clear hW0
        go_upto_region 32 with fail
        have hSS : w4.drew.cell? ⟨c.q, 5, none⟩ = some (.slice (some ⟨gw, 0, none⟩) NW ucap) ∧ w4.drew.cell? ⟨gw, M * 4, none⟩ = some (.int .i64 y.n) ∧ w4.drew.cell? ⟨gw, M * 4 + 1, none⟩ = some (.int .u64 y.q) ∧ w4.drew.cell? ⟨gw, M * 4 + 2, none⟩ = some (.int .u64 y.a) ∧ w4.drew.cell? ⟨gw, M * 4 + 3, none⟩ = some (.bool y.h) := ⟨c5, x0, x1, x2, x3⟩
        have hB5 := hB4.below (bD (Below.refl _ _))
        obtain ⟨wd, HWD⟩ : ∃ wd, Hid (wd = w4.drew) := ⟨_, rfl⟩
        rw [← HWD.out] at hSS hB5
        clear x0 x1 x2 x3 c5 hrow y0
        have b6 := below_alloc wd (.cells #[.int .i64 0, .int .u64 0, .int .u64 0, .bool false] 65)
        have n6 : (wd.alloc (.cells #[.int .i64 0, .int .u64 0, .int .u64 0, .bool false] 65)).heap[wd.heap.size]? = _ := heap_alloc_new wd _
        obtain ⟨w6, HW6⟩ : ∃ w6, Hid (w6 = wd.alloc (.cells #[.int .i64 0, .int .u64 0, .int .u64 0, .bool false] 65)) := ⟨_, rfl⟩
        rw [← HW6.out] at b6 n6
        have hY7 := BW.set4 (x := ⟨0, 0, 0, false⟩) (y := y) n6
        have hk6 : ∀ (a : Addr) (v : Value), wd.cell? a = some v → w6.cell? a = some v := fun a v hv => (Below.cell (p := a) b6 (World.block_lt_of_cell? _ _ hv)).trans hv
        have hSS6 := And.imp (hk6 _ _) (And.imp (hk6 _ _) (And.imp (hk6 _ _) (And.imp (hk6 _ _) (hk6 _ _)))) hSS
        obtain ⟨gk2, HGK⟩ : ∃ g, Hid (wd.heap.size = g) := ⟨_, rfl⟩
        have z0 : w6.cell? ⟨gk2, 0, none⟩ = some (.int .i64 0) := by simp [World.cell?, ← HGK.out, n6]
        have z1 : w6.cell? ⟨gk2, 1, none⟩ = some (.int .u64 0) := by simp [World.cell?, ← HGK.out, n6]
        have z2 : w6.cell? ⟨gk2, 2, none⟩ = some (.int .u64 0) := by simp [World.cell?, ← HGK.out, n6]
        have z3 : w6.cell? ⟨gk2, 3, none⟩ = some (.bool false) := by simp [World.cell?, ← HGK.out, n6]
        have e0 : w6.frozen? ⟨gk2, 0, none⟩ = false := by rw [← HGK.out]; exact free_of n6 0
        have e1 : w6.frozen? ⟨gk2, 1, none⟩ = false := by rw [← HGK.out]; exact free_of n6 1
        have e2 : w6.frozen? ⟨gk2, 2, none⟩ = false := by rw [← HGK.out]; exact free_of n6 2
        have e3 : w6.frozen? ⟨gk2, 3, none⟩ = false := by rw [← HGK.out]; exact free_of n6 3
        rw [HGK.out] at hY7
        have b7 : Below wd.heap.size wd ((((w6.setCell ⟨gk2, 0, none⟩ (.int .i64 y.n)).setCell ⟨gk2, 1, none⟩ (.int .u64 y.q)).setCell ⟨gk2, 2, none⟩ (.int .u64 y.a)).setCell ⟨gk2, 3, none⟩ (.bool y.h)) := by
          have hle : wd.heap.size ≤ gk2 := by rw [HGK.out]; exact Nat.le_refl _
          exact (((b6.setCell (p := ⟨gk2, 0, none⟩) hle _).setCell (p := ⟨gk2, 1, none⟩) hle _).setCell (p := ⟨gk2, 2, none⟩) hle _).setCell (p := ⟨gk2, 3, none⟩) hle _
        obtain ⟨w7, HW7⟩ : ∃ w7, Hid (w7 = ((((w6.setCell ⟨gk2, 0, none⟩ (.int .i64 y.n)).setCell ⟨gk2, 1, none⟩ (.int .u64 y.q)).setCell ⟨gk2, 2, none⟩ (.int .u64 y.a)).setCell ⟨gk2, 3, none⟩ (.bool y.h))) := ⟨_, rfl⟩
        rw [← HW7.out] at hY7 b7
        have hk7 : ∀ (a : Addr) (v : Value), wd.cell? a = some v → w7.cell? a = some v := fun a v hv => (Below.cell (p := a) b7 (World.block_lt_of_cell? _ _ hv)).trans hv
        have hSS7 := And.imp (hk7 _ _) (And.imp (hk7 _ _) (And.imp (hk7 _ _) (And.imp (hk7 _ _) (hk7 _ _)))) hSS
        refine wp_region_D (fun w' => w'.cell? ⟨c.q, 5, none⟩ = some (.slice (some ⟨gw, 0, none⟩) NW ucap) ∧ w'.cell? ⟨gw, M * 4, none⟩ = some (.int .i64 y.n) ∧ w'.cell? ⟨gw, M * 4 + 1, none⟩ = some (.int .u64 y.q) ∧ w'.cell? ⟨gw, M * 4 + 2, none⟩ = some (.int .u64 y.a) ∧ w'.cell? ⟨gw, M * 4 + 3, none⟩ = some (.bool y.h)) (fun _ => false) (by kernel_rfl) ?_
        rw [← HWD.out]
        refine wpAnyD_take (i := 0) (v := .pointer (some ⟨c.q, 0, none⟩)) rfl (by kernel_rfl) (by kernel_rfl) (by kernel_rfl) (by kernel_rfl) (fun _ _ _ h => h) (Or.inl ⟨by rfl, ?_⟩) hSS ?_
        · intro w0 hw0
          clear hw0
          go_simp
        refine wpAnyD_take (i := 1) (v := .pointer (some ⟨c.q, 0, none⟩)) rfl (by kernel_rfl) (by kernel_rfl) (by kernel_rfl) (by kernel_rfl) (fun _ _ _ h => h) (Or.inl ⟨by rfl, ?_⟩) hSS ?_
        · intro w0 hw0
          clear hw0
          go_simp
        refine wpAnyD_take (i := 2) (v := .pointer (some ⟨c.q, 5, none⟩)) rfl (by kernel_rfl) (by kernel_rfl) (by kernel_rfl) (by kernel_rfl) (fun _ _ _ h => h) (Or.inl ⟨by rfl, ?_⟩) hSS ?_
        · intro w0 hw0
          clear hw0
          go_simp
        refine wpAnyD_take (i := 3) (v := .slice (some ⟨gw, 0, none⟩) NW ucap) rfl (by kernel_rfl) (by kernel_rfl) (by kernel_rfl) (by kernel_rfl) (fun _ _ _ h => h) (Or.inl ⟨by rfl, ?_⟩) hSS ?_
        · intro w0 hw0
          obtain ⟨z0, z1, z2, z3, z4⟩ := hw0
          go_simp
        refine wpAnyD_take (i := 4) (v := .pointer (some ⟨c.q, 0, none⟩)) rfl (by kernel_rfl) (by kernel_rfl) (by kernel_rfl) (by kernel_rfl) (fun _ _ _ h => h) (Or.inl ⟨by rfl, ?_⟩) hSS ?_
        · intro w0 hw0
          clear hw0
          go_simp
        refine wpAnyD_take (i := 5) (v := .pointer (some ⟨c.q, 0, none⟩)) rfl (by kernel_rfl) (by kernel_rfl) (by kernel_rfl) (by kernel_rfl) (fun _ _ _ h => h) (Or.inl ⟨by rfl, ?_⟩) hSS ?_
        · intro w0 hw0
          clear hw0
          go_simp
        refine wpAnyD_take (i := 6) (v := .pointer (some ⟨c.q, 5, none⟩)) rfl (by kernel_rfl) (by kernel_rfl) (by kernel_rfl) (by kernel_rfl) (fun _ _ _ h => h) (Or.inl ⟨by rfl, ?_⟩) hSS ?_
        · intro w0 hw0
          clear hw0
          go_simp
        refine wpAnyD_take (i := 7) (v := .slice (some ⟨gw, 0, none⟩) NW ucap) rfl (by kernel_rfl) (by kernel_rfl) (by kernel_rfl) (by kernel_rfl) (fun _ _ _ h => h) (Or.inl ⟨by rfl, ?_⟩) hSS ?_
        · intro w0 hw0
          obtain ⟨z0, z1, z2, z3, z4⟩ := hw0
          go_simp
        refine wpAnyD_take (i := 8) (v := .int .i64 NW) rfl (by kernel_rfl) (by kernel_rfl) (by kernel_rfl) (by kernel_rfl) (fun _ _ _ h => h) (Or.inl ⟨by rfl, ?_⟩) hSS ?_
        · intro w0 hw0
          clear hw0
          go_simp
        refine wpAnyD_take (i := 9) (v := .int .i64 M) rfl (by kernel_rfl) (by kernel_rfl) (by kernel_rfl) (by kernel_rfl) (fun _ _ _ h => h) (Or.inl ⟨by rfl, ?_⟩) hSS ?_
        · intro w0 hw0
          clear hw0
          go_simp
        refine wpAnyD_take (i := 10) (v := .pointer (some ⟨gw, M * 4, none⟩)) rfl (by kernel_rfl) (by kernel_rfl) (by kernel_rfl) (by kernel_rfl) (fun _ _ _ h => h) (Or.inl ⟨by rfl, ?_⟩) hSS ?_
        · intro w0 hw0
          clear hw0
          go_simp
        refine wpAnyD_take (i := 11) (v := .agg (cellsW y)) rfl (by kernel_rfl) (by kernel_rfl) (by kernel_rfl) (by kernel_rfl) (fun _ _ _ h => h) (Or.inl ⟨by rfl, ?_⟩) hSS ?_
        · intro w0 hw0
          obtain ⟨z0, z1, z2, z3, z4⟩ := hw0
          go_simp
        refine wpAnyD_one (i := 12) (by kernel_rfl) rfl (fun K hK => ?_)
        go_simp
        rw [HGK.out, ← HW6.out]
        refine hK _ _ (fun _ => hSS6) ?_
        clear hK K
        refine wpAnyD_one (i := 13) (by kernel_rfl) rfl (fun K hK => ?_)
        go_simp
        rw [← HW7.out]
        refine hK _ _ (fun _ => hSS7) ?_
        clear hK K
        refine wpAnyD_done (by kernel_rfl) ?_ _
        have hB7 := hB5.below b7
        clear z0 z1 z2 z3 e0 e1 e2 e3 hSS hSS6 hSS7 hk6 hk7 n6
        have z0 := hY7.c0
        have z1 := hY7.c1
        have b8 := below_alloc w7 (.cells (ntC 2 y.n c.k y.q y.n (.slice none 0 0)) 37)
        have hN8 := YtpoofjnfaijjjaaGreatDoor.Bn.new 2 y.n c.k y.q y.n (.slice none 0 0) w7
        have hB8 := hB7.below b8
        have hA8 := hB7.s.away (w' := w7.alloc (.cells (ntC 2 y.n c.k y.q y.n (.slice none 0 0)) 37)) (Nat.le_refl _) hN8.lt
        obtain ⟨gn, HGN⟩ : ∃ g, Hid (w7.heap.size = g) := ⟨_, rfl⟩
        obtain ⟨w8, HW8⟩ : ∃ w8, Hid (w8 = w7.alloc (.cells (ntC 2 y.n c.k y.q y.n (.slice none 0 0)) 37)) := ⟨_, rfl⟩
        rw [← HW8.out] at b8 hN8 hB8 hA8
        rw [HGN.out] at hN8 hA8
        go_upto_region 34 with fail
        rw [HGN.out, ← HW8.out]
        have hRn : ∀ W, Ro.Ru (.slice none 0 0) [] W := fun W => ⟨none, 0, rfl, Nat.le_refl _, Nat.zero_le _, .inl rfl⟩
        have hhe := hear_any hB8.s ⟨2, y.n, c.k, y.q, y.n, []⟩ none 0 0 (hRn _) (.inl rfl) (Nat.zero_le _) (fun u hu => by cases hu) (by omega) hyo.q
        rw [hq] at hhe
        have hfh := fun (w' : World) (h' : Ry c br d l' w') => fhearn_any h' ⟨2, y.n, c.k, y.q, y.n, []⟩ none 0 0 (hRn _) (.inl rfl) (Nat.zero_le _) (fun u hu => by cases hu) (by omega) hyo.q
        have hhw := hear_len c.k d ⟨2, y.n, c.k, y.q, y.n, []⟩ l' (Nat.le_succ_of_le hW)
        generalize d.hear c.k ⟨2, y.n, c.k, y.q, y.n, []⟩ l' = R at *
        obtain ⟨⟨R1, R2⟩, R3, R4⟩ := R
        dsimp only at hhe hfh hhw
        clear z0 z1
        have y0 := hN8.c0
        have y1 := hN8.c1
        have y2 := hN8.c2
        have y3 := hN8.c3
        have y4 := hN8.c4
        have y5 := hN8.c5
        go_wp2_with (first
          | (go_at_call 15; go_must (refine hhe.mono ?_; rintro e w9 ⟨v9, X9, b9, rfl, hs9, hX9, h9, s9⟩; have hB9 := hB8.code h9 s9; have hN9 := hN8.keep (s9.keep hA8); have z0 := hN9.c0; have z1 := hN9.c1; have z2 := hN9.c2; have z3 := hN9.c3; have z4 := hN9.c4; have z5 := hN9.c5; have hfh9 := hfh w9 hB9.r))
          | (go_at_call 16; go_must (refine hfh9.mono ?_; rintro e w10 ⟨v10, X10, b10, rfl, hs10, hX10, h10, s10⟩; have hB10 := hB9.ref h10 s10; have hsm := same_any v9 v10 X9 X10 (Bo.said hB8 hs9 s10) hs10.ns (hX9.trans hX10.symm)))
          | (go_at_call 12; go_must (refine hsm.mono ?_; rintro e w11 ⟨rfl, b11⟩)))
        go_meet
        exact ⟨by first | rfl | simp, ⟨⟨b9, b10, _, _, hB10.below b11, hhw, s9.q.trans hq⟩⟩⟩
      case rest =>
      obtain ⟨rfl, ⟨b', br', d', m', hB', hW', hq'⟩⟩ := hcut
      clear hB hW hq hB4 hAw4 hAb hOf4 hBa hYo hYr y0 bY HY
      generalize wc = w5 at *
      have hal := alike_any hB' (by omega)
      rw [hq'] at hal
      go_wp2_with (first
        | (go_at_call 21; go_must (refine hal.mono ?_; rintro e w6 ⟨rfl, b6⟩; have hB6 := hB'.below b6; have hl1 := Rn.left_any Bp p m' w6 hB6.s.lots; have hl2 := Rn.fleft_any c.w0 c.y c.la c.lcap c.L m' w6 hB6.r.len hB6.r.lots))
        | (go_at_call 22; go_must (refine hl1.mono ?_; rintro e w7 ⟨rfl, rfl⟩))
        | (go_at_call 23; go_must (refine hl2.mono ?_; rintro e w8 ⟨rfl, b8⟩; have hB8 := hB6.below b8)))
      go_roundg (gk - 1)
      case rel => exact ⟨i + 1, by omega, by go_num, ⟨⟨b', br', d', m', hB8, hW', hq'⟩⟩⟩
      case measure => omega
    · have hal := alike_any hB (by omega)
      rw [hq] at hal
      go_wp2_with (go_at_call 21; go_must (refine hal.mono ?_; rintro e w6 ⟨rfl, b6⟩))
      go_ret
      exact ⟨rfl, bT hB.un.below b6⟩
end Go.Proofs.YtpoofjnfaijjjaaGreatDoor.Fx
