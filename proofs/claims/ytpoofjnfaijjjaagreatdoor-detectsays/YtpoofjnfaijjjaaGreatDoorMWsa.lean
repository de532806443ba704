/-
  DetectSays, walked.
-/
import Derived.Test.YtpoofjnfaijjjaaGreatDoorMOpa
import Derived.Test.YtpoofjnfaijjjaaGreatDoorMNic
import Derived.Test.YtpoofjnfaijjjaaGreatDoorMNLop
import Derived.Test.YtpoofjnfaijjjaaGreatDoorMRBrf
import Derived.Deep.CutBlock
namespace Go.Proofs.YtpoofjnfaijjjaaGreatDoor
open Go.RowKit Go.Proofs.YtpoofjnfaijjjaaGreatDoor.Ro
/-- What is read of a note. -/
structure Nr (k : Nat) (X : NtX) (w : World) : Prop where
  ok : NtOk k X.n
  row : Ro.Ru (.slice X.a X.L X.c) X.n.u w
theorem ruB {v : Value} {u : List Upd} {w w' : World} (hU : Ro.Ru v u w) (hb : Below w.heap.size w w') : Ro.Ru v u w' := hU.keep fun g _ hlt => hb.block g hlt
theorem nw_old {v : Value} {u : List Upd} {p : Nat} {b : Bl} {w0 w : World} (hR : Ro.Ru v u w0) (hU : Und p b w0 w) : Nw p b w v u := by
  obtain ⟨a, cap, rfl, _, _, h3⟩ := hR
  rcases h3 with h3 | ⟨g, off, rfl, h3⟩
  · exact .inl (List.length_eq_zero_iff.1 h3)
  · cases u with
    | nil => exact .inl rfl
    | cons x r =>
      refine .inr fun g' e => ?_
      obtain rfl : g = g' := Option.some.inj e
      have hlt : g < w0.heap.size := World.block_lt_of_cell? _ _ (h3 0 (by simp)).1
      exact ⟨Nat.lt_of_lt_of_le hlt hU.below.size, fun e => by have := hU.p; omega, fun i e => by have := hU.own i g e; omega⟩
theorem says_short (me : Int) (a1 : Option Addr) (len1 cap1 : Nat) (a2 : Option Addr) (len2 cap2 : Nat) (w : World) (hT : Bnd.Tab w) (h : (400 : Int) < len1 ∨ (60 : Int) < len2) :
    Calls Tryz.prog 7 #[.int .u8 me, .slice a1 len1 cap1, .slice a2 len2 cap2] w fun e w' => e = .returned (.bool true) ∧ Below w.heap.size w w' := by
  have hs := shown_any w hT
  by_cases h1 : (400 : Int) < len1
  · go_enter Tryz.func7, Tryz.ntmps7
    go_wp2_with fail
    refine hs.mono ?_
    rintro e w1 ⟨rfl, hb1⟩
    go_wp2_with fail
    go_ret
    exact ⟨rfl, hb1⟩
  · have h2 : (60 : Int) < len2 := h.resolve_left h1
    go_enter Tryz.func7, Tryz.ntmps7
    go_wp2_with fail
    refine hs.mono ?_
    rintro e w1 ⟨rfl, hb1⟩
    go_wp2_with fail
    go_ret
    exact ⟨rfl, hb1⟩
/-- Block g is a box of an act. -/
structure Ba (g : Nat) (A : Ac) (w : World) : Prop where
  heap : w.heap[g]? = some (.cells #[.int .i64 A.kind, .int .i64 A.x.n.k, .int .i64 A.x.n.f, .int .i64 A.x.n.t, .int .u64 A.x.n.q, .int .i64 A.x.n.o, .slice A.x.a A.x.L A.x.c, .int .i64 A.U.n, .int .u64 A.U.i, .int .i64 A.U.s] 41 (0, 0))
section
variable {g : Nat} {A : Ac} {w w' : World}
theorem Ba.c0 (h : Ba g A w) : w.cell? ⟨g, 0, none⟩ = some (.int .i64 A.kind) := by simp [World.cell?, h.heap]
theorem Ba.c1 (h : Ba g A w) : w.cell? ⟨g, 1, none⟩ = some (.int .i64 A.x.n.k) := by simp [World.cell?, h.heap]
theorem Ba.c2 (h : Ba g A w) : w.cell? ⟨g, 2, none⟩ = some (.int .i64 A.x.n.f) := by simp [World.cell?, h.heap]
theorem Ba.c3 (h : Ba g A w) : w.cell? ⟨g, 3, none⟩ = some (.int .i64 A.x.n.t) := by simp [World.cell?, h.heap]
theorem Ba.c4 (h : Ba g A w) : w.cell? ⟨g, 4, none⟩ = some (.int .u64 A.x.n.q) := by simp [World.cell?, h.heap]
theorem Ba.c5 (h : Ba g A w) : w.cell? ⟨g, 5, none⟩ = some (.int .i64 A.x.n.o) := by simp [World.cell?, h.heap]
theorem Ba.c6 (h : Ba g A w) : w.cell? ⟨g, 6, none⟩ = some (.slice A.x.a A.x.L A.x.c) := by simp [World.cell?, h.heap]
theorem Ba.c7 (h : Ba g A w) : w.cell? ⟨g, 7, none⟩ = some (.int .i64 A.U.n) := by simp [World.cell?, h.heap]
theorem Ba.c8 (h : Ba g A w) : w.cell? ⟨g, 8, none⟩ = some (.int .u64 A.U.i) := by simp [World.cell?, h.heap]
theorem Ba.c9 (h : Ba g A w) : w.cell? ⟨g, 9, none⟩ = some (.int .i64 A.U.s) := by simp [World.cell?, h.heap]
theorem Ba.lt (h : Ba g A w) : g < w.heap.size := (Array.getElem?_eq_some_iff.1 h.heap).1
theorem Ba.free (h : Ba g A w) (j : Nat) : w.frozen? ⟨g, j, none⟩ = false := free_of h.heap j
theorem Ba.keep (h : Ba g A w) (e : w'.heap[g]? = w.heap[g]?) : Ba g A w' := ⟨e.trans h.heap⟩
theorem Ba.below (h : Ba g A w) (hb : Below w.heap.size w w') : Ba g A w' := h.keep (hb.block g h.lt)
theorem Ba.set (h : Ba g A w) (t : Int) : Ba g ⟨A.kind, ⟨{ A.x.n with t := t }, A.x.a, A.x.L, A.x.c⟩, A.U⟩ (w.setCell ⟨g, 3, none⟩ (.int .i64 t)) := ⟨by simp [World.setCell, Array.getElem?_modify, h.heap]⟩
end
theorem hasS_live {k Bp p : Nat} {b : Bl} {d : Det} {l : List Int} {w : World} (hX : Sx k Bp p b d l w) : Bnd.hasS d.live k = true := live_me hX.dt.ok.k64 hX.dt.ok.inv
/-- What the rounds keep. -/
structure Sr (k Bp p i : Nat) (q : Nat) (w0 w : World) : Prop where
  ex : ∃ b d l, Sx k Bp p b d l w ∧ Sy k d ∧ d.W.length ≤ i ∧ Und p b w0 w ∧ b.q = q
set_option maxRecDepth 100000 in
set_option maxHeartbeats 4000000 in
theorem says_walk (me : Int) (a1 : Option Addr) (len1 cap1 : Nat) (l : List Int) (a2 : Option Addr) (len2 cap2 : Nat) (A : List Ac) (hme : (Lit.int .u8 me).wf = true) (w : World) (hl : Rn.Lots w a1 len1 cap1 l) (hA : IsActs w a2 len2 cap2 A) (hT : Bnd.Tab w) :
    Calls Tryz.prog 7 #[.int .u8 me, .slice a1 len1 cap1, .slice a2 len2 cap2] w fun e w' => e = .returned (.bool true) ∧ Below w.heap.size w w' := by
  by_cases hsh : (400 : Int) < len1 ∨ (60 : Int) < len2
  · exact says_short me a1 len1 cap1 a2 len2 cap2 w hT hsh
  have h1 : ¬ (400 : Int) < len1 := fun h => hsh (.inl h)
  have h2 : ¬ (60 : Int) < len2 := fun h => hsh (.inr h)
  obtain ⟨hRl, hok⟩ := hl
  obtain ⟨_, _, e, _⟩ := id hRl
  cases e
  obtain ⟨rfl, hA2, hA3⟩ := hA
  have hm : 0 ≤ me ∧ me ≤ 255 := by simpa [Lit.wf, IntKind.min, IntKind.max, IntKind.signed, IntKind.bits] using hme
  obtain ⟨k, hk1, hk2, hk8⟩ : ∃ k : Nat, me.tmod 8 = k ∧ me % 8 = k ∧ k < 8 := ⟨(me % 8).toNat, by rw [Int.tmod_eq_emod_of_nonneg hm.1]; omega, by omega, by omega⟩
  have hs := shown_any w hT
  go_enter Tryz.func7, Tryz.ntmps7
  go_wp2_with fail
  refine hs.mono ?_
  rintro e w1 ⟨rfl, hb1⟩
  have hT1 := hT.below hT.lt hb1
  have hn := dnew_any k w1 hT1
  go_upto_region 7 with (go_at_call 9; go_must (refine hn.mono ?_; rintro e w2 ⟨hnew, _, b2⟩; obtain ⟨bA, rfl, hA0, oA⟩ := hnew k rfl (by omega)))
  have hb2 := bT hb1 b2
  have hln := Rn.new_any _ l w2 (by omega) (hRl.below hb2)
  go_upto_region 8 with (go_at_call 11; go_must (refine hln.mono ?_; rintro e w3 ⟨⟨p, rfl, hL3⟩, b3⟩))
  have hz1 := hb1.size
  have hz2 := hb2.size
  have hX3 := hA0.sx b3 hL3 hok
  have hU3 : Und p bA w w3 := ⟨bT hb2 b3, by have := hL3.le; omega, fun i g e => by have := oA i g e; omega⟩
  obtain ⟨Bp, HBp⟩ : ∃ Bp, Hid (w2.heap.size = Bp) := ⟨_, rfl⟩
  rw [HBp.out] at hX3
  have hSr : Sr k Bp p 0 bA.q w w3 := ⟨⟨bA, Det.new k, l, hX3, new_sy k, Nat.le_refl _, hU3, rfl⟩⟩
  obtain ⟨q, HQ⟩ : ∃ q, Hid (bA.q = q) := ⟨_, rfl⟩
  rw [HQ.out] at hSr ⊢
  clear hs hn hln hnew hA0 oA hL3 b2 b3 hb2 hX3 hU3 HBp HQ hT1 hz2 hok hRl hm hme
  obtain ⟨N, HN⟩ : ∃ N, Hid (A.length = N) := ⟨_, rfl⟩
  rw [HN.out] at h2 hA2 ⊢
  go_wp2_with fail
  go_loopg [10] N (fun gk t10 wr => ∃ i : Nat, i + gk = N ∧ t10 = .int .i64 i ∧ Sr k Bp p i q w wr)
  case atStart => exact ⟨0, by omega, rfl, hSr⟩
  case round =>
    obtain ⟨i, hi, rfl, ⟨b, d, l, hX, hY, hW, hU, hq⟩⟩ := hrel
    by_cases hlt : (i : Int) < N
    · have i0 : (0 : Int) ≤ i := by omega
      have hil : i < A.length := by rw [HN.out]; omega
      have hAi := hA3 A[i] (List.getElem_mem hil)
      obtain ⟨ga, off, rfl, hga, hc⟩ := hA2.at_ hil
      obtain ⟨x0, x1, x2, x3, x4, x5, x6, x7, x8, x9⟩ : wr.cell? ⟨ga, off + i * 10, none⟩ = some (.int .i64 A[i].kind) ∧ wr.cell? ⟨ga, off + i * 10 + 1, none⟩ = some (.int .i64 A[i].x.n.k) ∧ wr.cell? ⟨ga, off + i * 10 + 2, none⟩ = some (.int .i64 A[i].x.n.f) ∧ wr.cell? ⟨ga, off + i * 10 + 3, none⟩ = some (.int .i64 A[i].x.n.t) ∧ wr.cell? ⟨ga, off + i * 10 + 4, none⟩ = some (.int .u64 A[i].x.n.q) ∧
          wr.cell? ⟨ga, off + i * 10 + 5, none⟩ = some (.int .i64 A[i].x.n.o) ∧ wr.cell? ⟨ga, off + i * 10 + 6, none⟩ = some (.slice A[i].x.a A[i].x.L A[i].x.c) ∧ wr.cell? ⟨ga, off + i * 10 + 7, none⟩ = some (.int .i64 A[i].U.n) ∧ wr.cell? ⟨ga, off + i * 10 + 8, none⟩ = some (.int .u64 A[i].U.i) ∧ wr.cell? ⟨ga, off + i * 10 + 9, none⟩ = some (.int .i64 A[i].U.s) := by
        have hk := fun c v hv => (Below.cell (p := ⟨ga, off + i * 10 + c, none⟩) hU.below hga).trans (hc c v hv)
        exact ⟨hk 0 _ rfl, hk 1 _ rfl, hk 2 _ rfl, hk 3 _ rfl, hk 4 _ rfl, hk 5 _ rfl, hk 6 _ rfl, hk 7 _ rfl, hk 8 _ rfl, hk 9 _ rfl⟩
      clear hc
      obtain ⟨Y, HY⟩ : ∃ Y, Hid (A[i] = Y) := ⟨A[i], rfl⟩
      rw [HY.out] at hAi x0 x1 x2 x3 x4 x5 x6 x7 x8 x9
      obtain ⟨hYo, hYr⟩ := hAi
      have hYr' := ruB hYr hU.below
      have hYn : Nw p b wr (.slice Y.x.a Y.x.L Y.x.c) Y.x.n.u := nw_old hYr hU
      have bY := below_alloc wr (.cells #[.int .i64 Y.kind, .int .i64 Y.x.n.k, .int .i64 Y.x.n.f, .int .i64 Y.x.n.t, .int .u64 Y.x.n.q, .int .i64 Y.x.n.o, .slice Y.x.a Y.x.L Y.x.c, .int .i64 Y.U.n, .int .u64 Y.U.i, .int .i64 Y.U.s] 41)
      have hB : Ba wr.heap.size Y (wr.alloc (.cells #[.int .i64 Y.kind, .int .i64 Y.x.n.k, .int .i64 Y.x.n.f, .int .i64 Y.x.n.t, .int .u64 Y.x.n.q, .int .i64 Y.x.n.o, .slice Y.x.a Y.x.L Y.x.c, .int .i64 Y.U.n, .int .u64 Y.U.i, .int .i64 Y.U.s] 41)) := ⟨heap_alloc_new wr _⟩
      obtain ⟨w4, HW4⟩ : ∃ w4, Hid (w4 = wr.alloc (.cells #[.int .i64 Y.kind, .int .i64 Y.x.n.k, .int .i64 Y.x.n.f, .int .i64 Y.x.n.t, .int .u64 Y.x.n.q, .int .i64 Y.x.n.o, .slice Y.x.a Y.x.L Y.x.c, .int .i64 Y.U.n, .int .u64 Y.U.i, .int .i64 Y.U.s] 41)) := ⟨_, rfl⟩
      rw [← HW4.out] at bY hB
      have hX4 := hX.below bY
      have hA4 := hX.away (Nat.le_refl _) hB.lt
      have S4 : Stp p b wr b w4 := Stp.of bY
      have hU4 := hU.stp S4
      have hYr4 := ruK hYr' hYn S4
      have hYn4 := hYn.stp S4
      obtain ⟨gb, HGB⟩ : ∃ gb, Hid (wr.heap.size = gb) := ⟨_, rfl⟩
      rw [HGB.out] at hB hA4
      go_upto_region 12 with fail
      rw [HGB.out, ← HW4.out]
      clear x0 x1 x2 x3 x4 x5 x6 x7 x8 x9
      have y6 := hB.c6
      by_cases h30 : (30 : Int) < Y.x.L
      · have hsw := shown_any w4 (hT.below hT.lt hU4.below)
        go_wp2_with fail
        refine hsw.mono ?_
        rintro e w5 ⟨rfl, hb5⟩
        go_wp2_with fail
        go_ret
        exact ⟨rfl, bT hU4.below hb5⟩
      have b5 := below_alloc w4 (.cells #[] 37)
      have n5 : (w4.alloc (.cells #[] 37)).heap[w4.heap.size]? = _ := heap_alloc_new w4 _
      obtain ⟨w5, HW5⟩ : ∃ w5, Hid (w5 = w4.alloc (.cells #[] 37)) := ⟨_, rfl⟩
      rw [← HW5.out] at b5 n5
      have hX5 := hX4.below b5
      have hsd5 : Sd p b w4 (.slice (some ⟨w4.heap.size, 0, none⟩) 0 0) [] w5 :=
        ⟨OwE.empty _ _ _ _ n5 (Nat.le_refl _), fun g e => by cases e; exact hX4.away (Nat.le_refl _) (Array.getElem?_eq_some_iff.1 n5).1, (fun x hx => by cases hx), (fun x hx => by cases hx)⟩
      have S5 : Stp p b w4 b w5 := Stp.of b5
      have hU5 := hU4.stp S5
      have hYr5 := ruK hYr4 hYn4 S5
      have hYn5 := hYn4.stp S5
      have hB5 := hB.below b5
      have hA5 := hA4.stp S5
      go_upto_region 15 with fail
      rw [← HW5.out]
      clear y6
      have y0 := hB5.c0
      go_upto_block 2 with fail
      go_cut [12] from 56 to 81 (fun t12 wx => ∃ v X b' d' l' w0, t12 = v ∧ Sx k Bp p b' d' l' wx ∧ Sy k d' ∧ d'.W.length ≤ i + 1 ∧ Und p b' w wx ∧ b'.q = q ∧ Sd p b' w0 v X wx ∧ ∀ x ∈ X, NtOk k x.n)
      case first =>
        have hWl : d.W.length ≤ 500 := by omega
        by_cases e0 : Y.kind = 0
        · have t0 : (Y.kind == 0) = true := by simpa using e0
          clear e0
          have htk := tick_any hX5 hWl
          rw [hq] at htk
          have hto := tick_ok hY l
          have htw := tick_W k d l
          go_wp2_with (go_at_call 13; go_must (refine htk.mono ?_; rintro e w6 ⟨v6, X6, b6, rfl, hs6, hX6, h6, s6⟩))
          go_meet
          exact ⟨v6, X6, b6, _, _, w5, rfl, h6, hto.2, Nat.le_trans htw (Nat.succ_le_succ hW), hU5.stp s6, s6.q.trans hq, hs6, fun x hx => hto.1 _ (by rw [← hX6]; exact List.mem_map_of_mem hx)⟩
        have t0 : (Y.kind == 0) = false := by simpa using e0
        clear e0
        by_cases e3 : Y.kind = 3
        · have t1 : (Y.kind == 1) = false := by rw [e3]; rfl
          have t2 : (Y.kind == 2) = false := by rw [e3]; rfl
          have t3 : (Y.kind == 3) = true := by simpa using e3
          clear e3
          have hkn := know_any hX5 Y.U hYo.U
          rw [hq] at hkn
          have y7 := hB5.c7
          have y8 := hB5.c8
          have y9 := hB5.c9
          go_wp2_with (go_at_call 17; go_must (refine hkn.mono ?_; rintro e w6 ⟨rfl, b6, h6, s6⟩))
          go_meet
          exact ⟨_, [], b6, _, _, w4, rfl, h6, hY.take _ _ _, by rw [(take_fr k d Y.U k l).1]; exact Nat.le_succ_of_le hW, hU5.stp s6, s6.q.trans hq, hsd5.stp s6, fun x hx => by cases hx⟩
        have t3 : (Y.kind == 3) = false := by simpa using e3
        clear e3
        have f3 := hB5.free 3
        have hB6 := hB5.set k
        have hU6 : Und p b w (w5.setCell ⟨gb, 3, none⟩ (.int .i64 k)) := ⟨hU5.below.setCell (p := ⟨gb, 3, none⟩) (by show w.heap.size ≤ gb; have := hU.below.size; rw [← HGB.out]; exact this) _, hU5.p, hU5.own⟩
        have hX6 : Sx k Bp p b d l (w5.setCell ⟨gb, 3, none⟩ (.int .i64 k)) := hX5.put hA5 (by rw [← HGB.out]; exact hX.lots.lt) 3 _
        obtain ⟨w6, HW6⟩ : ∃ w6, Hid (w6 = w5.setCell ⟨gb, 3, none⟩ (.int .i64 k)) := ⟨_, rfl⟩
        rw [← HW6.out] at hB6 hU6 hX6
        have hlen : Y.x.n.u.length ≤ 30 := by
          obtain ⟨_, _, e, _⟩ := id hYr
          have : Y.x.L = Y.x.n.u.length := by injection e
          omega
        have hhe := hear_any hX6 { Y.x.n with t := k } Y.x.a Y.x.L Y.x.c (ruB hYr hU6.below) (nw_old hYr hU6) (Nat.le_trans hlen (by decide)) hYo.u (by omega) hYo.q
        rw [hq] at hhe
        have hho := hear_ok hY { Y.x.n with t := k } l
        have hhw := hear_W k d { Y.x.n with t := k } l
        generalize d.hear k { Y.x.n with t := k } l = R at *
        obtain ⟨⟨R1, R2⟩, R3, R4⟩ := R
        dsimp only at hhe hho hhw
        by_cases e12 : Y.kind = 1 ∨ Y.kind = 2
        · have ht12 : ((Y.kind == 1) = true ∧ (Y.kind == 2) = false) ∨ ((Y.kind == 1) = false ∧ (Y.kind == 2) = true) := by
            rcases e12 with e | e
            · rw [e]; exact .inl ⟨rfl, rfl⟩
            · rw [e]; exact .inr ⟨rfl, rfl⟩
          clear e12
          have y3 := hB5.c3
          have z0 := hB6.c0
          have z1 := hB6.c1
          have z2 := hB6.c2
          have z3 := hB6.c3
          have z4 := hB6.c4
          have z5 := hB6.c5
          have z6 := hB6.c6
          dsimp only at z0 z1 z2 z3 z4 z5 z6
          rcases ht12 with ⟨t1, t2⟩ | ⟨t1, t2⟩
          all_goals
            go_upto_region 21 with fail
            rw [← HW6.out]
            go_wp2_with (go_at_call 15; go_must (refine hhe.mono ?_; rintro e w7 ⟨v7, X7, b7, rfl, hs7, hX7, h7, s7⟩))
            go_meet
            exact ⟨v7, X7, b7, _, _, w6, rfl, h7, hho.2, Nat.le_trans hhw (Nat.le_succ_of_le hW), hU6.stp s7, s7.q.trans hq, hs7, fun x hx => hho.1 _ (by rw [← hX7]; exact List.mem_map_of_mem hx)⟩
        · have t1 : (Y.kind == 1) = false := by simpa using fun h => e12 (.inl h)
          have t2 : (Y.kind == 2) = false := by simpa using fun h => e12 (.inr h)
          clear e12
          go_wp2_with fail
          go_meet
          exact ⟨_, [], b, d, l, w4, rfl, hX5, hY, Nat.le_succ_of_le hW, hU5, hq, hsd5, fun x hx => by cases hx⟩
      case rest =>
      obtain ⟨v, X, b', d', l', w0, hv, hX', hY', hW', hU', hq', hsd, hok⟩ := hcut
      replace hv := hv.symm
      subst hv
      clear hX4 hX5 hsd5 S5 hU5 hYr5 hYn5 hB5 hA5 y0 hX hY hW hU hq S4 hU4 hYr4 hYn4 hB hA4 bY b5 n5 hYo hYr hYr' hYn HY
      generalize wc = w6 at *
      obtain ⟨va, vc, rfl⟩ : ∃ a c, v = .slice a X.length c := by obtain ⟨a, cap, e, _⟩ := hsd.row.len; exact ⟨a, cap, e⟩
      obtain ⟨M, HM⟩ : ∃ M, Hid (X.length = M) := ⟨_, rfl⟩
      rw [HM.out]
      have hM63 : (M : Int) ≤ 9223372036854775807 := by
        obtain ⟨_, _, e1, e2, e3⟩ := hsd.row.len
        rw [HM.out] at e2
        unfold maxLen at e3
        omega
      obtain ⟨G, HG⟩ : ∃ G, Hid (G = gk) := ⟨_, rfl⟩
      go_wp2_with fail
      go_loopg [13] M (fun gk t13 wr => ∃ j : Nat, j + gk = M ∧ t13 = .int .i64 j ∧ Below w6.heap.size w6 wr)
      case atStart => exact ⟨0, by omega, rfl, Below.refl _ _⟩
      case round =>
        obtain ⟨j, hj, rfl, hbj⟩ := hrel
        by_cases hjl : (j : Int) < M
        · have j0 : (0 : Int) ≤ j := by omega
          have hjx : j < X.length := by rw [HM.out]; omega
          obtain ⟨gv, rfl⟩ : ∃ g, va = some ⟨g, 0, none⟩ := by
            rcases hsd.row.2 with ⟨e, h0⟩ | ⟨g, cap, cur, e, _⟩
            · omega
            · cases e; exact ⟨g, rfl⟩
          obtain ⟨x0, x1, x2, x3, x4, x5⟩ := (hsd.row.below hbj).atN rfl j hjx
          have hno := hok X[j] (List.getElem_mem hjx)
          have hnw := (hsd.news X[j] (List.getElem_mem hjx)).below hbj
          obtain ⟨Z, HZ⟩ : ∃ Z, Hid (X[j] = Z) := ⟨X[j], rfl⟩
          rw [HZ.out] at x0 x1 x2 x3 x4 x5 hno hnw
          obtain ⟨n1, n2, n3, n4, ⟨y, r, n5, n6, n7, n8⟩⟩ := hno
          obtain ⟨⟨K, Fr, T, Q, O, U⟩, za, zL, zc⟩ := Z
          dsimp only at x0 x1 x2 x3 x4 x5 hnw n1 n2 n3 n4 n5
          subst n5
          subst n1
          have hlen : (zL : Int) = r.length + 1 := by
            obtain ⟨_, _, e, _⟩ := hnw.ru
            have : zL = (y :: r).length := by injection e
            rw [this]; simp
          have hl1 : ¬ (zL : Int) < 1 := by omega
          have hl8 : ¬ (8 : Int) < zL := by omega
          have hl0 : (0 : Int) < zL := by omega
          have ht : (T == (k : Int)) = false := by simpa using n2
          have hk1' : ¬ K < 1 := by omega
          have hk3' : ¬ (3 : Int) < K := by omega
          obtain ⟨gu, ou, rfl, u0, u2⟩ : ∃ gu ou, za = some ⟨gu, ou, none⟩ ∧ wr.cell? ⟨gu, ou, none⟩ = some (.int .i64 k) ∧ wr.cell? ⟨gu, ou + 2, none⟩ = some (.int .i64 0) := by
            obtain ⟨a, cap, e, _, _, h3⟩ := hnw.ru
            cases e
            rcases h3 with h3 | ⟨g, off, rfl, h3⟩
            · cases h3
            · have := h3 0 (by simp)
              simp only [Nat.zero_mul, Nat.add_zero, List.getElem_cons_zero, n6, n7] at this
              exact ⟨g, off, rfl, this.1, this.2.2⟩
          have bN := below_alloc wr (.cells (ntC K k T Q O (.slice (some ⟨gu, ou, none⟩) zL zc)) 37)
          have hN := Bn.new K k T Q O (.slice (some ⟨gu, ou, none⟩) zL zc) wr
          have m0 := (Below.cell (p := ⟨gu, ou, none⟩) bN (World.block_lt_of_cell? _ _ u0)).trans u0
          have m2 := (Below.cell (p := ⟨gu, ou + 2, none⟩) bN (World.block_lt_of_cell? _ _ u2)).trans u2
          obtain ⟨w8, HW8⟩ : ∃ w8, Hid (w8 = wr.alloc (.cells (ntC K k T Q O (.slice (some ⟨gu, ou, none⟩) zL zc)) 37)) := ⟨_, rfl⟩
          rw [← HW8.out] at bN hN m0 m2
          go_upto_region 28 with fail
          rw [← HW8.out]
          clear x0 x1 x2 x3 x4 x5 u0 u2
          have q0 := hN.c0
          have q1 := hN.c1
          have q2 := hN.c2
          have q5 := hN.c5
          go_wp2_with fail
          go_roundg (gk - 1)
          case rel => exact ⟨j + 1, by omega, by go_num, bT hbj bN⟩
          case measure => omega
        · go_wp2_with fail
          go_roundg (G - 1)
          case rel => exact ⟨i + 1, by have := HG.out; omega, by go_num, ⟨⟨b', d', l', hX'.below hbj, hY', hW', hU'.stp (Stp.of hbj), hq'⟩⟩⟩
          case measure => have := HG.out; omega
    · have hli := live_any hX
      have hhas := hasS_live hX
      rw [hq] at hli
      have hlt64 : d.live < Bnd.lim := bandS_lt _
      go_wp2_with (first
        | (go_at_call 27; go_must (refine hli.mono ?_; rintro e w6 ⟨rfl, b6⟩))
        | (go_at_call 30; go_must (refine (Bnd.rhas_any d.live hlt64 k w6).mono ?_; rintro e w7 ⟨rfl, rfl⟩)))
      go_ret
      exact ⟨rfl, bT hU.below b6⟩
end Go.Proofs.YtpoofjnfaijjjaaGreatDoor
