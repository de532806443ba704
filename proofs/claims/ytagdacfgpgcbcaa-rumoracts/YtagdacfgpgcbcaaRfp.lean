/-
  The reference's Put.
-/
import Derived.Test.YtagdacfgpgcbcaaRfi
namespace Go.Proofs.Ytagdacfgpgcbcaa
open Go.RowKit Go.Maps

theorem Rq.cut {B r : Nat} {M : List Itm} {w : World} (h : Rq B r M w) {a : Option Addr} {N cap : Nat} (hN : M.length = N) (hc : w.cell? ⟨r, 0, none⟩ = some (.slice a N cap)) (q : Nat) (hq : q ≤ N) : Rq B r (M.take q) (w.setCell ⟨r, 0, none⟩ (.slice a q cap)) := by
  obtain ⟨a', cap', h1, h2, h3, h4⟩ := h.is
  have e : Value.slice a' M.length cap' = .slice a N cap := by simpa [World.cell?, h1] using hc
  cases e
  have hl : (M.take q).length = q := by rw [List.length_take]; omega
  refine ⟨h.lt_, a, cap, ?_, ?_, ?_, h4⟩
  · rw [hl]; simp [World.setCell, Array.getElem?_modify, h1]
  · rw [hl]
    exact Ri.keep2 (w := w) (h2.take rfl q hq) (fun g off x hg _ => Below.heap_setCell _ _ _ _ (by have := (h3 g (by cases a with | none => cases hg | some y => exact hg)).1; have := h.lt_; simp; omega))
  · intro g hg
    obtain ⟨k1, cur, k2⟩ := h3 g (by cases a with | none => cases hg | some y => exact hg)
    exact ⟨k1, cur, (Below.heap_setCell _ _ _ _ (by have := h.lt_; simp; omega)).trans k2⟩

theorem But.keepBx {B r : Nat} {w w' : World} {T : TypeId} {g : Nat} {n i s : Int} (k : But B r w w') (h : Bx T g n i s w) (hg : g < B) (hr : g ≠ r) : Bx T g n i s w' := h.keep (k.block g hg hr)

theorem stale_snoc (l : List Itm) (x : Itm) (u : Int × Int × Int) : staleQ (l ++ [x]) u = (staleQ l u || ((x.1 == u.1) && !newerS u.2.1 u.2.2 x.2.1 x.2.2.1)) := by
  unfold staleQ
  rw [List.any_append]
  simp

set_option maxHeartbeats 4000000 in
set_option maxRecDepth 100000 in
theorem fput_any (B r : Nat) (L : List Itm) (hL : L.length ≤ 32) (n i s : Int) (w : World) (hR : Rq B r L w) (hB : B ≤ w.heap.size) :
    Calls Try.prog 11 #[.pointer (some ⟨r, 0, none⟩), .agg #[.int .i64 n, .int .u64 i, .int .i64 s]] w fun e w' => e = .returned (.int .i64 (putE L (n, i, s))) ∧ Rq B r (putQ L (n, i, s)) w' ∧ But w.heap.size r w w' := by
  have hX := Bx.new 34 n i s w
  have b0 := below_alloc w (.cells #[.int .i64 n, .int .u64 i, .int .i64 s] 34)
  obtain ⟨w0, HW0⟩ : ∃ w0, Hid (w0 = w.alloc (.cells #[.int .i64 n, .int .u64 i, .int .i64 s] 34)) := ⟨_, rfl⟩
  rw [← HW0.out] at b0 hX
  have hR0 := hR.below b0
  have hrz := hR.lt
  have hr0 := hR.lt_
  clear hR
  obtain ⟨E, HE⟩ : ∃ E, Hid (putE L (n, i, s) = E) := ⟨_, rfl⟩
  obtain ⟨Q, HQ⟩ : ∃ Q, Hid (putQ L (n, i, s) = Q) := ⟨_, rfl⟩
  rw [HE.out, HQ.out]
  obtain ⟨N, HN⟩ : ∃ N, Hid (L.length = N) := ⟨_, rfl⟩
  have HALL : Hid (L.take N = L) := by rw [← HN.out, List.take_length]; exact rfl
  have hNl : N ≤ 32 := by rw [← HN.out]; exact hL
  obtain ⟨my, HM⟩ : ∃ b, Hid (mayS n s = b) := ⟨_, rfl⟩
  have hzb := b0.size
  have x0 := hX.c0
  have x1 := hX.c1
  have x2 := hX.c2
  have hgx0 := hX.lt
  go_enter Try.func11, Try.ntmps11
  go_upto_region 1 with fail
  rw [← HW0.out]
  clear HW0
  generalize hgx : w.heap.size = gx at *
  go_wp2_with fail
  refine (fmay_any _ _ _ _).mono ?_
  rw [HM.out]
  rintro e w1 ⟨rfl, hb1⟩
  have hR1 := hR0.below hb1
  have hX1 := hX.below hb1
  have hB1 : Below gx w w1 := b0.trans (hb1.mono hzb)
  have hz1 : gx < w1.heap.size := hX1.lt
  clear x0 x1 x2 hR0 hX b0 hb1 hgx0
  cases my
  case false =>
    go_wp2_with fail
    go_ret
    exact ⟨by rw [← HE.out]; simp [putE, HM.out], by rw [← HQ.out]; simpa [putQ, HM.out] using hR1, by rw [hgx]; exact But.of hB1⟩
  case true =>
    obtain ⟨a, cap, hc, hf, hcap, hRi, hown⟩ := hR1.cells
    rw [HN.out] at hc hcap
    have hNc : (N : Int) ≤ cap := by omega
    have hr1 : r < w1.heap.size := hR1.lt
    go_wp2_with fail
    go_loopg [5] N (fun gk t5 wr => ∃ k : Nat, k + gk = N ∧ t5 = .int .i64 k ∧ staleQ (L.take k) (n, i, s) = false ∧ Below w1.heap.size w1 wr)
    case atStart => exact ⟨0, by omega, rfl, rfl, Below.refl _ _⟩
    case round =>
      obtain ⟨k, hk, rfl, hst, hBk⟩ := hrel
      have HST : Hid (staleQ (L.take k) (n, i, s) = false) := hst
      clear hst
      have hXk := hX1.below hBk
      have x0 := hXk.c0
      have x1 := hXk.c1
      have x2 := hXk.c2
      have c1 := (World.cell?_of_block (w := w1) (hBk.block r hr1)).trans hc
      have hz := hBk.size
      by_cases hlt : (k : Int) < N
      · have hkl : k < L.length := by rw [HN.out]; omega
        obtain ⟨g, off, rfl, d0, d1, d2, d3⟩ := (hRi.below hBk).at_ hkl
        have HS : Hid (staleQ (L.take (k + 1)) (n, i, s) = ((L[k].1 == n) && !newerS i s L[k].2.1 L[k].2.2.1)) := by
          rw [← List.take_append_getElem hkl, stale_snoc, HST.out, Bool.false_or]
          exact rfl
        have HSA : Hid (((L[k].1 == n) && !newerS i s L[k].2.1 L[k].2.2.1) = true → staleQ L (n, i, s) = true) := fun h => List.any_eq_true.2 ⟨_, List.getElem_mem hkl, h⟩
        generalize L[k] = y at *
        obtain ⟨y1, y2, y3, y4⟩ := y
        simp only at d0 d1 d2 d3 HS HSA
        have k0 : (0 : Int) ≤ k := by omega
        have hne : Nonempty (Kept (Kb wr)) := ⟨⟨_, Kb.start wr⟩⟩
        have q0 := Kb.cell d0
        have q1 := Kb.cell d1
        have q2 := Kb.cell d2
        have p0 := Kb.cell x0
        have p1 := Kb.cell x1
        have p2 := Kb.cell x2
        have s0 := Kb.cell c1
        cases hy : (y1 == n)
        case false =>
          rw [hy, Bool.false_and] at HS
          go_wp2_with fail
          refine wp_region_kept (Kb wr) (by kernel_rfl) (by kernel_rfl) (Kb.start wr) ?_
          repeat (go_big_quiet_step (fail))
          refine wpQuiet_nil ?_
          intro w5 h5
          have hB5 : Below w1.heap.size w1 w5 := hBk.trans (Below.mono h5 hz)
          clear q0 q1 q2 p0 p1 p2 s0 hne
          go_wp2_with fail
          go_roundg (gk - 1)
          case rel => exact ⟨k + 1, by omega, by go_num, HS.out, hB5⟩
          case measure => omega
        case true =>
          obtain ⟨nw, HNW⟩ : ∃ b, Hid (newerS i s y2 y3 = b) := ⟨_, rfl⟩
          rw [hy, Bool.true_and, HNW.out] at HS HSA
          go_wp2_with fail
          refine wp_region_kept (Kb wr) (by kernel_rfl) (by kernel_rfl) (Kb.start wr) ?_
          repeat (go_big_quiet_step (first | (refine (fnewer_any _ _ _ _ _ _ _).mono ?_; rw [HNW.out]; rintro e w4 ⟨rfl, hb4⟩; exact ⟨rfl, Kb.on hb4⟩)))
          refine wpQuiet_nil ?_
          intro w5 h5
          have hB5 : Below w1.heap.size w1 w5 := hBk.trans (Below.mono h5 hz)
          clear q0 q1 q2 p0 p1 p2 s0 hne
          cases nw
          case true =>
            go_wp2_with fail
            go_roundg (gk - 1)
            case rel => exact ⟨k + 1, by omega, by go_num, HS.out, hB5⟩
            case measure => omega
          case false =>
            have hs := HSA.out rfl
            go_wp2_with fail
            go_ret
            exact ⟨by rw [← HE.out]; simp [putE, HM.out, hs], by rw [← HQ.out]; simpa [putQ, HM.out, hs] using hR1.below hB5, by rw [hgx]; exact But.of (hB1.trans (hB5.mono (by omega)))⟩
      · obtain rfl : k = N := by omega
        have hs := HST.out
        rw [HALL.out] at hs
        have HEQ : Hid (E = 0 ∧ Q = (keepQ L (n, i, s, 0)).take 32) := ⟨by rw [← HE.out]; simp [putE, HM.out, hs], by rw [← HQ.out]; simp [putQ, HM.out, hs, updI]⟩
        have hRk := hR1.below hBk
        have hls := less_any B r L (by omega) n wr hRk (by omega)
        have hll := lessQ_length_le L n
        clear hs HST HE HQ
        go_wp2_with fail
        refine hls.mono ?_
        rintro e w5 ⟨rfl, hR5, hb5⟩
        have hX5 := hb5.keepBx hXk (by omega) (by omega)
        have x0 := hX5.c0
        have x1 := hX5.c1
        have x2 := hX5.c2
        have hrp := rput_any B r (lessQ L n) (by omega) (n, i, s, 0) w5 hR5 (by have := hb5.size; omega)
        have hkl := keepQ_length (L := L) (n, i, s, 0)
        change Calls _ _ _ _ (fun e w' => _ ∧ Rq B r (keepQ L (n, i, s, 0)) w' ∧ _) at hrp
        generalize keepQ L (n, i, s, 0) = M at *
        unfold itmV at hrp
        simp only at hrp
        go_wp2_with fail
        refine hrp.mono ?_
        rintro e w6 ⟨rfl, hR6, hb6⟩
        have hbb : But gx r w w6 := ((But.of (hB1.trans (hBk.mono (by omega)))).trans (hb5.mono (by omega))).trans (hb6.mono (by have := hb5.size; omega))
        clear hls hrp hR5 hb5 hb6 hX5 x0 x1 x2 hRk hXk
        obtain ⟨a6, cap6, c6, f6, hcap6, hRi6, _⟩ := hR6.cells
        by_cases hM : M.length = 33
        · have hcut := hR6.cut hM (by rw [← hM]; exact c6) 32 (by omega)
          rw [hM] at c6 hcap6
          have hc33 : (32 : Int) ≤ cap6 := by omega
          go_wp2_with fail
          go_region
          go_wp2_with fail
          go_ret
          obtain ⟨e1, e2⟩ := HEQ.out
          exact ⟨by rw [e1]; rfl, by rw [e2]; exact hcut.keep rfl (fun _ _ _ _ => rfl), by rw [hgx]; exact (hbb.setCell _).drew⟩
        · have hM2 : ¬ (32 : Int) < M.length := by omega
          have hM3 : (M.length : Int) ≤ 32 := by omega
          go_wp2_with fail
          go_ret
          obtain ⟨e1, e2⟩ := HEQ.out
          exact ⟨by rw [e1]; rfl, by rw [e2, List.take_of_length_le (by omega)]; exact hR6, by rw [hgx]; exact hbb⟩
end Go.Proofs.Ytagdacfgpgcbcaa
