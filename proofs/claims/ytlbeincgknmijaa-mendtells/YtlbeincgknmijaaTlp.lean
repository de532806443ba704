/-
  Put of the reference, and what it leaves as it was; the reference's Take.
-/
import Derived.Test.YtlbeincgknmijaaTlo
namespace Go.Proofs.Ytlbeincgknmijaa
open Go.RowKit

/-- The row of the shelf behind q does not lie in block k. -/
def Off (q k : Nat) (w : World) : Prop := ∀ v, w.cell? ⟨q, 0, none⟩ = some v → v.ownBlock ≠ some k
/-- All stays, but for the shelf behind q and its row. -/
def Kq (q : Nat) (w w' : World) : Prop := ∀ k, k < w.heap.size → k ≠ q → Off q k w → Off q k w' ∧ w'.heap[k]? = w.heap[k]?
theorem Kq.below {q : Nat} {w w' : World} (hq : q < w.heap.size) (h : Below w.heap.size w w') : Kq q w w' := fun k hk _ ho =>
  ⟨fun v hv => ho v (by rw [← hv]; exact (World.cell?_of_block (w := w) (a := ⟨q, 0, none⟩) (h.block q hq)).symm), h.block k hk⟩
theorem Kq.trans {q : Nat} {a b c : World} (h : Kq q a b) (hs : a.heap.size ≤ b.heap.size) (k : Kq q b c) : Kq q a c := fun i hi hq ho => by
  obtain ⟨h1, h2⟩ := h i hi hq ho
  obtain ⟨k1, k2⟩ := k i (by omega) hq h1
  exact ⟨k1, k2.trans h2⟩
theorem Kq.app {q : Nat} {w w2 w7 : World} {v v7 : Value} (c0 : w.cell? ⟨q, 0, none⟩ = some v) (b : Below w.heap.size w w2) (hg : w2.grownBy w7 v.ownBlock) (hn : v7.ownBlock = v.ownBlock ∨ v7.ownBlock = some w2.heap.size)
    (c7 : (w7.setCell ⟨q, 0, none⟩ v7).cell? ⟨q, 0, none⟩ = some v7) : Kq q w (w7.setCell ⟨q, 0, none⟩ v7) := fun k hk hkq ho => by
  have h1 := ho v c0
  refine ⟨fun u hu => ?_, ?_⟩
  · rw [c7] at hu
    cases hu
    rcases hn with e | e
    · rw [e]; exact h1
    · rw [e]; intro e2; cases e2; have := b.size; omega
  · rw [Below.heap_setCell _ _ _ _ hkq]
    exact (hg.block k (by have := b.size; omega) (fun e => h1 e.symm)).trans (b.block k hk)

set_option maxRecDepth 100000 in
set_option maxHeartbeats 4000000 in
theorem fputk_any (B q : Nat) (und : Int) (L : List Pl) (n : Int) (g : Ms) (hL : L.length ≤ 1000) (n0 : 0 ≤ n) (n1 : n ≤ 18446744073709551615) (u0 : 0 ≤ und) (u1 : und ≤ 1000000) (w : World) (hB : B ≤ w.heap.size) (hR : Rf B q und L w) :
    Calls Try.prog 27 #[.pointer (some ⟨q, 0, none⟩), .int .u64 n, .agg #[.int .i64 g.s, .int .u64 g.m, .string g.x]] w fun e w' =>
      e = .returned (.int .i64 (putE und (hasL L n) n g)) ∧ Rf B q und (putL und L n g) w' ∧ But B q w w' ∧ Kq q w w' := by
  have hM := Bm.new g w
  have b1 := below_alloc w (.cells #[.int .i64 g.s, .int .u64 g.m, .string g.x] 28)
  have hR1 := hR.below b1
  obtain ⟨a, cap, c0, c1, hfz, hcap, hcm, hsh, hO, _⟩ := hR1.cells
  have m0 := hM.c0
  have m1 := hM.c1
  have m2 := hM.c2
  have bb1 := But.of (p := q) (b1.mono hB)
  have hk1 := Kq.below hR.lt b1
  have hh := find_any B q und L n hL _ hR1
  have hh : Calls Try.prog 42 #[.pointer (some ⟨q, 0, none⟩), .int .u64 n] (w.alloc (.cells #[.int .i64 g.s, .int .u64 g.m, .string g.x] 28)) fun e w' => (∃ k : Int, e = .returned (.int .i64 k) ∧ decide (0 ≤ k) = hasL L n) ∧ w' = w.alloc (.cells #[.int .i64 g.s, .int .u64 g.m, .string g.x] 28) := by
    refine hh.mono ?_
    rintro e w' ⟨⟨k, hk, rfl, he⟩ | ⟨rfl, he⟩, rfl⟩
    · exact ⟨⟨k, rfl, by rw [decide_eq_true (by omega)]; exact (hasL_iff.2 ⟨_, List.getElem_mem hk, he⟩).symm⟩, rfl⟩
    · exact ⟨⟨-1, rfl, by rw [he]; rfl⟩, rfl⟩
  by_cases h1 : n = 0 ∨ n = 18446744073709551615 ∨ 64 < (g.x.size : Int)
  · have e : putE und (hasL L n) n g = 1 := by unfold putE; rw [if_pos h1]
    have hend : Rf B q und (putL und L n g) (w.alloc (.cells #[.int .i64 g.s, .int .u64 g.m, .string g.x] 28)) := by unfold putL; rw [e, if_neg (by decide)]; exact hR1
    rw [e]
    clear e hh
    by_cases q1 : n = 0
    · have z1 : (n == 0) = true := by simp [q1]
      clear h1 q1
      go_enter Try.func27, Try.ntmps27
      go_wp2_with fail
      go_ret
      exact ⟨rfl, hend, bb1, hk1⟩
    · have z1 : (n == 0) = false := by simp [q1]
      by_cases q2 : n = 18446744073709551615
      · have z2 : (n == 18446744073709551615) = true := by simp [q2]
        clear h1 q1 q2
        go_enter Try.func27, Try.ntmps27
        go_wp2_with fail
        go_ret
        exact ⟨rfl, hend, bb1, hk1⟩
      · have z2 : (n == 18446744073709551615) = false := by simp [q2]
        have z3 : decide (64 < (g.x.size : Int)) = true := decide_eq_true (by omega)
        clear h1 q1 q2
        go_enter Try.func27, Try.ntmps27
        go_wp2_with fail
        go_ret
        exact ⟨rfl, hend, bb1, hk1⟩
  · have z1 : (n == 0) = false := by simp; omega
    have z2 : (n == 18446744073709551615) = false := by simp; omega
    have z3 : decide (64 < (g.x.size : Int)) = false := decide_eq_false (by omega)
    by_cases h2 : n ≤ und
    · have z4 : decide (n ≤ und) = true := decide_eq_true h2
      have e : putE und (hasL L n) n g = 70 := by unfold putE; rw [if_neg h1, if_pos h2]
      have hend : Rf B q und (putL und L n g) (w.alloc (.cells #[.int .i64 g.s, .int .u64 g.m, .string g.x] 28)) := by unfold putL; rw [e, if_neg (by decide)]; exact hR1
      rw [e]
      clear e hh h1
      go_enter Try.func27, Try.ntmps27
      go_wp2_with fail
      go_ret
      exact ⟨rfl, hend, bb1, hk1⟩
    · have z4 : decide (n ≤ und) = false := decide_eq_false h2
      cases h3 : hasL L n
      case true =>
        have e : putE und true n g = 4 := by unfold putE; rw [if_neg h1, if_neg h2]; rfl
        have hend : Rf B q und (putL und L n g) (w.alloc (.cells #[.int .i64 g.s, .int .u64 g.m, .string g.x] 28)) := by unfold putL; rw [h3, e, if_neg (by decide)]; exact hR1
        rw [e]
        rw [h3] at hh
        clear e h1 h3
        go_enter Try.func27, Try.ntmps27
        go_wp2_with fail
        refine hh.mono ?_
        rintro e w2 ⟨⟨k, rfl, hk⟩, rfl⟩
        go_wp2_with fail
        go_ret
        exact ⟨rfl, hend, bb1, hk1⟩
      case false =>
        rw [h3] at hh
        by_cases h4 : 64 < n - und
        · have z5 : decide (64 < n - und) = true := decide_eq_true h4
          have e : putE und false n g = 2 := by unfold putE; rw [if_neg h1, if_neg h2, if_neg (by simp), if_pos h4]
          have hend : Rf B q und (putL und L n g) (w.alloc (.cells #[.int .i64 g.s, .int .u64 g.m, .string g.x] 28)) := by unfold putL; rw [h3, e, if_neg (by decide)]; exact hR1
          rw [e]
          clear e h1 h3
          go_enter Try.func27, Try.ntmps27
          go_wp2_with fail
          refine hh.mono ?_
          rintro e w2 ⟨⟨k, rfl, hk⟩, rfl⟩
          go_wp2_with fail
          go_ret
          exact ⟨rfl, hend, bb1, hk1⟩
        · have z5 : decide (64 < n - und) = false := decide_eq_false h4
          have e : putE und false n g = 0 := by unfold putE; rw [if_neg h1, if_neg h2, if_neg (by simp), if_neg h4]
          have hpl : putL und L n g = L ++ [⟨n, g⟩] := by unfold putL; rw [h3, e, if_pos rfl]
          rw [e, hpl]
          clear e h1 h3 hpl
          go_enter Try.func27, Try.ntmps27
          go_wp2_with fail
          refine hh.mono ?_
          rintro e w2 ⟨⟨k, rfl, hk⟩, rfl⟩
          go_wp2_with fail
          have hBW0 : B ≤ (w.alloc (.cells #[.int .i64 g.s, .int .u64 g.m, .string g.x] 28)).heap.size := Nat.le_trans hB bb1.size
          have hgl := hM.lt
          generalize hWe : w.alloc (.cells #[.int .i64 g.s, .int .u64 g.m, .string g.x] 28) = W at *
          have bd0 := below_alloc W (.cells #[.int .u64 n, .int .i64 g.s, .int .u64 g.m, .string g.x] 67)
          have c0a := cell_below c0 bd0
          have m0a := cell_below m0 bd0
          have m1a := cell_below m1 bd0
          have m2a := cell_below m2 bd0
          have bd : Below W.heap.size W (W.alloc (.cells #[.int .u64 n, .int .i64 g.s, .int .u64 g.m, .string g.x] 67)).drew := bd0.drew
          have hO2 := hO.below bd
          have hY : RdE EI (.slice (some ⟨W.heap.size, 0, none⟩) 1 1) [⟨n, g⟩] (W.alloc (.cells #[.int .u64 n, .int .i64 g.s, .int .u64 g.m, .string g.x] 67)).drew := RdE.one (heap_alloc_new W _)
          obtain ⟨vq, hq1, _⟩ := hR1.is
          have hBW : B ≤ W.heap.size := hBW0
          have hB2 := Nat.le_trans hBW bd.size
          have hqlt := hR1.lt
          have hq2 := (bd.block q hqlt).trans hq1
          have bb2 := bb1.trans (But.of (p := q) (bd.mono hBW))
          have hqB := hR1.lt_
          have hfin : ∀ v7 w7, OwE EI 67 B v7 (L ++ [⟨n, g⟩]) w7 → World.grownBy (W.alloc (.cells #[.int .u64 n, .int .i64 g.s, .int .u64 g.m, .string g.x] 67)).drew w7 (Value.slice a L.length cap).ownBlock →
              (v7.ownBlock = (Value.slice a L.length cap).ownBlock ∨ v7.ownBlock = some (W.alloc (.cells #[.int .u64 n, .int .i64 g.s, .int .u64 g.m, .string g.x] 67)).drew.heap.size) →
              (∃ x, w7.cell? ⟨q, 0, none⟩ = some x) ∧ w7.frozen? ⟨q, 0, none⟩ = false ∧ Rf B q und (L ++ [⟨n, g⟩]) (w7.setCell ⟨q, 0, none⟩ v7) ∧ But B q w (w7.setCell ⟨q, 0, none⟩ v7) ∧ Kq q w (w7.setCell ⟨q, 0, none⟩ v7) := by
            intro v7 w7 h7 hg7 hn7
            have hne : ∀ k, k < B → (Value.slice a L.length cap).ownBlock ≠ some k := fun k hk e => by have := (hO2.lt k e).1; omega
            have hq7 : w7.heap[q]? = some (.cells #[vq, .int .u64 und] 63 (0, 0)) := (hg7.block q (by omega) (fun e => hne q hqB e.symm)).trans hq2
            have hb7 : But B q w w7 := bb2.trans ⟨hg7.os, hg7.tape, hg7.output, hg7.size, fun k hk _ => hg7.block k (by omega) (fun e => hne k hk e.symm)⟩
            refine ⟨⟨vq, by simp [World.cell?, hq7]⟩, by simp [World.frozen?, hq7], ⟨hqB, v7, by simp [World.setCell, Array.getElem?_modify, hq7], h7.keep fun b hb _ => Below.heap_setCell _ _ _ _ ?_⟩, hb7.setCell (r := ⟨q, 0, none⟩) (Or.inl rfl) _, hk1.trans b1.size (Kq.app c0 bd hg7 hn7 (by simp [World.cell?, World.setCell, Array.getElem?_modify, hq7]))⟩
            have := (h7.lt b hb).1
            simp
            omega
          clear bd hq1 hq2 bb2 hqlt hO hR1
          go_region_law (refine step_appE Try.undI Try.infoI (by decide) (by decide) _ (by rfl) (.tmp 40) (.tmp 44) (by rfl) B (.slice a L.length cap) L (by rfl) hO2 hB2 W.heap.size 0 1 [⟨n, g⟩] 1 rfl (by rfl) hY (by simp; omega) ?_
                         intro v7 w7 hO7 hg7 hn7
                         obtain ⟨⟨x7, k0⟩, k1, k2, k3, k4⟩ := hfin v7 w7 hO7 hg7 hn7
                         obtain ⟨a7, c7, rfl, _, _⟩ := hO7.len)
          all_goals
            clear hfin hO2 hY hg7 hn7 hO7
            simp only [List.length_append, List.length_cons, List.length_nil, Nat.zero_add] at k2 k3 k4
            go_wp2_with fail
            go_ret
            exact ⟨rfl, k2, k3, k4⟩
theorem fputk_all (B q : Nat) (low : Int) (R : Rng) (L : List Pl) (n : Int) (g : Ms) (hC : Cp low R L) (hL : L.length ≤ 1000) (n0 : 0 ≤ n) (n1 : n ≤ 18446744073709551615) (l1 : low ≤ 1000000) (w : World) (hB : B ≤ w.heap.size) (hF : Rf B q low L w) :
    Calls Try.prog 27 #[.pointer (some ⟨q, 0, none⟩), .int .u64 n, .agg #[.int .i64 g.s, .int .u64 g.m, .string g.x]] w fun e w' =>
      e = .returned (.int .i64 (putE low (hasR low R n) n g)) ∧ Rf B q low (putL low L n g) w' ∧ But B q w w' ∧ Kq q w w' := by
  rw [← hC.has]
  exact fputk_any B q low L n g hL n0 n1 hC.l0 l1 w hB hF
theorem Rf.drew_ {B q : Nat} {und : Int} {L : List Pl} {w : World} (h : Rf B q und L w) : Rf B q und L w.drew := h.keep fun _ _ _ => rfl

set_option maxRecDepth 100000 in
set_option maxHeartbeats 4000000 in
theorem ftake_any (B q : Nat) (low : Int) (R : Rng) (L : List Pl) (hC : Cp low R L) (l1 : low ≤ 1000000) (v : Value) (l : List Pl) (hok : PlOk l) (hL : L.length + l.length ≤ 1000) (most : Int) (w : World) (hB : B ≤ w.heap.size) (hF : Rf B q low L w) (hR : Rp v l w) (hoff : ∀ g, v.ownBlock = some g → g ≠ q ∧ Off q g w) :
    Calls Try.prog 19 #[.pointer (some ⟨q, 0, none⟩), v, .int .u64 most] w fun e w' => e = .returned (.int .i64 (takeP low most R l).2) ∧ (∃ L', Cp low (takeP low most R l).1 L' ∧ Rf B q low L' w' ∧ L'.length ≤ L.length + l.length) ∧ But B q w w' := by
  obtain ⟨a, cap, rfl, h3⟩ := id hR
  clear h3
  have hlen : (l.length : Int) ≤ 1000 := by omega
  go_enter Try.func19, Try.ntmps19
  go_wp2_with fail
  go_loopg [7, 8] l.length (fun gk t7 t8 wr => ∃ k : Nat, k + gk = l.length ∧ t8 = .int .i64 k ∧ t7 = .int .i64 (takeP low most R (l.take k)).2 ∧ (∃ L', Cp low (takeP low most R (l.take k)).1 L' ∧ Rf B q low L' wr ∧ L'.length ≤ L.length + k) ∧ But B q w wr ∧ Rp (.slice a l.length cap) l wr ∧ ∀ g, (Value.slice a l.length cap).ownBlock = some g → g ≠ q ∧ Off q g wr)
  case atStart => exact ⟨0, by omega, rfl, rfl, ⟨L, hC, hF, by omega⟩, But.refl _ _ _, hR, hoff⟩
  case round =>
    clear hC hF hR hoff
    obtain ⟨k, hk, rfl, rfl, ⟨L', hCk, hFk, hLk⟩, hBk, hRk, hoff⟩ := hrel
    have k0 : (0 : Int) ≤ k := by omega
    by_cases hlt : (k : Int) < l.length
    · have hkl : k < l.length := by omega
      obtain ⟨_, _, e, h4⟩ := id hRk
      cases e
      rcases h4 with h4 | ⟨g, off, rfl, hg, h4⟩
      · omega
      obtain ⟨c0, c1, c2, c3⟩ := h4 k hkl
      have hst : Hid (takeP low most R (l.take (k + 1)) = tkP low most (takeP low most R (l.take k)) l[k]) := takeP_take hkl
      obtain ⟨x0, x1⟩ := hok _ (List.getElem_mem hkl)
      have hle := takeP_le low most R (l.take k)
      rw [List.length_take] at hle
      clear h4
      generalize l[k] = x at *
      generalize takeP low most R (l.take k) = s at *
      obtain ⟨S, cn⟩ := s
      obtain ⟨y, M⟩ := x
      dsimp only at c0 c1 c2 c3 x0 x1 hCk hle ⊢
      have hput := fputk_all B q low S L' y M hCk (by omega) x0 x1 l1 wr.drew (Nat.le_trans hB hBk.size) hFk.drew_
      have hCp := hCk.put y M
      have hpl := putL_len low L' y M
      obtain ⟨hgq, hgo⟩ := hoff g rfl
      have hfin : ∀ w2, Kq q wr.drew w2 → But B q wr.drew w2 → But B q w w2 ∧ Rp (.slice (some ⟨g, off, none⟩) l.length cap) l w2 ∧ (∀ g', (Value.slice (some ⟨g, off, none⟩) l.length cap).ownBlock = some g' → g' ≠ q ∧ Off q g' w2) ∧ (w2.cell? ⟨g, off + k * 4, none⟩ = some (.int .u64 y) ∧ w2.cell? ⟨g, off + k * 4 + 1, none⟩ = some (.int .i64 M.s) ∧ w2.cell? ⟨g, off + k * 4 + 2, none⟩ = some (.int .u64 M.m) ∧ w2.cell? ⟨g, off + k * 4 + 3, none⟩ = some (.string M.x)) := by
        intro w2 hk2 hb2
        have hx := hk2 g hg hgq hgo
        have ec := fun o => World.cell?_of_block (w := wr) (w' := w2) (a := ⟨g, o, none⟩) hx.2
        refine ⟨hBk.drew.trans hb2, hRk.keep (w := wr) hb2.size fun g' e hg' => ?_, fun g' e => ?_, (ec _).trans c0, (ec _).trans c1, (ec _).trans c2, (ec _).trans c3⟩
        · cases e
          exact hx.2
        · cases e
          exact ⟨hgq, hx.1⟩
      have hfin0 : But B q w wr.drew ∧ Rp (.slice (some ⟨g, off, none⟩) l.length cap) l wr.drew := ⟨hBk.drew, hRk.keep (w := wr) (Nat.le_refl _) fun _ _ _ => rfl⟩
      have hoff0 : ∀ g', (Value.slice (some ⟨g, off, none⟩) l.length cap).ownBlock = some g' → g' ≠ q ∧ Off q g' wr.drew := hoff
      have h0 : wr.cell? ⟨g, off + k * 4, none⟩ = some (.int .u64 y) ∧ wr.cell? ⟨g, off + k * 4 + 1, none⟩ = some (.int .i64 M.s) ∧ wr.cell? ⟨g, off + k * 4 + 2, none⟩ = some (.int .u64 M.m) ∧ wr.cell? ⟨g, off + k * 4 + 3, none⟩ = some (.string M.x) := ⟨c0, c1, c2, c3⟩
      have h1 : wr.drew.cell? ⟨g, off + k * 4, none⟩ = some (.int .u64 y) ∧ wr.drew.cell? ⟨g, off + k * 4 + 1, none⟩ = some (.int .i64 M.s) ∧ wr.drew.cell? ⟨g, off + k * 4 + 2, none⟩ = some (.int .u64 M.m) ∧ wr.drew.cell? ⟨g, off + k * 4 + 3, none⟩ = some (.string M.x) := h0
      clear hBk hRk hoff hgo hgq hok
      by_cases hm : y ≤ most
      · have z1 : decide (y ≤ most) = true := decide_eq_true hm
        by_cases hE : putE low (hasR low S y) y M = 0
        · have hs2 : Hid (takeP low most R (l.take (k + 1)) = (putR low S y M, cn + 1)) := by
            show _ = _
            rw [hst.out]; unfold tkP; rw [if_pos ⟨hm, hE⟩]
          rw [hE] at hput
          clear hst hE hCk hFk hm
          generalize putR low S y M = S2 at *
          generalize putL low L' y M = L2 at *
          go_wp2_with fail
          go_region_held3 (fun W => W.cell? ⟨g, off + k * 4, none⟩ = some (.int .u64 y) ∧ W.cell? ⟨g, off + k * 4 + 1, none⟩ = some (.int .i64 M.s) ∧ W.cell? ⟨g, off + k * 4 + 2, none⟩ = some (.int .u64 M.m) ∧ W.cell? ⟨g, off + k * 4 + 3, none⟩ = some (.string M.x)) (first | exact h1 | exact h0 | exact h2 | fail) ((first
            | (go_at_call 27; refine hput.mono ?_; rintro e w2 ⟨rfl, hF2, hb2, hk2⟩; obtain ⟨f1, f2, f3, h2⟩ := hfin _ hk2 hb2)))
          clear hput hfin hk2 hb2
          go_wp2_with fail
          go_roundg (gk - 1)
          case rel => exact ⟨k + 1, by omega, by go_num, by rw [hs2.out]; go_num, ⟨L2, by rw [hs2.out]; exact hCp, hF2, by omega⟩, f1, f2, f3⟩
          case measure => omega
        · have hs2 : Hid (takeP low most R (l.take (k + 1)) = (S, cn)) := by
            show _ = _
            rw [hst.out]; unfold tkP; rw [if_neg (fun h => hE h.2)]
          have hpr : putR low S y M = S := by unfold putR; rw [if_neg hE]
          rw [hpr] at hCp
          have hEz : (putE low (hasR low S y) y M == 0) = false := by simpa using hE
          clear hst hE hCk hFk hpr hm
          generalize putE low (hasR low S y) y M = E at *
          generalize putL low L' y M = L2 at *
          go_wp2_with fail
          go_region_held3 (fun W => W.cell? ⟨g, off + k * 4, none⟩ = some (.int .u64 y) ∧ W.cell? ⟨g, off + k * 4 + 1, none⟩ = some (.int .i64 M.s) ∧ W.cell? ⟨g, off + k * 4 + 2, none⟩ = some (.int .u64 M.m) ∧ W.cell? ⟨g, off + k * 4 + 3, none⟩ = some (.string M.x)) (first | exact h1 | exact h0 | exact h2 | fail) ((first
            | (go_at_call 27; refine hput.mono ?_; rintro e w2 ⟨rfl, hF2, hb2, hk2⟩; obtain ⟨f1, f2, f3, h2⟩ := hfin _ hk2 hb2)))
          clear hput hfin hk2 hb2
          go_wp2_with fail
          go_roundg (gk - 1)
          case rel => exact ⟨k + 1, by omega, by go_num, by rw [hs2.out], ⟨L2, by rw [hs2.out]; exact hCp, hF2, by omega⟩, f1, f2, f3⟩
          case measure => omega
      · have hs2 : Hid (takeP low most R (l.take (k + 1)) = (S, cn)) := by
          show _ = _
          rw [hst.out]; unfold tkP; rw [if_neg (fun h => hm h.1)]
        have z1 : decide (y ≤ most) = false := decide_eq_false hm
        have hF0 := hFk.drew_
        clear hst hput hFk hCp hfin hm
        go_wp2_with fail
        go_region
        go_wp2_with fail
        go_roundg (gk - 1)
        case rel => exact ⟨k + 1, by omega, by go_num, by rw [hs2.out], ⟨L', by rw [hs2.out]; exact hCk, hF0, by omega⟩, hfin0.1, hfin0.2, hoff0⟩
        case measure => omega
    · have e : l.take k = l := List.take_of_length_le (by omega)
      rw [e] at hCk ⊢
      clear e hRk hoff hok
      go_wp2_with fail
      go_ret
      exact ⟨rfl, ⟨L', hCk, hFk, by omega⟩, hBk⟩
end Go.Proofs.Ytlbeincgknmijaa
