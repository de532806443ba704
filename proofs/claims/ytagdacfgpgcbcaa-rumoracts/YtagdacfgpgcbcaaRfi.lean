/-
  The reference's put, Items.
-/
import Derived.Test.YtagdacfgpgcbcaaRfq
namespace Go.Proofs.Ytagdacfgpgcbcaa
open Go.RowKit Go.Maps

/-- All that was there in w0 is there still. -/
def Kb (w0 : World) (w : World) : Prop := Below w0.heap.size w0 w
theorem Kb.on {w0 : World} {x : Kept (Kb w0)} {w : World} (h : Below x.at_.heap.size x.at_ w) : ∃ y : Kept (Kb w0), w = y.at_ := ⟨⟨w, Below.trans x.is (h.mono (Below.size x.is))⟩, rfl⟩
theorem Kb.cell {w0 : World} {a : Addr} {v : Value} (h : w0.cell? a = some v) (x : Kept (Kb w0)) : x.at_.cell? a = some v := by
  have e := Below.block x.is a.block (World.block_lt_of_cell? _ _ h)
  exact (World.cell?_of_block (w := w0) e).trans h
theorem Kb.start (w0 : World) : Kb w0 w0.drew := Below.drew' (Below.refl _ _)

def outS (x : Itm) (l : List Itm) : List Itm := if l.any (ltI x) then insQ x l else l
theorem ins_none {x : Itm} {l : List Itm} (h : l.any (ltI x) = false) : insQ x l = l ++ [x] := by
  induction l with
  | nil => rfl
  | cons y r ih =>
    rw [List.any_cons, Bool.or_eq_false_iff] at h
    unfold insQ
    rw [h.1]
    simp [ih h.2]
theorem ins_snoc {x y : Itm} {l : List Itm} (h : l.any (ltI x) = true) : insQ x (l ++ [y]) = insQ x l ++ [y] := by
  induction l with
  | nil => cases h
  | cons z r ih =>
    rw [List.cons_append]
    unfold insQ
    cases hz : ltI x z
    · rw [List.any_cons, hz, Bool.false_or] at h
      simp [ih h]
    · simp
theorem out_snoc (x y : Itm) (l : List Itm) : outS x (l ++ [y]) = if l.any (ltI x) then outS x l ++ [y] else if ltI x y then (outS x l ++ [x]) ++ [y] else outS x l ++ [y] := by
  unfold outS
  rw [List.any_append]
  cases h : l.any (ltI x)
  · simp only [Bool.false_or, Bool.false_eq_true, if_false, List.any_cons, List.any_nil, Bool.or_false]
    cases hy : ltI x y
    · simp
    · simp only [if_true]
      have e : ∀ l : List Itm, l.any (ltI x) = false → insQ x (l ++ [y]) = (l ++ [x]) ++ [y] := by
        intro l
        induction l with
        | nil => intro _; simp [insQ, hy]
        | cons z r ih =>
          intro h
          rw [List.any_cons, Bool.or_eq_false_iff] at h
          rw [List.cons_append]
          unfold insQ
          rw [h.1]
          simp [ih h.2]
      exact e l h
  · simp [ins_snoc h]
theorem out_ins (x : Itm) (l : List Itm) : insQ x l = if l.any (ltI x) then outS x l else outS x l ++ [x] := by
  unfold outS
  cases h : l.any (ltI x)
  · simp [ins_none h]
  · simp
theorem out_length (x : Itm) (l : List Itm) : (outS x l).length ≤ l.length + 1 := by
  unfold outS
  split
  · rw [insQ_length]; exact Nat.le_refl _
  · omega

set_option maxHeartbeats 4000000 in
set_option maxRecDepth 100000 in
theorem rput_any (B r : Nat) (L : List Itm) (hL : L.length ≤ 40) (x : Itm) (w : World) (hR : Rq B r L w) (hB : B ≤ w.heap.size) :
    Calls Try.prog 27 #[.pointer (some ⟨r, 0, none⟩), itmV x] w fun e w' => e = .returned (.tuple #[]) ∧ Rq B r (insQ x L) w' ∧ But w.heap.size r w w' := by
  obtain ⟨x1, x2, x3, x4⟩ := x
  obtain ⟨a, cap, hc, hf, hcap, hRi, hown⟩ := hR.cells
  have b0 := below_alloc w (.cells #[.int .i64 x1, .int .u64 x2, .int .i64 x3, .int .i64 x4] 63)
  have hX := Bi.new 63 x1 x2 x3 x4 w
  obtain ⟨w0, HW0⟩ : ∃ w0, Hid (w0 = w.alloc (.cells #[.int .i64 x1, .int .u64 x2, .int .i64 x3, .int .i64 x4] 63)) := ⟨_, rfl⟩
  rw [← HW0.out] at b0 hX
  have ba := below_alloc w0 (.cells #[] 63)
  have hE := OwI.empty (B := w0.heap.size) (heap_alloc_new w0 (.cells #[] 63)) (Nat.le_refl _)
  have hX1 := hX.below ba
  have hu := hR.one
  have hrz := hR.lt
  obtain ⟨N, HN⟩ : ∃ N, Hid (L.length = N) := ⟨_, rfl⟩
  have hc' := hc
  rw [HN.out] at hc'
  have HALL : Hid (L.take N = L) := by rw [← HN.out, List.take_length]; exact rfl
  have hr0 := hR.lt_
  clear hR hc
  obtain ⟨M, HM⟩ : ∃ M, Hid (insQ (x1, x2, x3, x4) L = M) := ⟨_, rfl⟩
  rw [HM.out]
  have hNc : (N : Int) ≤ cap := by rw [← HN.out]; omega
  have hNl : N ≤ 40 := by rw [← HN.out]; exact hL
  have hah := fun (y1 y2 y3 y4 : Int) (w : World) => ahead_any (x1, x2, x3, x4) (y1, y2, y3, y4) w
  unfold itmV at hah ⊢
  simp only at hah ⊢
  have hgl : w.heap.size < w0.heap.size := hX.lt
  have hc0 := (World.cell?_of_block (w := w) (b0.block r hrz)).trans hc'
  have hRi0 := hRi.below b0
  have hrz0 : r < w0.heap.size := Nat.lt_of_lt_of_le hrz b0.size
  obtain ⟨u, hu⟩ := hu
  have hu0 := (b0.block r hrz).trans hu
  have HOI := fun l => show Hid (insQ (x1, x2, x3, x4) l = if l.any (ltI (x1, x2, x3, x4)) then outS (x1, x2, x3, x4) l else outS (x1, x2, x3, x4) l ++ [(x1, x2, x3, x4)]) from out_ins (x1, x2, x3, x4) l
  have hszb := b0.size
  clear hRi hc' hu hown hf hcap
  go_enter Try.func27, Try.ntmps27
  go_upto_region 1 with fail
  rw [← HW0.out]
  clear HW0
  generalize hgx : w.heap.size = gx at *
  go_wp2_with fail
  go_loopg [4, 5, 6] N (fun gk t4 t5 t6 wr => ∃ k : Nat, k + gk = N ∧ t6 = .int .i64 k ∧ t5 = .bool ((L.take k).any (ltI (x1, x2, x3, x4))) ∧ OwI 63 w0.heap.size t4 (outS (x1, x2, x3, x4) (L.take k)) wr ∧ Below w0.heap.size w0 wr)
  case atStart => exact ⟨0, by omega, rfl, rfl, hE, ba⟩
  case round =>
    clear hE ba hX1
    obtain ⟨k, hk, rfl, rfl, hO, hBk⟩ := hrel
    have c1 := (World.cell?_of_block (w := w0) (hBk.block r hrz0)).trans hc0
    have hz := hBk.size
    by_cases hlt : (k : Int) < N
    · have hkl : k < L.length := by rw [HN.out]; omega
      have hRk := hRi0.below hBk
      obtain ⟨g, off, rfl, d0, d1, d2, d3⟩ := hRk.at_ hkl
      have hg0 : g < w0.heap.size := by obtain ⟨g', off', e', d', _⟩ := hRi0.at_ hkl; cases e'; exact World.block_lt_of_cell? _ _ d'
      have hXk := hX.below hBk
      have y0 := hXk.c0
      have y1 := hXk.c1
      have y2 := hXk.c2
      have y3 := hXk.c3
      have HS : Hid (outS (x1, x2, x3, x4) (L.take (k + 1)) = if (L.take k).any (ltI (x1, x2, x3, x4)) then outS (x1, x2, x3, x4) (L.take k) ++ [L[k]] else if ltI (x1, x2, x3, x4) L[k] then (outS (x1, x2, x3, x4) (L.take k) ++ [(x1, x2, x3, x4)]) ++ [L[k]] else outS (x1, x2, x3, x4) (L.take k) ++ [L[k]]) := by
        rw [← List.take_append_getElem hkl, out_snoc]
        exact rfl
      have HD : Hid ((L.take (k + 1)).any (ltI (x1, x2, x3, x4)) = ((L.take k).any (ltI (x1, x2, x3, x4)) || ltI (x1, x2, x3, x4) L[k])) := by
        rw [← List.take_append_getElem hkl, List.any_append]
        show _ = _
        simp
      have hll : (outS (x1, x2, x3, x4) (L.take k)).length ≤ 41 := Nat.le_trans (out_length _ _) (by rw [List.length_take]; omega)
      clear HOI hRk
      generalize L[k] = yy at *
      obtain ⟨z1, z2, z3, z4⟩ := yy
      simp only at d0 d1 d2 d3 y0 y1 y2 y3
      have hah2 := hah z1 z2 z3 z4
      clear hah
      generalize ltI (x1, x2, x3, x4) (z1, z2, z3, z4) = bb at *
      generalize outS (x1, x2, x3, x4) (L.take k) = P at *
      generalize (L.take k).any (ltI (x1, x2, x3, x4)) = dn at *
      have k0 : (0 : Int) ≤ k := by omega
      have hne : Nonempty (Kept (Kb wr)) := ⟨⟨_, Kb.start wr⟩⟩
      have q0 := Kb.cell d0
      have q1 := Kb.cell d1
      have q2 := Kb.cell d2
      have q3 := Kb.cell d3
      have p0 := Kb.cell y0
      have p1 := Kb.cell y1
      have p2 := Kb.cell y2
      have p3 := Kb.cell y3
      have s0 := Kb.cell c1
      cases dn
      case true =>
        simp only [if_true, Bool.true_or] at HS HD
        go_wp2_with fail
        refine wp_region_kept (Kb wr) (by kernel_rfl) (by kernel_rfl) (Kb.start wr) ?_
        repeat (go_big_quiet_step (fail))
        refine wpQuiet_nil ?_
        intro w5 h5
        clear q0 q1 q2 q3 p0 p1 p2 p3 s0 hne
        have hB5 : Below w0.heap.size w0 w5 := hBk.trans (Below.mono h5 hz)
        have hO5 := hO.below h5
        have cc := (World.cell?_of_block (w := wr) (Below.block h5 r (by omega))).trans c1
        have e0 := (World.cell?_of_block (w := wr) (Below.block h5 g (World.block_lt_of_cell? _ _ d0))).trans d0
        have e1 := (World.cell?_of_block (w := wr) (Below.block h5 g (World.block_lt_of_cell? _ _ d0))).trans d1
        have e2 := (World.cell?_of_block (w := wr) (Below.block h5 g (World.block_lt_of_cell? _ _ d0))).trans d2
        have e3 := (World.cell?_of_block (w := wr) (Below.block h5 g (World.block_lt_of_cell? _ _ d0))).trans d3
        clear d0 d1 d2 d3 c1 y0 y1 y2 y3
        have bcA := below_alloc w5 (.cells #[.int .i64 z1, .int .u64 z2, .int .i64 z3, .int .i64 z4] 63)
        have hBaA := hB5.trans (bcA.mono hB5.size)
        have hOaA := hO5.below bcA
        have hYA := Ri.one (Bi.new 63 z1 z2 z3 z4 w5)
        have hzA := hBaA.size
        clear bcA
        go_wp2_with (at_builtin; refine wpList_appI Try.underlying29 Try.infoJ _ rfl (.tmp 34) (.tmp 42) rfl w0.heap.size _ P rfl hOaA hzA w5.heap.size 0 1 [(z1, z2, z3, z4)] 1 rfl rfl hYA (by simp; omega) ?_; intro vA w6 h1A h3A h4A)
        have hBw6 : Below w0.heap.size w0 w6 := hBaA.trans ⟨h3A.os, h3A.tape, h3A.output, h3A.size, fun q hq => h3A.block q (by omega) (fun e => by have := (hOaA.lt q e.symm).1; omega)⟩
        clear h3A h4A hYA
        go_wp2_with fail
        go_roundg (gk - 1)
        case rel => exact ⟨k + 1, by omega, by go_num, by rw [HD.out], by rw [HS.out]; exact h1A, hBw6⟩
        case measure => omega
      case false =>
        simp only [Bool.false_eq_true, if_false, Bool.false_or] at HS HD
        go_wp2_with fail
        refine wp_region_kept (Kb wr) (by kernel_rfl) (by kernel_rfl) (Kb.start wr) ?_
        repeat (go_big_quiet_step (first | (refine (hah2 _).mono ?_; rintro e w4 ⟨rfl, hb4⟩; exact ⟨rfl, Kb.on hb4⟩)))
        refine wpQuiet_nil ?_
        intro w5 h5
        clear q0 q1 q2 q3 p0 p1 p2 p3 s0 hne
        have hB5 : Below w0.heap.size w0 w5 := hBk.trans (Below.mono h5 hz)
        have hO5 := hO.below h5
        have cc := (World.cell?_of_block (w := wr) (Below.block h5 r (by omega))).trans c1
        have e0 := (World.cell?_of_block (w := wr) (Below.block h5 g (World.block_lt_of_cell? _ _ d0))).trans d0
        have e1 := (World.cell?_of_block (w := wr) (Below.block h5 g (World.block_lt_of_cell? _ _ d0))).trans d1
        have e2 := (World.cell?_of_block (w := wr) (Below.block h5 g (World.block_lt_of_cell? _ _ d0))).trans d2
        have e3 := (World.cell?_of_block (w := wr) (Below.block h5 g (World.block_lt_of_cell? _ _ d0))).trans d3
        have f0 := (World.cell?_of_block (w := wr) (Below.block h5 gx (by omega))).trans y0
        have f1 := (World.cell?_of_block (w := wr) (Below.block h5 gx (by omega))).trans y1
        have f2 := (World.cell?_of_block (w := wr) (Below.block h5 gx (by omega))).trans y2
        have f3 := (World.cell?_of_block (w := wr) (Below.block h5 gx (by omega))).trans y3
        clear d0 d1 d2 d3 c1 y0 y1 y2 y3
        cases bb
        case false =>
          simp only [Bool.false_eq_true, if_false] at HS
          have bcA := below_alloc w5 (.cells #[.int .i64 z1, .int .u64 z2, .int .i64 z3, .int .i64 z4] 63)
          have hBaA := hB5.trans (bcA.mono hB5.size)
          have hOaA := hO5.below bcA
          have hYA := Ri.one (Bi.new 63 z1 z2 z3 z4 w5)
          have hzA := hBaA.size
          clear bcA
          go_wp2_with (at_builtin; refine wpList_appI Try.underlying29 Try.infoJ _ rfl (.tmp 34) (.tmp 42) rfl w0.heap.size _ P rfl hOaA hzA w5.heap.size 0 1 [(z1, z2, z3, z4)] 1 rfl rfl hYA (by simp; omega) ?_; intro vA w6 h1A h3A h4A)
          have hBw6 : Below w0.heap.size w0 w6 := hBaA.trans ⟨h3A.os, h3A.tape, h3A.output, h3A.size, fun q hq => h3A.block q (by omega) (fun e => by have := (hOaA.lt q e.symm).1; omega)⟩
          clear h3A h4A hYA
          go_wp2_with fail
          go_roundg (gk - 1)
          case rel => exact ⟨k + 1, by omega, by go_num, by rw [HD.out], by rw [HS.out]; exact h1A, hBw6⟩
          case measure => omega
        case true =>
          simp only [if_true] at HS
          have bcB := below_alloc w5 (.cells #[.int .i64 x1, .int .u64 x2, .int .i64 x3, .int .i64 x4] 63)
          have hBaB := hB5.trans (bcB.mono hB5.size)
          have hOaB := hO5.below bcB
          have hYB := Ri.one (Bi.new 63 x1 x2 x3 x4 w5)
          have hzB := hBaB.size
          clear bcB
          go_upto_region 9 with (at_builtin; refine wpList_appI Try.underlying29 Try.infoJ _ rfl (.tmp 30) (.tmp 32) rfl w0.heap.size _ P rfl hOaB hzB w5.heap.size 0 1 [(x1, x2, x3, x4)] 1 rfl rfl hYB (by simp; omega) ?_; intro vB w6 h1B h3B h4B)
          have hBw6 : Below w0.heap.size w0 w6 := hBaB.trans ⟨h3B.os, h3B.tape, h3B.output, h3B.size, fun q hq => h3B.block q (by omega) (fun e => by have := (hOaB.lt q e.symm).1; omega)⟩
          have hz6 := h3B.size
          have hg5 : g < w5.heap.size := World.block_lt_of_cell? _ _ e0
          have hgo : g < w0.heap.size := hg0
          have hr5 : r < w5.heap.size := World.block_lt_of_cell? _ _ cc
          have keepq : ∀ q, q < w0.heap.size → w6.heap[q]? = w5.heap[q]? := fun q hq => (hBw6.block q hq).trans (hB5.block q hq).symm
          have cc6 := (World.cell?_of_block (w := w5) (keepq r hrz0)).trans cc
          have e06 := (World.cell?_of_block (w := w5) (keepq g hgo)).trans e0
          have e16 := (World.cell?_of_block (w := w5) (keepq g hgo)).trans e1
          have e26 := (World.cell?_of_block (w := w5) (keepq g hgo)).trans e2
          have e36 := (World.cell?_of_block (w := w5) (keepq g hgo)).trans e3
          clear h3B h4B hYB cc e0 e1 e2 e3 f0 f1 f2 f3 hOaB hO5
          have bcA := below_alloc w6 (.cells #[.int .i64 z1, .int .u64 z2, .int .i64 z3, .int .i64 z4] 63)
          have hBaA := hBw6.trans (bcA.mono hBw6.size)
          have hOaA := h1B.below bcA
          have hYA := Ri.one (Bi.new 63 z1 z2 z3 z4 w6)
          have hzA := hBaA.size
          clear bcA
          go_wp2_with (at_builtin; refine wpList_appI Try.underlying29 Try.infoJ _ rfl (.tmp 34) (.tmp 42) rfl w0.heap.size _ (P ++ [(x1, x2, x3, x4)]) rfl hOaA hzA w6.heap.size 0 1 [(z1, z2, z3, z4)] 1 rfl rfl hYA (by simp; omega) ?_; intro vA w7 h1A h3A h4A)
          have hBw7 : Below w0.heap.size w0 w7 := hBaA.trans ⟨h3A.os, h3A.tape, h3A.output, h3A.size, fun q hq => h3A.block q (by omega) (fun e => by have := (hOaA.lt q e.symm).1; omega)⟩
          clear h3A h4A hYA
          go_wp2_with fail
          go_roundg (gk - 1)
          case rel => exact ⟨k + 1, by omega, by go_num, by rw [HD.out], by rw [HS.out]; exact h1A, hBw7⟩
          case measure => omega
    · obtain rfl : k = N := by omega
      rw [HALL.out] at hO ⊢
      have hoi := HOI L
      rw [HM.out] at hoi
      have hXk := hX.below hBk
      have y0 := hXk.c0
      have y1 := hXk.c1
      have y2 := hXk.c2
      have y3 := hXk.c3
      simp only at y0 y1 y2 y3
      have hll : (outS (x1, x2, x3, x4) L).length ≤ 41 := Nat.le_trans (out_length _ _) (by omega)
      generalize outS (x1, x2, x3, x4) L = P at *
      generalize L.any (ltI (x1, x2, x3, x4)) = dn at *
      have hur := (hBk.block r hrz0).trans hu0
      cases dn
      case true =>
        simp only [if_true] at hoi
        have f1 : wr.frozen? ⟨r, 0, none⟩ = false := by simp [World.frozen?, hur]
        obtain ⟨av, acap, rfl⟩ := hO.ri.len
        have hend := Rq.set hr0 (hO.mono (B := B) (by omega)) ⟨u, hur⟩
        go_wp2_with fail
        go_end0
        exact ⟨rfl, by rw [hoi.out]; exact hend, (But.of (b0.trans (hBk.mono (by omega)))).setCell _⟩
      case false =>
        simp only [Bool.false_eq_true, if_false] at hoi
        have bc := below_alloc wr (.cells #[.int .i64 x1, .int .u64 x2, .int .i64 x3, .int .i64 x4] 63)
        have hB4 := hBk.trans (bc.mono hz)
        have hO4 := hO.below bc
        have hY := Ri.one (Bi.new 63 x1 x2 x3 x4 wr)
        have hz4 := hB4.size
        clear bc
        go_upto_region 12 with (at_builtin; refine wpList_appI Try.underlying29 Try.infoJ _ rfl (.tmp 46) (.tmp 48) rfl w0.heap.size _ P rfl hO4 hz4 wr.heap.size 0 1 [(x1, x2, x3, x4)] 1 rfl rfl hY (by simp; omega) ?_; intro v' w6 h1 h3 h4)
        have hB5 : Below w0.heap.size w0 w6 := hB4.trans ⟨h3.os, h3.tape, h3.output, h3.size, fun q hq => h3.block q (by omega) (fun e => by have := (hO4.lt q e.symm).1; omega)⟩
        clear h3 h4 hY
        have hur := (hB5.block r hrz0).trans hu0
        have f1 : w6.frozen? ⟨r, 0, none⟩ = false := by simp [World.frozen?, hur]
        have c6 := (World.cell?_of_block (w := w0) (hB5.block r hrz0)).trans hc0
        obtain ⟨av, acap, rfl⟩ := h1.ri.len
        have hend := Rq.set hr0 (h1.mono (B := B) (by omega)) ⟨u, hur⟩
        simp only [List.length_append, List.length_cons, List.length_nil, Nat.zero_add] at hend
        go_wp2_with fail
        go_end0
        exact ⟨rfl, by rw [hoi.out]; exact hend, (But.of (b0.trans (hB5.mono (by omega)))).setCell _⟩

set_option maxHeartbeats 1000000 in
theorem ritems_any (B r : Nat) (L : List Itm) (hL : L.length ≤ 40) (w : World) (hR : Rq B r L w) :
    Calls Try.prog 20 #[.pointer (some ⟨r, 0, none⟩)] w fun e w' => (∃ v, e = .returned v ∧ OwI 63 w.heap.size v L w') ∧ Below w.heap.size w w' := by
  have had := hR.ad
  obtain ⟨a, cap, hc, hf, hcap, hRi, hown⟩ := hR.cells
  have ba := below_alloc w (.cells #[] 63)
  have hE := OwI.empty (B := w.heap.size) (heap_alloc_new w (.cells #[] 63)) (Nat.le_refl _)
  obtain ⟨w0, HW0⟩ : ∃ w0, Hid (w0 = w.alloc (.cells #[] 63)) := ⟨_, rfl⟩
  rw [← HW0.out] at ba hE
  have hc0 := (World.cell?_of_block (w := w) (ba.block r hR.lt)).trans hc
  have hRi0 := hRi.below ba
  have hz := ba.size
  rcases had a _ _ hc with rfl | ⟨g, off, rfl⟩
  · obtain rfl : L = [] := by
      obtain ⟨_, _, e, h1, h2, h3⟩ := hRi
      cases e
      rcases h3 with h3 | ⟨_, _, e, _⟩
      · exact List.length_eq_zero_iff.1 h3
      · cases e
    go_enter Try.func20, Try.ntmps20
    go_upto_region 2 with fail
    rw [← HW0.out]
    go_wp2_with fail
    go_ret
    exact ⟨⟨_, rfl, hE⟩, ba⟩
  · go_enter Try.func20, Try.ntmps20
    go_upto_region 2 with fail
    rw [← HW0.out]
    go_wp2_with (at_builtin; refine wpList_appI Try.underlying29 Try.infoJ _ rfl (.tmp 5) (.tmp 9) rfl w.heap.size _ [] rfl hE hz g off cap L L.length rfl rfl hRi0 (by simp; omega) ?_; intro v' w6 h1 h3 h4)
    have hB5 : Below w.heap.size w w6 := ba.trans ⟨h3.os, h3.tape, h3.output, h3.size, fun q hq => h3.block q (by omega) (fun e => by have := (hE.lt q e.symm).1; omega)⟩
    go_ret
    exact ⟨⟨_, rfl, h1⟩, hB5⟩
end Go.Proofs.Ytagdacfgpgcbcaa
