/-
  The reference's put, Items. The reference's Put. The reference's Take.
-/
import Derived.Test.YtpoofjnfaijjjaaGreatDoorMURfq
namespace Go.Proofs.YtpoofjnfaijjjaaGreatDoor.Ru
open Go.RowKit Go.Maps Go.Proofs.YtpoofjnfaijjjaaGreatDoor.Ro
def Kb (w0 : World) (w : World) : Prop := Below w0.heap.size w0 w
theorem Kb.on {w0 : World} {x : Kept (Kb w0)} {w : World} (h : Below x.at_.heap.size x.at_ w) : ∃ y : Kept (Kb w0), w = y.at_ := ⟨⟨w, Below.trans x.is (h.mono (Below.size x.is))⟩, rfl⟩
theorem Kb.cell {w0 : World} {a : Addr} {v : Value} (h : w0.cell? a = some v) (x : Kept (Kb w0)) : x.at_.cell? a = some v := by
  have e := Below.block x.is a.block (World.block_lt_of_cell? _ _ h)
  exact (World.cell?_of_block (w := w0) e).trans h
theorem Kb.start (w0 : World) : Kb w0 w0.drew := Below.drew' (Below.refl _ _)
def outS (x : Itm) (l : List Itm) : List Itm := if l.any (ltI x) then insQ x l else l
theorem ins_none {x : Itm} {l : List Itm} (h : l.any (ltI x) = false) : insQ x l = l ++ [x] := by
  induction l with
  | nil => rfl
  | cons y r ih =>
    rw [List.any_cons, Bool.or_eq_false_iff] at h
    unfold insQ
    rw [h.1]
    simp [ih h.2]
theorem ins_snoc {x y : Itm} {l : List Itm} (h : l.any (ltI x) = true) : insQ x (l ++ [y]) = insQ x l ++ [y] := by
  induction l with
  | nil => cases h
  | cons z r ih =>
    rw [List.cons_append]
    unfold insQ
    cases hz : ltI x z
    · rw [List.any_cons, hz, Bool.false_or] at h
      simp [ih h]
    · simp
theorem out_snoc (x y : Itm) (l : List Itm) : outS x (l ++ [y]) = if l.any (ltI x) then outS x l ++ [y] else if ltI x y then (outS x l ++ [x]) ++ [y] else outS x l ++ [y] := by
  unfold outS
  rw [List.any_append]
  cases h : l.any (ltI x)
  · simp only [Bool.false_or, Bool.false_eq_true, if_false, List.any_cons, List.any_nil, Bool.or_false]
    cases hy : ltI x y
    · simp
    · simp only [if_true]
      have e : ∀ l : List Itm, l.any (ltI x) = false → insQ x (l ++ [y]) = (l ++ [x]) ++ [y] := by
        intro l
        induction l with
        | nil => intro _; simp [insQ, hy]
        | cons z r ih =>
          intro h
          rw [List.any_cons, Bool.or_eq_false_iff] at h
          rw [List.cons_append]
          unfold insQ
          rw [h.1]
          simp [ih h.2]
      exact e l h
  · simp [ins_snoc h]
theorem out_ins (x : Itm) (l : List Itm) : insQ x l = if l.any (ltI x) then outS x l else outS x l ++ [x] := by
  unfold outS
  cases h : l.any (ltI x)
  · simp [ins_none h]
  · simp
theorem out_length (x : Itm) (l : List Itm) : (outS x l).length ≤ l.length + 1 := by
  unfold outS
  split
  · rw [insQ_length]; exact Nat.le_refl _
  · omega
set_option maxHeartbeats 4000000 in
set_option maxRecDepth 100000 in
theorem rput_any (G : Nat → Prop) (r : Nat) (L : List Itm) (hL : L.length ≤ 40) (x : Itm) (w : World) (hR : Rq G r L w) (hB : ∀ g, w.heap.size ≤ g → G g) :
    Calls Tryz.prog 75 #[.pointer (some ⟨r, 0, none⟩), itmV x] w fun e w' => e = .returned (.tuple #[]) ∧ Rq G r (insQ x L) w' ∧ But w.heap.size r w w' := by
  obtain ⟨x1, x2, x3, x4⟩ := x
  obtain ⟨a, cap, hc, hf, hcap, hRi, hown⟩ := hR.cells
  have b0 := below_alloc w (.cells #[.int .i64 x1, .int .u64 x2, .int .i64 x3, .int .i64 x4] 153)
  have hX := Bi.new 153 x1 x2 x3 x4 w
  obtain ⟨w0, HW0⟩ : ∃ w0, Hid (w0 = w.alloc (.cells #[.int .i64 x1, .int .u64 x2, .int .i64 x3, .int .i64 x4] 153)) := ⟨_, rfl⟩
  rw [← HW0.out] at b0 hX
  have ba := below_alloc w0 (.cells #[] 153)
  have hE := OwI.empty (B := w0.heap.size) (heap_alloc_new w0 (.cells #[] 153)) (Nat.le_refl _)
  have hX1 := hX.below ba
  have hu := hR.one
  have hrz := hR.lt
  obtain ⟨N, HN⟩ : ∃ N, Hid (L.length = N) := ⟨_, rfl⟩
  have hc' := hc
  rw [HN.out] at hc'
  have HALL : Hid (L.take N = L) := by rw [← HN.out, List.take_length]; exact rfl
  have hr0 := hR.lt_
  clear hR hc
  obtain ⟨M, HM⟩ : ∃ M, Hid (insQ (x1, x2, x3, x4) L = M) := ⟨_, rfl⟩
  rw [HM.out]
  have hNc : (N : Int) ≤ cap := by rw [← HN.out]; omega
  have hNl : N ≤ 40 := by rw [← HN.out]; exact hL
  have hah := fun (y1 y2 y3 y4 : Int) (w : World) => ahead_any (x1, x2, x3, x4) (y1, y2, y3, y4) w
  unfold itmV at hah ⊢
  simp only at hah ⊢
  have hgl : w.heap.size < w0.heap.size := hX.lt
  have hc0 := (World.cell?_of_block (w := w) (b0.block r hrz)).trans hc'
  have hRi0 := hRi.below b0
  have hrz0 : r < w0.heap.size := Nat.lt_of_lt_of_le hrz b0.size
  obtain ⟨u, hu⟩ := hu
  have hu0 := (b0.block r hrz).trans hu
  have HOI := fun l => show Hid (insQ (x1, x2, x3, x4) l = if l.any (ltI (x1, x2, x3, x4)) then outS (x1, x2, x3, x4) l else outS (x1, x2, x3, x4) l ++ [(x1, x2, x3, x4)]) from out_ins (x1, x2, x3, x4) l
  have hszb := b0.size
  clear hRi hc' hu hown hf hcap
  go_enter Tryz.func75, Tryz.ntmps75
  go_upto_region 1 with fail
  rw [← HW0.out]
  clear HW0
  generalize hgx : w.heap.size = gx at *
  go_wp2_with fail
  go_loopg [4, 5, 6] N (fun gk t4 t5 t6 wr => ∃ k : Nat, k + gk = N ∧ t6 = .int .i64 k ∧ t5 = .bool ((L.take k).any (ltI (x1, x2, x3, x4))) ∧ OwI 153 w0.heap.size t4 (outS (x1, x2, x3, x4) (L.take k)) wr ∧ Below w0.heap.size w0 wr)
  case atStart => exact ⟨0, by omega, rfl, rfl, hE, ba⟩
  case round =>
    clear hE ba hX1
    obtain ⟨k, hk, rfl, rfl, hO, hBk⟩ := hrel
    have c1 := (World.cell?_of_block (w := w0) (hBk.block r hrz0)).trans hc0
    have hz := hBk.size
    by_cases hlt : (k : Int) < N
    · have hkl : k < L.length := by rw [HN.out]; omega
      have hRk := hRi0.below hBk
      obtain ⟨g, off, rfl, d0, d1, d2, d3⟩ := hRk.at_ hkl
      have hg0 : g < w0.heap.size := by obtain ⟨g', off', e', d', _⟩ := hRi0.at_ hkl; cases e'; exact World.block_lt_of_cell? _ _ d'
      have hXk := hX.below hBk
      have y0 := hXk.c0
      have y1 := hXk.c1
      have y2 := hXk.c2
      have y3 := hXk.c3
      have HS : Hid (outS (x1, x2, x3, x4) (L.take (k + 1)) = if (L.take k).any (ltI (x1, x2, x3, x4)) then outS (x1, x2, x3, x4) (L.take k) ++ [L[k]] else if ltI (x1, x2, x3, x4) L[k] then (outS (x1, x2, x3, x4) (L.take k) ++ [(x1, x2, x3, x4)]) ++ [L[k]] else outS (x1, x2, x3, x4) (L.take k) ++ [L[k]]) := by
        rw [← List.take_append_getElem hkl, out_snoc]
        exact rfl
      have HD : Hid ((L.take (k + 1)).any (ltI (x1, x2, x3, x4)) = ((L.take k).any (ltI (x1, x2, x3, x4)) || ltI (x1, x2, x3, x4) L[k])) := by
        rw [← List.take_append_getElem hkl, List.any_append]
        show _ = _
        simp
      have hll : (outS (x1, x2, x3, x4) (L.take k)).length ≤ 41 := Nat.le_trans (out_length _ _) (by rw [List.length_take]; omega)
      clear HOI hRk
      generalize L[k] = yy at *
      obtain ⟨z1, z2, z3, z4⟩ := yy
      simp only at d0 d1 d2 d3 y0 y1 y2 y3
      have hah2 := hah z1 z2 z3 z4
      clear hah
      generalize ltI (x1, x2, x3, x4) (z1, z2, z3, z4) = bb at *
      generalize outS (x1, x2, x3, x4) (L.take k) = P at *
      generalize (L.take k).any (ltI (x1, x2, x3, x4)) = dn at *
      have k0 : (0 : Int) ≤ k := by omega
      have hne : Nonempty (Kept (Kb wr)) := ⟨⟨_, Kb.start wr⟩⟩
      have q0 := Kb.cell d0
      have q1 := Kb.cell d1
      have q2 := Kb.cell d2
      have q3 := Kb.cell d3
      have p0 := Kb.cell y0
      have p1 := Kb.cell y1
      have p2 := Kb.cell y2
      have p3 := Kb.cell y3
      have s0 := Kb.cell c1
      cases dn
      case true =>
        simp only [if_true, Bool.true_or] at HS HD
        go_wp2_with fail
        refine wp_region_kept (Kb wr) (by kernel_rfl) (by kernel_rfl) (Kb.start wr) ?_
        repeat (go_big_quiet_step (fail))
        refine wpQuiet_nil ?_
        intro w5 h5
        clear q0 q1 q2 q3 p0 p1 p2 p3 s0 hne
        have hB5 : Below w0.heap.size w0 w5 := hBk.trans (Below.mono h5 hz)
        have hO5 := hO.below h5
        have cc := (World.cell?_of_block (w := wr) (Below.block h5 r (by omega))).trans c1
        have e0 := (World.cell?_of_block (w := wr) (Below.block h5 g (World.block_lt_of_cell? _ _ d0))).trans d0
        have e1 := (World.cell?_of_block (w := wr) (Below.block h5 g (World.block_lt_of_cell? _ _ d0))).trans d1
        have e2 := (World.cell?_of_block (w := wr) (Below.block h5 g (World.block_lt_of_cell? _ _ d0))).trans d2
        have e3 := (World.cell?_of_block (w := wr) (Below.block h5 g (World.block_lt_of_cell? _ _ d0))).trans d3
        clear d0 d1 d2 d3 c1 y0 y1 y2 y3
        have bcA := below_alloc w5 (.cells #[.int .i64 z1, .int .u64 z2, .int .i64 z3, .int .i64 z4] 153)
        have hBaA := hB5.trans (bcA.mono hB5.size)
        have hOaA := hO5.below bcA
        have hYA := Ri.one (Bi.new 153 z1 z2 z3 z4 w5)
        have hzA := hBaA.size
        clear bcA
        go_wp2_with (at_builtin; refine wpList_appI Tryz.underlying98 Tryz.infoJ _ rfl (.tmp 34) (.tmp 42) rfl w0.heap.size _ P rfl hOaA hzA w5.heap.size 0 1 [(z1, z2, z3, z4)] 1 rfl rfl hYA (by simp; omega) ?_; intro vA w6 h1A h3A h4A)
        have hBw6 : Below w0.heap.size w0 w6 := hBaA.trans ⟨h3A.os, h3A.tape, h3A.output, h3A.size, fun q hq => h3A.block q (by omega) (fun e => by have := (hOaA.lt q e.symm).1; omega)⟩
        clear h3A h4A hYA
        go_wp2_with fail
        go_roundg (gk - 1)
        case rel => exact ⟨k + 1, by omega, by go_num, by rw [HD.out], by rw [HS.out]; exact h1A, hBw6⟩
        case measure => omega
      case false =>
        simp only [Bool.false_eq_true, if_false, Bool.false_or] at HS HD
        go_wp2_with fail
        refine wp_region_kept (Kb wr) (by kernel_rfl) (by kernel_rfl) (Kb.start wr) ?_
        repeat (go_big_quiet_step (first | (refine (hah2 _).mono ?_; rintro e w4 ⟨rfl, hb4⟩; exact ⟨rfl, Kb.on hb4⟩)))
        refine wpQuiet_nil ?_
        intro w5 h5
        clear q0 q1 q2 q3 p0 p1 p2 p3 s0 hne
        have hB5 : Below w0.heap.size w0 w5 := hBk.trans (Below.mono h5 hz)
        have hO5 := hO.below h5
        have cc := (World.cell?_of_block (w := wr) (Below.block h5 r (by omega))).trans c1
        have e0 := (World.cell?_of_block (w := wr) (Below.block h5 g (World.block_lt_of_cell? _ _ d0))).trans d0
        have e1 := (World.cell?_of_block (w := wr) (Below.block h5 g (World.block_lt_of_cell? _ _ d0))).trans d1
        have e2 := (World.cell?_of_block (w := wr) (Below.block h5 g (World.block_lt_of_cell? _ _ d0))).trans d2
        have e3 := (World.cell?_of_block (w := wr) (Below.block h5 g (World.block_lt_of_cell? _ _ d0))).trans d3
        have f0 := (World.cell?_of_block (w := wr) (Below.block h5 gx (by omega))).trans y0
        have f1 := (World.cell?_of_block (w := wr) (Below.block h5 gx (by omega))).trans y1
        have f2 := (World.cell?_of_block (w := wr) (Below.block h5 gx (by omega))).trans y2
        have f3 := (World.cell?_of_block (w := wr) (Below.block h5 gx (by omega))).trans y3
        clear d0 d1 d2 d3 c1 y0 y1 y2 y3
        cases bb
        case false =>
          simp only [Bool.false_eq_true, if_false] at HS
          have bcA := below_alloc w5 (.cells #[.int .i64 z1, .int .u64 z2, .int .i64 z3, .int .i64 z4] 153)
          have hBaA := hB5.trans (bcA.mono hB5.size)
          have hOaA := hO5.below bcA
          have hYA := Ri.one (Bi.new 153 z1 z2 z3 z4 w5)
          have hzA := hBaA.size
          clear bcA
          go_wp2_with (at_builtin; refine wpList_appI Tryz.underlying98 Tryz.infoJ _ rfl (.tmp 34) (.tmp 42) rfl w0.heap.size _ P rfl hOaA hzA w5.heap.size 0 1 [(z1, z2, z3, z4)] 1 rfl rfl hYA (by simp; omega) ?_; intro vA w6 h1A h3A h4A)
          have hBw6 : Below w0.heap.size w0 w6 := hBaA.trans ⟨h3A.os, h3A.tape, h3A.output, h3A.size, fun q hq => h3A.block q (by omega) (fun e => by have := (hOaA.lt q e.symm).1; omega)⟩
          clear h3A h4A hYA
          go_wp2_with fail
          go_roundg (gk - 1)
          case rel => exact ⟨k + 1, by omega, by go_num, by rw [HD.out], by rw [HS.out]; exact h1A, hBw6⟩
          case measure => omega
        case true =>
          simp only [if_true] at HS
          have bcB := below_alloc w5 (.cells #[.int .i64 x1, .int .u64 x2, .int .i64 x3, .int .i64 x4] 153)
          have hBaB := hB5.trans (bcB.mono hB5.size)
          have hOaB := hO5.below bcB
          have hYB := Ri.one (Bi.new 153 x1 x2 x3 x4 w5)
          have hzB := hBaB.size
          clear bcB
          go_upto_region 9 with (at_builtin; refine wpList_appI Tryz.underlying98 Tryz.infoJ _ rfl (.tmp 30) (.tmp 32) rfl w0.heap.size _ P rfl hOaB hzB w5.heap.size 0 1 [(x1, x2, x3, x4)] 1 rfl rfl hYB (by simp; omega) ?_; intro vB w6 h1B h3B h4B)
          have hBw6 : Below w0.heap.size w0 w6 := hBaB.trans ⟨h3B.os, h3B.tape, h3B.output, h3B.size, fun q hq => h3B.block q (by omega) (fun e => by have := (hOaB.lt q e.symm).1; omega)⟩
          have hz6 := h3B.size
          have hg5 : g < w5.heap.size := World.block_lt_of_cell? _ _ e0
          have hgo : g < w0.heap.size := hg0
          have hr5 : r < w5.heap.size := World.block_lt_of_cell? _ _ cc
          have keepq : ∀ q, q < w0.heap.size → w6.heap[q]? = w5.heap[q]? := fun q hq => (hBw6.block q hq).trans (hB5.block q hq).symm
          have cc6 := (World.cell?_of_block (w := w5) (keepq r hrz0)).trans cc
          have e06 := (World.cell?_of_block (w := w5) (keepq g hgo)).trans e0
          have e16 := (World.cell?_of_block (w := w5) (keepq g hgo)).trans e1
          have e26 := (World.cell?_of_block (w := w5) (keepq g hgo)).trans e2
          have e36 := (World.cell?_of_block (w := w5) (keepq g hgo)).trans e3
          clear h3B h4B hYB cc e0 e1 e2 e3 f0 f1 f2 f3 hOaB hO5
          have bcA := below_alloc w6 (.cells #[.int .i64 z1, .int .u64 z2, .int .i64 z3, .int .i64 z4] 153)
          have hBaA := hBw6.trans (bcA.mono hBw6.size)
          have hOaA := h1B.below bcA
          have hYA := Ri.one (Bi.new 153 z1 z2 z3 z4 w6)
          have hzA := hBaA.size
          clear bcA
          go_wp2_with (at_builtin; refine wpList_appI Tryz.underlying98 Tryz.infoJ _ rfl (.tmp 34) (.tmp 42) rfl w0.heap.size _ (P ++ [(x1, x2, x3, x4)]) rfl hOaA hzA w6.heap.size 0 1 [(z1, z2, z3, z4)] 1 rfl rfl hYA (by simp; omega) ?_; intro vA w7 h1A h3A h4A)
          have hBw7 : Below w0.heap.size w0 w7 := hBaA.trans ⟨h3A.os, h3A.tape, h3A.output, h3A.size, fun q hq => h3A.block q (by omega) (fun e => by have := (hOaA.lt q e.symm).1; omega)⟩
          clear h3A h4A hYA
          go_wp2_with fail
          go_roundg (gk - 1)
          case rel => exact ⟨k + 1, by omega, by go_num, by rw [HD.out], by rw [HS.out]; exact h1A, hBw7⟩
          case measure => omega
    · obtain rfl : k = N := by omega
      rw [HALL.out] at hO ⊢
      have hoi := HOI L
      rw [HM.out] at hoi
      have hXk := hX.below hBk
      have y0 := hXk.c0
      have y1 := hXk.c1
      have y2 := hXk.c2
      have y3 := hXk.c3
      simp only at y0 y1 y2 y3
      have hll : (outS (x1, x2, x3, x4) L).length ≤ 41 := Nat.le_trans (out_length _ _) (by omega)
      generalize outS (x1, x2, x3, x4) L = P at *
      generalize L.any (ltI (x1, x2, x3, x4)) = dn at *
      have hur := (hBk.block r hrz0).trans hu0
      cases dn
      case true =>
        simp only [if_true] at hoi
        have f1 : wr.frozen? ⟨r, 0, none⟩ = false := by simp [World.frozen?, hur]
        obtain ⟨av, acap, rfl⟩ := hO.ri.len
        have hend := Rq.set hr0 hO (fun g h => hB g (by omega)) ⟨u, hur⟩
        go_wp2_with fail
        go_end0
        exact ⟨rfl, by rw [hoi.out]; exact hend, (But.of (b0.trans (hBk.mono (by omega)))).setCell _⟩
      case false =>
        simp only [Bool.false_eq_true, if_false] at hoi
        have bc := below_alloc wr (.cells #[.int .i64 x1, .int .u64 x2, .int .i64 x3, .int .i64 x4] 153)
        have hB4 := hBk.trans (bc.mono hz)
        have hO4 := hO.below bc
        have hY := Ri.one (Bi.new 153 x1 x2 x3 x4 wr)
        have hz4 := hB4.size
        clear bc
        go_upto_region 12 with (at_builtin; refine wpList_appI Tryz.underlying98 Tryz.infoJ _ rfl (.tmp 46) (.tmp 48) rfl w0.heap.size _ P rfl hO4 hz4 wr.heap.size 0 1 [(x1, x2, x3, x4)] 1 rfl rfl hY (by simp; omega) ?_; intro v' w6 h1 h3 h4)
        have hB5 : Below w0.heap.size w0 w6 := hB4.trans ⟨h3.os, h3.tape, h3.output, h3.size, fun q hq => h3.block q (by omega) (fun e => by have := (hO4.lt q e.symm).1; omega)⟩
        clear h3 h4 hY
        have hur := (hB5.block r hrz0).trans hu0
        have f1 : w6.frozen? ⟨r, 0, none⟩ = false := by simp [World.frozen?, hur]
        have c6 := (World.cell?_of_block (w := w0) (hB5.block r hrz0)).trans hc0
        obtain ⟨av, acap, rfl⟩ := h1.ri.len
        have hend := Rq.set hr0 h1 (fun g h => hB g (by omega)) ⟨u, hur⟩
        simp only [List.length_append, List.length_cons, List.length_nil, Nat.zero_add] at hend
        go_wp2_with fail
        go_end0
        exact ⟨rfl, by rw [hoi.out]; exact hend, (But.of (b0.trans (hB5.mono (by omega)))).setCell _⟩
set_option maxHeartbeats 1000000 in
theorem ritems_any (G : Nat → Prop) (r : Nat) (L : List Itm) (hL : L.length ≤ 40) (w : World) (hR : Rq G r L w) :
    Calls Tryz.prog 143 #[.pointer (some ⟨r, 0, none⟩)] w fun e w' => (∃ v, e = .returned v ∧ OwI 153 w.heap.size v L w') ∧ Below w.heap.size w w' := by
  have had := hR.ad
  obtain ⟨a, cap, hc, hf, hcap, hRi, hown⟩ := hR.cells
  have ba := below_alloc w (.cells #[] 153)
  have hE := OwI.empty (B := w.heap.size) (heap_alloc_new w (.cells #[] 153)) (Nat.le_refl _)
  obtain ⟨w0, HW0⟩ : ∃ w0, Hid (w0 = w.alloc (.cells #[] 153)) := ⟨_, rfl⟩
  rw [← HW0.out] at ba hE
  have hc0 := (World.cell?_of_block (w := w) (ba.block r hR.lt)).trans hc
  have hRi0 := hRi.below ba
  have hz := ba.size
  rcases had a _ _ hc with rfl | ⟨g, off, rfl⟩
  · obtain rfl : L = [] := by
      obtain ⟨_, _, e, h1, h2, h3⟩ := hRi
      cases e
      rcases h3 with h3 | ⟨_, _, e, _⟩
      · exact List.length_eq_zero_iff.1 h3
      · cases e
    go_enter Tryz.func143, Tryz.ntmps143
    go_upto_region 2 with fail
    rw [← HW0.out]
    go_wp2_with fail
    go_ret
    exact ⟨⟨_, rfl, hE⟩, ba⟩
  · go_enter Tryz.func143, Tryz.ntmps143
    go_upto_region 2 with fail
    rw [← HW0.out]
    go_wp2_with (at_builtin; refine wpList_appI Tryz.underlying98 Tryz.infoJ _ rfl (.tmp 5) (.tmp 9) rfl w.heap.size _ [] rfl hE hz g off cap L L.length rfl rfl hRi0 (by simp; omega) ?_; intro v' w6 h1 h3 h4)
    have hB5 : Below w.heap.size w w6 := ba.trans ⟨h3.os, h3.tape, h3.output, h3.size, fun q hq => h3.block q (by omega) (fun e => by have := (hE.lt q e.symm).1; omega)⟩
    go_ret
    exact ⟨⟨_, rfl, h1⟩, hB5⟩
theorem Rq.cut {G : Nat → Prop} {r : Nat} {M : List Itm} {w : World} (h : Rq G r M w) {a : Option Addr} {N cap : Nat} (hN : M.length = N) (hc : w.cell? ⟨r, 0, none⟩ = some (.slice a N cap)) (q : Nat) (hq : q ≤ N) : Rq G r (M.take q) (w.setCell ⟨r, 0, none⟩ (.slice a q cap)) := by
  obtain ⟨a', cap', h1, h2, h3, h4⟩ := h.is
  have e : Value.slice a' M.length cap' = .slice a N cap := by simpa [World.cell?, h1] using hc
  cases e
  have hl : (M.take q).length = q := by rw [List.length_take]; omega
  refine ⟨h.lt_, a, cap, ?_, ?_, ?_, h4⟩
  · rw [hl]; simp [World.setCell, Array.getElem?_modify, h1]
  · rw [hl]
    exact Ri.keep2 (w := w) (h2.take rfl q hq) (fun g off x hg _ => Below.heap_setCell _ _ _ _ (show g ≠ r from fun e => h.lt_ (e ▸ (h3 g (by cases a with | none => cases hg | some y => exact hg)).1)))
  · intro g hg
    obtain ⟨k1, cur, k2⟩ := h3 g (by cases a with | none => cases hg | some y => exact hg)
    exact ⟨k1, cur, (Below.heap_setCell _ _ _ _ (show g ≠ r from fun e => h.lt_ (e ▸ k1))).trans k2⟩
theorem But.keepBx {B r : Nat} {w w' : World} {T : TypeId} {g : Nat} {n i s : Int} (k : But B r w w') (h : Bx T g n i s w) (hg : g < B) (hr : g ≠ r) : Bx T g n i s w' := h.keep (k.block g hg hr)
theorem stale_snoc (l : List Itm) (x : Itm) (u : Int × Int × Int) : staleQ (l ++ [x]) u = (staleQ l u || ((x.1 == u.1) && !newerS u.2.1 u.2.2 x.2.1 x.2.2.1)) := by
  unfold staleQ
  rw [List.any_append]
  simp
set_option maxHeartbeats 4000000 in
set_option maxRecDepth 100000 in
theorem fput_any (G : Nat → Prop) (r : Nat) (L : List Itm) (hL : L.length ≤ 32) (n i s : Int) (w : World) (hR : Rq G r L w) (hB : ∀ g, w.heap.size ≤ g → G g) :
    Calls Tryz.prog 35 #[.pointer (some ⟨r, 0, none⟩), .agg #[.int .i64 n, .int .u64 i, .int .i64 s]] w fun e w' => e = .returned (.int .i64 (putE L (n, i, s))) ∧ Rq G r (putQ L (n, i, s)) w' ∧ But w.heap.size r w w' := by
  have hX := Bx.new 39 n i s w
  have b0 := below_alloc w (.cells #[.int .i64 n, .int .u64 i, .int .i64 s] 39)
  obtain ⟨w0, HW0⟩ : ∃ w0, Hid (w0 = w.alloc (.cells #[.int .i64 n, .int .u64 i, .int .i64 s] 39)) := ⟨_, rfl⟩
  rw [← HW0.out] at b0 hX
  have hR0 := hR.below b0
  have hrz := hR.lt
  have hr0 := hR.lt_
  clear hR
  obtain ⟨E, HE⟩ : ∃ E, Hid (putE L (n, i, s) = E) := ⟨_, rfl⟩
  obtain ⟨Q, HQ⟩ : ∃ Q, Hid (putQ L (n, i, s) = Q) := ⟨_, rfl⟩
  rw [HE.out, HQ.out]
  obtain ⟨N, HN⟩ : ∃ N, Hid (L.length = N) := ⟨_, rfl⟩
  have HALL : Hid (L.take N = L) := by rw [← HN.out, List.take_length]; exact rfl
  have hNl : N ≤ 32 := by rw [← HN.out]; exact hL
  obtain ⟨my, HM⟩ : ∃ b, Hid (mayS n s = b) := ⟨_, rfl⟩
  have hzb := b0.size
  have x0 := hX.c0
  have x1 := hX.c1
  have x2 := hX.c2
  have hgx0 := hX.lt
  go_enter Tryz.func35, Tryz.ntmps35
  go_upto_region 1 with fail
  rw [← HW0.out]
  clear HW0
  generalize hgx : w.heap.size = gx at *
  go_wp2_with fail
  refine (fmay_any _ _ _ _).mono ?_
  rw [HM.out]
  rintro e w1 ⟨rfl, hb1⟩
  have hR1 := hR0.below hb1
  have hX1 := hX.below hb1
  have hB1 : Below gx w w1 := b0.trans (hb1.mono hzb)
  have hz1 : gx < w1.heap.size := hX1.lt
  clear x0 x1 x2 hR0 hX b0 hb1 hgx0
  cases my
  case false =>
    go_wp2_with fail
    go_ret
    exact ⟨by rw [← HE.out]; simp [putE, HM.out], by rw [← HQ.out]; simpa [putQ, HM.out] using hR1, by rw [hgx]; exact But.of hB1⟩
  case true =>
    obtain ⟨a, cap, hc, hf, hcap, hRi, hown⟩ := hR1.cells
    rw [HN.out] at hc hcap
    have hNc : (N : Int) ≤ cap := by omega
    have hr1 : r < w1.heap.size := hR1.lt
    go_wp2_with fail
    go_loopg [5] N (fun gk t5 wr => ∃ k : Nat, k + gk = N ∧ t5 = .int .i64 k ∧ staleQ (L.take k) (n, i, s) = false ∧ Below w1.heap.size w1 wr)
    case atStart => exact ⟨0, by omega, rfl, rfl, Below.refl _ _⟩
    case round =>
      obtain ⟨k, hk, rfl, hst, hBk⟩ := hrel
      have HST : Hid (staleQ (L.take k) (n, i, s) = false) := hst
      clear hst
      have hXk := hX1.below hBk
      have x0 := hXk.c0
      have x1 := hXk.c1
      have x2 := hXk.c2
      have c1 := (World.cell?_of_block (w := w1) (hBk.block r hr1)).trans hc
      have hz := hBk.size
      by_cases hlt : (k : Int) < N
      · have hkl : k < L.length := by rw [HN.out]; omega
        obtain ⟨g, off, rfl, d0, d1, d2, d3⟩ := (hRi.below hBk).at_ hkl
        have HS : Hid (staleQ (L.take (k + 1)) (n, i, s) = ((L[k].1 == n) && !newerS i s L[k].2.1 L[k].2.2.1)) := by
          rw [← List.take_append_getElem hkl, stale_snoc, HST.out, Bool.false_or]
          exact rfl
        have HSA : Hid (((L[k].1 == n) && !newerS i s L[k].2.1 L[k].2.2.1) = true → staleQ L (n, i, s) = true) := fun h => List.any_eq_true.2 ⟨_, List.getElem_mem hkl, h⟩
        generalize L[k] = y at *
        obtain ⟨y1, y2, y3, y4⟩ := y
        simp only at d0 d1 d2 d3 HS HSA
        have k0 : (0 : Int) ≤ k := by omega
        have hne : Nonempty (Kept (Kb wr)) := ⟨⟨_, Kb.start wr⟩⟩
        have q0 := Kb.cell d0
        have q1 := Kb.cell d1
        have q2 := Kb.cell d2
        have p0 := Kb.cell x0
        have p1 := Kb.cell x1
        have p2 := Kb.cell x2
        have s0 := Kb.cell c1
        cases hy : (y1 == n)
        case false =>
          rw [hy, Bool.false_and] at HS
          go_wp2_with fail
          refine wp_region_kept (Kb wr) (by kernel_rfl) (by kernel_rfl) (Kb.start wr) ?_
          repeat (go_big_quiet_step (fail))
          refine wpQuiet_nil ?_
          intro w5 h5
          have hB5 : Below w1.heap.size w1 w5 := hBk.trans (Below.mono h5 hz)
          clear q0 q1 q2 p0 p1 p2 s0 hne
          go_wp2_with fail
          go_roundg (gk - 1)
          case rel => exact ⟨k + 1, by omega, by go_num, HS.out, hB5⟩
          case measure => omega
        case true =>
          obtain ⟨nw, HNW⟩ : ∃ b, Hid (newerS i s y2 y3 = b) := ⟨_, rfl⟩
          rw [hy, Bool.true_and, HNW.out] at HS HSA
          go_wp2_with fail
          refine wp_region_kept (Kb wr) (by kernel_rfl) (by kernel_rfl) (Kb.start wr) ?_
          repeat (go_big_quiet_step (first | (refine (fnewer_any _ _ _ _ _ _ _).mono ?_; rw [HNW.out]; rintro e w4 ⟨rfl, hb4⟩; exact ⟨rfl, Kb.on hb4⟩)))
          refine wpQuiet_nil ?_
          intro w5 h5
          have hB5 : Below w1.heap.size w1 w5 := hBk.trans (Below.mono h5 hz)
          clear q0 q1 q2 p0 p1 p2 s0 hne
          cases nw
          case true =>
            go_wp2_with fail
            go_roundg (gk - 1)
            case rel => exact ⟨k + 1, by omega, by go_num, HS.out, hB5⟩
            case measure => omega
          case false =>
            have hs := HSA.out rfl
            go_wp2_with fail
            go_ret
            exact ⟨by rw [← HE.out]; simp [putE, HM.out, hs], by rw [← HQ.out]; simpa [putQ, HM.out, hs] using hR1.below hB5, by rw [hgx]; exact But.of (hB1.trans (hB5.mono (by omega)))⟩
      · obtain rfl : k = N := by omega
        have hs := HST.out
        rw [HALL.out] at hs
        have HEQ : Hid (E = 0 ∧ Q = (keepQ L (n, i, s, 0)).take 32) := ⟨by rw [← HE.out]; simp [putE, HM.out, hs], by rw [← HQ.out]; simp [putQ, HM.out, hs, updI]⟩
        have hRk := hR1.below hBk
        have hls := less_any G r L (by omega) n wr hRk (fun g h => hB g (by have := hBk.size; omega))
        have hll := lessQ_length_le L n
        clear hs HST HE HQ
        go_wp2_with fail
        refine hls.mono ?_
        rintro e w5 ⟨rfl, hR5, hb5⟩
        have hX5 := hb5.keepBx hXk (by omega) (by omega)
        have x0 := hX5.c0
        have x1 := hX5.c1
        have x2 := hX5.c2
        have hrp := rput_any G r (lessQ L n) (by omega) (n, i, s, 0) w5 hR5 (fun g h => hB g (by have := hb5.size; have := hBk.size; omega))
        have hkl := keepQ_length (L := L) (n, i, s, 0)
        change Calls _ _ _ _ (fun e w' => _ ∧ Rq G r (keepQ L (n, i, s, 0)) w' ∧ _) at hrp
        generalize keepQ L (n, i, s, 0) = M at *
        unfold itmV at hrp
        simp only at hrp
        go_wp2_with fail
        refine hrp.mono ?_
        rintro e w6 ⟨rfl, hR6, hb6⟩
        have hbb : But gx r w w6 := ((But.of (hB1.trans (hBk.mono (by omega)))).trans (hb5.mono (by omega))).trans (hb6.mono (by have := hb5.size; omega))
        clear hls hrp hR5 hb5 hb6 hX5 x0 x1 x2 hRk hXk
        obtain ⟨a6, cap6, c6, f6, hcap6, hRi6, _⟩ := hR6.cells
        by_cases hM : M.length = 33
        · have hcut := hR6.cut hM (by rw [← hM]; exact c6) 32 (by omega)
          rw [hM] at c6 hcap6
          have hc33 : (32 : Int) ≤ cap6 := by omega
          go_wp2_with fail
          go_region
          go_wp2_with fail
          go_ret
          obtain ⟨e1, e2⟩ := HEQ.out
          exact ⟨by rw [e1]; rfl, by rw [e2]; exact hcut.keep rfl (fun _ _ _ _ => rfl), by rw [hgx]; exact (hbb.setCell _).drew⟩
        · have hM2 : ¬ (32 : Int) < M.length := by omega
          have hM3 : (M.length : Int) ≤ 32 := by omega
          go_wp2_with fail
          go_ret
          obtain ⟨e1, e2⟩ := HEQ.out
          exact ⟨by rw [e1]; rfl, by rw [e2, List.take_of_length_le (by omega)]; exact hR6, by rw [hgx]; exact hbb⟩
theorem _root_.Go.Proofs.YtpoofjnfaijjjaaGreatDoor.Ro.Own.but {B C r : Nat} {v : Value} {l : List Upd} {w w' : World} (h : Own C v l w) (k : But B r w w') (hB : w.heap.size ≤ B) (hr : r < C) : Own C v l w' := h.keep fun g hg hlt => k.block g (by omega) (by have := (h.lt g hg).1; omega)
theorem own_ne {B C : Nat} {u v : Value} {l : List Upd} {l' : List Itm} {w : World} (h : Own B u l w) (h' : OwI 153 C v l' w) {g : Nat} (hg : v.ownBlock = some g) : u.ownBlock ≠ some g := by
  intro e
  rcases h.2 with ⟨rfl, _⟩ | ⟨g1, cap, cur, rfl, _, h1, _⟩
  · cases e
  · cases e
    rcases h'.2 with ⟨rfl, _⟩ | ⟨g2, cap2, cur2, rfl, _, h2, _⟩
    · cases hg
    · cases hg
      rw [h1] at h2
      cases h2
theorem own_ne_row {B : Nat} {u : Value} {l : List Upd} {w : World} (h : Own B u l w) {g : Nat} {cur : Array Value} (hg : w.heap[g]? = some (.cells cur 153 (0, 0))) : u.ownBlock ≠ some g := by
  intro e
  rcases h.2 with ⟨rfl, _⟩ | ⟨g1, cap, cur, rfl, _, h1, _⟩
  · cases e
  · cases e
    rw [h1] at hg
    cases hg
theorem OwI.but {B C r : Nat} {T : TypeId} {v : Value} {l : List Itm} {w w' : World} (h : OwI T C v l w) (k : But B r w w') (hB : w.heap.size ≤ B) (hr : r < C) : OwI T C v l w' := h.keep fun g hg hlt => k.block g (by omega) (by have := (h.lt g hg).1; omega)
set_option maxHeartbeats 4000000 in
set_option maxRecDepth 100000 in
theorem ftake_any (G : Nat → Prop) (r : Nat) (L : List Itm) (hL : L.length ≤ 32) (hq : Qi L) (n nodes : Int) (hn : -9223372036854775808 ≤ nodes ∧ nodes ≤ 9223372036854775807) (w : World) (hR : Rq G r L w) (hB : ∀ g, w.heap.size ≤ g → G g) :
    Calls Tryz.prog 99 #[.pointer (some ⟨r, 0, none⟩), .int .i64 n, .int .i64 nodes] w fun e w' => (∃ v, e = .returned v ∧ Own w.heap.size v ((L.take n.toNat).map updOf) w') ∧ Rq G r (takeQ L n (capS nodes)) w' ∧ But w.heap.size r w w' := by
  have hcap := fun w => refCap_any nodes w hn
  obtain ⟨hc0, hc1⟩ := cap_range nodes hn.2
  have ba := below_alloc w (.cells #[] 39)
  have hE := Own.empty (B := w.heap.size) (heap_alloc_new w (.cells #[] 39)) (Nat.le_refl _)
  have hr0 := hR.lt_
  have hrz := hR.lt
  have hR0 := hR.below ba
  obtain ⟨w0, HW0⟩ : ∃ w0, Hid (w0 = w.alloc (.cells #[] 39)) := ⟨_, rfl⟩
  rw [← HW0.out] at ba hE hR0
  have hit := ritems_any G r L (by omega) w0 hR0
  unfold takeQ
  generalize capS nodes = c at *
  have hfold : ∀ k, Qi ((L.take k).foldl (tellQ c) L) ∧ ((L.take k).foldl (tellQ c) L).length ≤ 32 := fun k =>
    ⟨Qi.tells hc1 _ hq (fun x hx => hq.ok x (List.mem_of_mem_take hx)), Nat.le_trans (tells_length hc1 _ hq (fun x hx => List.mem_of_mem_take hx) hq.nodes.take) hL⟩
  have hstep : ∀ k (hk : k < L.length), Hid ((L.take (k + 1)).foldl (tellQ c) L = tellQ c ((L.take k).foldl (tellQ c) L) L[k]) := fun k hk => by
    rw [← List.take_append_getElem hk, List.foldl_append]
    exact rfl
  have hmap : ∀ k (hk : k < L.length), Hid ((L.take (k + 1)).map updOf = (L.take k).map updOf ++ [updOf L[k]]) := fun k hk => by
    rw [← List.take_append_getElem hk, List.map_append]
    exact rfl
  obtain ⟨N, HN⟩ : ∃ N, Hid (L.length = N) := ⟨_, rfl⟩
  have hNl : N ≤ 32 := by rw [← HN.out]; exact hL
  obtain ⟨U, HU⟩ : ∃ U, Hid ((L.take n.toNat).map updOf = U) := ⟨_, rfl⟩
  obtain ⟨T, HT⟩ : ∃ T, Hid ((L.take n.toNat).foldl (tellQ c) L = T) := ⟨_, rfl⟩
  rw [HU.out, HT.out]
  have hzb := ba.size
  clear hR
  go_enter Tryz.func99, Tryz.ntmps99
  go_upto_region 2 with fail
  rw [← HW0.out]
  clear HW0
  go_wp2_with fail
  refine hit.mono ?_
  rintro e w1 ⟨⟨v, rfl, hOv⟩, hb1⟩
  have hR1 := hR0.below hb1
  have hO1 := hE.below hb1
  have hB1 : But w.heap.size r w w1 := But.of (ba.trans (hb1.mono hzb))
  have hvl := hOv.lt
  have hRv := hOv.ri
  have hz1 := hb1.size
  clear hit hR0 hE ba hb1
  obtain ⟨av, acap, rfl⟩ := hRv.len
  have hac : L.length ≤ acap := by obtain ⟨_, _, e, h1, _⟩ := hRv; cases e; exact h1
  rw [HN.out] at hac
  rw [HN.out]
  have hac2 : (N : Int) ≤ acap := by omega
  go_wp2_with fail
  go_loopg [7, 9] N (fun gk t7 t9 wr => ∃ k : Nat, k + gk = N ∧ (k : Int) ≤ max n 0 ∧ t9 = .int .i64 k ∧ Own w.heap.size t7 ((L.take k).map updOf) wr ∧ Rq G r ((L.take k).foldl (tellQ c) L) wr ∧ But w.heap.size r w wr ∧ OwI 153 w0.heap.size (.slice av L.length acap) L wr ∧ w1.heap.size ≤ wr.heap.size)
  case atStart => exact ⟨0, by omega, by omega, rfl, hO1, hR1, hB1, hOv, Nat.le_refl _⟩
  case round =>
    clear hO1 hR1 hB1 hRv hOv
    obtain ⟨k, hk, hkn, rfl, hO, hRk, hBk, hOv, hzk⟩ := hrel
    have hRv := hOv.ri
    have k0 : (0 : Int) ≤ k := by omega
    by_cases hlt : (k : Int) < n ∧ k < N
    · obtain ⟨hlt1, hlt2⟩ := hlt
      have hlt3 : (k : Int) < N := by omega
      have hkl : k < L.length := by rw [HN.out]; exact hlt2
      obtain ⟨g, off, rfl, d0, d1, d2, d3⟩ := hRv.at_ hkl
      have hg : g < wr.heap.size := World.block_lt_of_cell? _ _ d0
      have hgr : g ≠ r := by have := (hvl g rfl).1; omega
      have hxk := hq.ok _ (List.getElem_mem hkl)
      have HS := hstep k hkl
      have HM := hmap k hkl
      obtain ⟨hqk, hlk⟩ := hfold k
      have hul : ((L.take k).map updOf).length ≤ 32 := by rw [List.length_map, List.length_take]; omega
      clear hstep hmap hfold
      obtain ⟨x, HX⟩ : ∃ x : Itm, Hid (L[k] = x) := ⟨L[k], (rfl : L[k] = L[k])⟩
      rw [HX.out] at d0 d1 d2 d3 hxk HS HM
      generalize (L.take k).foldl (tellQ c) L = M at *
      generalize (L.take k).map updOf = V at *
      obtain ⟨x1, x2, x3, x4⟩ := x
      simp only at d0 d1 d2 d3
      have t0 := hxk.t0
      have t1 := hxk.t1
      simp only at t0 t1
      have bc := below_alloc wr (.cells #[.int .i64 x1, .int .u64 x2, .int .i64 x3] 39)
      have hO4 := hO.below bc
      have hY := Ru.one (u := ⟨x1, x2, x3⟩) (Bx.new 39 x1 x2 x3 wr)
      have hz4 : w.heap.size ≤ (wr.alloc (.cells #[.int .i64 x1, .int .u64 x2, .int .i64 x3] 39)).heap.size := Nat.le_trans hBk.size bc.size
      have hR4 := hRk.below bc
      have hB4 : But w.heap.size r w (wr.alloc (.cells #[.int .i64 x1, .int .u64 x2, .int .i64 x3] 39)) := hBk.trans (But.of (bc.mono hBk.size))
      have hOv4 := hOv.below bc
      have hzbc := bc.size
      clear bc hRk hBk hRv hO hOv
      go_upto_region 7 with (at_builtin; refine wpList_app _ rfl (.tmp 24) (.tmp 30) rfl w.heap.size _ V rfl hO4 hz4 wr.heap.size 0 1 [⟨x1, x2, x3⟩] 1 rfl rfl hY (by simp; omega) ?_; intro v' w5 h1 h3 h4)
      have hOv5 : OwI 153 w0.heap.size (.slice (some ⟨g, off, none⟩) L.length acap) L w5 := hOv4.keep fun q hq hlt => h3.block q hlt (Ne.symm (own_ne hO4 hOv4 hq))
      have hR5 : Rq G r M w5 := hR4.keep (h3.block r hR4.lt (fun e => by have := (hO4.lt r e.symm).1; omega)) (fun q cur _ hc => h3.block q (Array.getElem?_eq_some_iff.1 hc).1 (Ne.symm (own_ne_row hO4 hc)))
      have hB5 : But w.heap.size r w w5 := hB4.trans (But.of ⟨h3.os, h3.tape, h3.output, h3.size, fun q hq => h3.block q (by omega) (fun e => by have := (hO4.lt q e.symm).1; omega)⟩)
      have hz5 := h3.size
      obtain ⟨g', off', e', d0, d1, d2, d3⟩ := hOv5.ri.at_ hkl
      cases e'
      rw [HX.out] at d0 d1 d2 d3
      simp only at d0 d1 d2 d3
      clear h3 h4 hY hO4 hOv4 hR4 hB4
      have hls := less_any G r M (by omega) x1 w5 hR5 (fun g h => hB g (by omega))
      go_upto_region 8 with (go_at_call 74; refine hls.mono ?_; rintro e w6 ⟨rfl, hR6, hb6⟩)
      have hO6 := h1.but hb6 (Nat.le_refl _) (by omega)
      have hOv6 := hOv5.but hb6 (Nat.le_refl _) (by omega)
      have hB6 := hB5.trans (hb6.mono (by omega))
      have hz6 := hb6.size
      obtain ⟨g', off', e', d0, d1, d2, d3⟩ := hOv6.ri.at_ hkl
      cases e'
      rw [HX.out] at d0 d1 d2 d3
      simp only at d0 d1 d2 d3
      clear hls hb6 h1 hOv5 hB5 hR5
      have hne : Nonempty (Kept (Kb w6)) := ⟨⟨_, Kb.start w6⟩⟩
      have q0 := Kb.cell d0
      have q3 := Kb.cell d3
      go_wp2_with fail
      refine wp_region_kept (Kb w6) (by kernel_rfl) (by kernel_rfl) (Kb.start w6) ?_
      repeat (go_big_quiet_step (first | (refine (hcap _).mono ?_; rintro e w4 ⟨rfl, rfl⟩; exact ⟨rfl, _, rfl⟩)))
      refine wpQuiet_nil ?_
      intro w7 h7
      have hO7 := hO6.below h7
      have hOv7 := hOv6.below h7
      have hR7 := hR6.below h7
      have h7' : Below w.heap.size w6 w7 := Below.mono h7 (by omega)
      have hB7 := hB6.trans (But.of (r := r) h7')
      have hz7 := Below.size h7
      obtain ⟨g', off', e', d0, d1, d2, d3⟩ := hOv7.ri.at_ hkl
      cases e'
      rw [HX.out] at d0 d1 d2 d3
      simp only at d0 d1 d2 d3
      clear q0 q3 hne hO6 hOv6 hR6 hB6 h7
      by_cases hct : x4 + 1 < c
      · have HT : Hid (tellQ c M (x1, x2, x3, x4) = insQ (x1, x2, x3, x4 + 1) (lessQ M x1)) := by unfold tellQ; rw [if_pos (by simp; omega)]; exact rfl
        have hll := lessQ_length_le M x1
        have hrp := rput_any G r (lessQ M x1) (by omega) (x1, x2, x3, x4 + 1) w7.drew (hR7.keep rfl (fun _ _ _ _ => rfl)) (fun g h => hB g (by have : w7.heap.size ≤ g := h; omega))
        unfold itmV at hrp
        simp only at hrp
        have hwx : IntKind.i64.wrap (x4 + 1) = x4 + 1 := by simp [IntKind.wrap, IntKind.bits, IntKind.signed]; omega
        go_wp2_with fail
        go_region_with (go_at_call 75; refine hrp.mono ?_; rintro e w8 ⟨rfl, hR8, hb8⟩)
        all_goals
          have hb8' : But w7.heap.size r w7 w8 := ⟨hb8.os, hb8.tape, hb8.output, hb8.size, hb8.block⟩
          have hO8 := hO7.but hb8' (Nat.le_refl _) (by omega)
          have hOv8 := hOv7.but hb8' (Nat.le_refl _) (by omega)
          have hB8 := hB7.trans (hb8'.mono (by omega))
          have hz8 := hb8'.size
          clear hrp hb8 hO7 hOv7 hR7 hB7
          try go_wp2_with fail
          go_roundg (gk - 1)
          case rel => exact ⟨k + 1, by omega, by omega, by go_num, by rw [HM.out]; exact hO8, by rw [HS.out, HT.out]; exact hR8, hB8, hOv8, by omega⟩
          case measure => omega
      · have HT : Hid (tellQ c M (x1, x2, x3, x4) = lessQ M x1) := by unfold tellQ; rw [if_neg (by simp; omega)]; exact rfl
        go_wp2_with fail
        go_roundg (gk - 1)
        case rel => exact ⟨k + 1, by omega, by omega, by go_num, by rw [HM.out]; exact hO7, by rw [HS.out, HT.out]; exact hR7, hB7, hOv7, by omega⟩
        case measure => omega
    · have HK : Hid (L.take k = L.take n.toNat) := by
        show _ = _
        by_cases h : (k : Int) < n
        · rw [List.take_of_length_le (by rw [HN.out]; omega), List.take_of_length_le (by rw [HN.out]; omega)]
        · rw [show k = n.toNat by omega]
      rw [HK.out] at hO hRk
      rw [HU.out] at hO
      rw [HT.out] at hRk
      by_cases h : (k : Int) < n
      · have h2 : ¬ (k : Int) < N := by omega
        clear hlt
        go_wp2_with fail
        go_ret
        exact ⟨⟨_, rfl, hO⟩, hRk, hBk⟩
      · clear hlt
        go_wp2_with fail
        go_ret
        exact ⟨⟨_, rfl, hO⟩, hRk, hBk⟩
end Go.Proofs.YtpoofjnfaijjjaaGreatDoor.Ru
