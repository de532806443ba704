/-
  The reference's roll behind a pointer: New, Get, Mine, All, Live.
-/
import Derived.Test.YtkodeahhckibmaaDoorKtm
import Derived.Test.YtkodeahhckibmaaDoorRfr
namespace Go.Proofs.YtkodeahhckibmaaDoor
open Go.RowKit

/-- Block q is the reference's roll of k, whose row v holds K. -/
structure Rf (B q k : Nat) (v : Value) (K : List Upd) (w : World) : Prop where
  heap : w.heap[q]? = some (.cells #[.int .i64 k, v] 56 (0, 0))
  row : Own B v K w
  ne : v.ownBlock ≠ some q
section
variable {B q k : Nat} {v : Value} {K : List Upd} {w w' : World}
theorem Rf.c0 (h : Rf B q k v K w) : w.cell? ⟨q, 0, none⟩ = some (.int .i64 k) := by simp [World.cell?, h.heap]
theorem Rf.c1 (h : Rf B q k v K w) : w.cell? ⟨q, 1, none⟩ = some v := by simp [World.cell?, h.heap]
theorem Rf.free (h : Rf B q k v K w) (m : Nat) : w.frozen? ⟨q, m, none⟩ = false := by simp [World.frozen?, h.heap]
theorem Rf.lt (h : Rf B q k v K w) : q < w.heap.size := (Array.getElem?_eq_some_iff.1 h.heap).1
theorem Rf.below (h : Rf B q k v K w) (b : Below w.heap.size w w') : Rf B q k v K w' := ⟨(b.block q h.lt).trans h.heap, h.row.below b, h.ne⟩
theorem Rf.drew (h : Rf B q k v K w) : Rf B q k v K w.drew := h.below (below_drewN _ _ 1)
theorem Rf.but (h : Rf B q k v K w) {p : Nat} (hq : q ≠ p) (hv : v.ownBlock ≠ some p) (b : But w.heap.size p w w') : Rf B q k v K w' :=
  ⟨(b.block q h.lt hq).trans h.heap, h.row.keep fun g e hg => b.block g hg (fun e' => hv (by rw [e, e'])), h.ne⟩
end

theorem Own.at0 {B g n cap : Nat} {l : List Upd} {w : World} (h : Own B (.slice (some ⟨g, 0, none⟩) n cap) l w) {j : Nat} (hj : j < l.length) :
    w.cell? ⟨g, j * 3, none⟩ = some (.int .i64 l[j].n) ∧ w.cell? ⟨g, j * 3 + 1, none⟩ = some (.int .u64 l[j].i) ∧ w.cell? ⟨g, j * 3 + 2, none⟩ = some (.int .i64 l[j].s) := by
  obtain ⟨_, _, e, _, _, e3⟩ := h.ru
  cases e
  rcases e3 with e3 | ⟨g', off', e, e3⟩
  · omega
  · cases e
    simpa using e3 j hj
theorem Own.ex {B n cap : Nat} {a : Option Addr} {l : List Upd} {w : World} (h : Own B (.slice a n cap) l w) (hl : 0 < l.length) : ∃ g, a = some ⟨g, 0, none⟩ := by
  rcases h.2 with ⟨_, h0⟩ | ⟨g, _, _, e, _⟩
  · omega
  · exact ⟨g, by simpa using (Value.slice.inj e).1⟩

set_option maxHeartbeats 1000000 in
theorem rnew_none (me : Int) (h : ¬ (0 ≤ me ∧ me < 64)) (w : World) : Calls Tryd.prog 7 #[.int .i64 me] w fun e w' => e = .returned (.pointer none) ∧ Below w.heap.size w w' := by
  have h0 : me < 0 ∨ 64 ≤ me := by omega
  clear h
  go_enter Tryd.func7, Tryd.ntmps7
  go_wp2_with fail
  all_goals go_ret
  all_goals exact ⟨rfl, Below.refl _ _⟩
theorem rf_new (k : Nat) (w : World) : Rf w.heap.size (w.heap.size + 1) k (.slice (some ⟨w.heap.size, 0, none⟩) 1 1) [⟨k, 0, 0⟩] ((w.alloc (.cells #[.int .i64 k, .int .u64 0, .int .i64 0] 34)).alloc (.cells #[.int .i64 k, .slice (some ⟨w.heap.size, 0, none⟩) 1 1] 56)) := by
  refine ⟨?_, ?_, ?_⟩
  · have := heap_alloc_new (w.alloc (.cells #[.int .i64 k, .int .u64 0, .int .i64 0] 34)) (.cells #[.int .i64 k, .slice (some ⟨w.heap.size, 0, none⟩) 1 1] 56)
    simpa using this
  · refine Own.below ?_ (below_alloc _ _)
    exact ⟨rfl, Or.inr ⟨w.heap.size, 1, #[.int .i64 k, .int .u64 0, .int .i64 0], rfl, Nat.le_refl _, heap_alloc_new _ _, Nat.le_refl _, by unfold maxLen; omega, rfl, rfl⟩⟩
  · simp [Value.ownBlock]
set_option maxHeartbeats 1000000 in
theorem rnew_some (k : Nat) (hk : k < 64) (w : World) : Calls Tryd.prog 7 #[.int .i64 k] w fun e w' => (∃ q, e = .returned (.pointer (some ⟨q, 0, none⟩)) ∧ w.heap.size ≤ q ∧ ∃ v, Rf w.heap.size q k v [⟨k, 0, 0⟩] w') ∧ Below w.heap.size w w' := by
  have h0 : ¬ (k : Int) < 0 := by omega
  have h1 : ¬ 64 ≤ (k : Int) := by omega
  have hR := rf_new k w
  have hb : Below w.heap.size w ((w.alloc (.cells #[.int .i64 k, .int .u64 0, .int .i64 0] 34)).alloc (.cells #[.int .i64 k, .slice (some ⟨w.heap.size, 0, none⟩) 1 1] 56)) := ((Below.refl _ _).alloc (Nat.le_refl _) _).alloc (by simp) _
  go_enter Tryd.func7, Tryd.ntmps7
  go_wp2_with fail
  go_ret
  exact ⟨⟨_, rfl, Nat.le_succ _, _, hR⟩, hb⟩

theorem getK_step {K : List Upd} {n : Int} {j : Nat} (hj : j < K.length) (h : getK (K.take j) n = none) : getK (K.take (j + 1)) n = if K[j].n == n then some K[j] else none := by
  unfold getK at *
  rw [List.take_add_one, List.getElem?_eq_getElem hj, List.find?_append, h]
  simp only [Option.toList_some, List.find?_cons, List.find?_nil, Option.none_or]
  cases (K[j].n == n) <;> rfl
theorem getK_first {K : List Upd} {n : Int} {j : Nat} (hj : j < K.length) (h : getK (K.take j) n = none) (hn : K[j].n = n) : getK K n = some K[j] := by
  have := getK_step hj h
  rw [show (K[j].n == n) = true by simpa using hn] at this
  unfold getK at *
  have h2 : List.find? (fun u : Upd => u.n == n) (K.take (j + 1) ++ K.drop (j + 1)) = some K[j] := by rw [List.find?_append, this]; rfl
  rw [List.take_append_drop] at h2
  exact h2

set_option maxRecDepth 100000 in
set_option maxHeartbeats 1000000 in
theorem rget_any (B q k : Nat) (v : Value) (K : List Upd) (n : Int) (w : World) (hl : K.length ≤ 1000000) (hR : Rf B q k v K w) :
    Calls Tryd.prog 15 #[.pointer (some ⟨q, 0, none⟩), .int .i64 n] w fun e w' => e = .returned (.tuple #[.agg #[.int .i64 (ud (getK K n)).n, .int .u64 (ud (getK K n)).i, .int .i64 (ud (getK K n)).s], .bool (getK K n).isSome]) ∧ Below w.heap.size w w' := by
  have ba := below_alloc w (.cells #[.int .i64 0, .int .u64 0, .int .i64 0] 34)
  have hR1 := hR.below ba
  have hB1 := Bx.new 34 0 0 0 w
  obtain ⟨r, HR⟩ : ∃ r, Hid (getK K n = r) := ⟨_, rfl⟩
  rw [HR.out]
  obtain ⟨a, cap, rfl, hc1, hc2, h3⟩ := hR.row.ru
  have hll : (K.length : Int) ≤ 1000000 := by omega
  have x1 := hR1.c1
  go_enter Tryd.func15, Tryd.ntmps15
  go_wp2_with fail
  generalize hw1 : w.alloc (.cells #[.int .i64 0, .int .u64 0, .int .i64 0] 34) = w1 at *
  clear hw1
  go_loopg [6] K.length (fun gk t6 wr => ∃ j : Nat, j + gk = K.length ∧ t6 = .int .i64 j ∧ Hid (getK (K.take j) n = none) ∧ wr = w1)
  case atStart => exact ⟨0, by omega, rfl, rfl, rfl⟩
  case round =>
    obtain ⟨j, hj, rfl, hno, rfl⟩ := hrel
    by_cases hlt : (j : Int) < K.length
    · have hj' : j < K.length := by omega
      have j0 : (0 : Int) ≤ j := by omega
      obtain ⟨g, rfl⟩ := hR1.row.ex (by omega)
      obtain ⟨c0, c1, c2⟩ := hR1.row.at0 hj'
      have hstep : Hid _ := getK_step hj' hno.out
      have hfirst := fun h => getK_first hj' hno.out h
      generalize K[j] = u at *
      cases hu : (u.n == n)
      case false =>
        have HS : Hid (getK (K.take (j + 1)) n = none) := by show _ = _; rw [hstep.out, hu]; rfl
        clear hstep hfirst
        go_wp2_with fail
        go_roundg (gk - 1)
        case rel => exact ⟨j + 1, by omega, by go_num, HS, rfl⟩
        case measure => omega
      case true =>
        have hr : r = some u := by rw [← HR.out]; exact hfirst (by simpa using hu)
        subst hr
        have y0 := hB1.c0
        have y1 := hB1.c1
        have y2 := hB1.c2
        have z0 := hB1.free 0
        have z1 := hB1.free 1
        have z2 := hB1.free 2
        have hE := hB1.set u.n u.i u.s
        have hbl := below_set3 ba (Nat.le_refl w.heap.size) (.int .i64 u.n) (.int .u64 u.i) (.int .i64 u.s)
        clear hstep hfirst
        go_wp2_with fail
        generalize World.setCell _ _ _ = w7 at *
        clear y0 y1 y2 z0 z1 z2 c0 c1 c2 x1
        have r0 := hE.c0
        have r1 := hE.c1
        have r2 := hE.c2
        refine bodyPost_ret (v := .tuple #[.agg #[.int .i64 u.n, .int .u64 u.i, .int .i64 u.s], .bool true]) ?_ rfl ⟨rfl, hbl⟩
        rw [results_cell_tmp rfl]
        go_simp
    · have hr : r = none := by rw [← HR.out, ← hno.out, List.take_of_length_le (by omega)]
      subst hr
      have y0 := hB1.c0
      have y1 := hB1.c1
      have y2 := hB1.c2
      have z0 := hB1.free 0
      have z1 := hB1.free 1
      have z2 := hB1.free 2
      have hE := hB1.set 0 0 0
      have hbl := below_set3 ba (Nat.le_refl w.heap.size) (.int .i64 0) (.int .u64 0) (.int .i64 0)
      go_wp2_with fail
      generalize World.setCell _ _ _ = w7 at *
      clear y0 y1 y2 z0 z1 z2 x1
      have r0 := hE.c0
      have r1 := hE.c1
      have r2 := hE.c2
      refine bodyPost_ret (v := .tuple #[.agg #[.int .i64 0, .int .u64 0, .int .i64 0], .bool false]) ?_ rfl ⟨rfl, hbl⟩
      rw [results_cell_tmp rfl]
      go_simp

set_option maxRecDepth 100000 in
set_option maxHeartbeats 1000000 in
theorem rmine_any (B q k : Nat) (v : Value) (K : List Upd) (w : World) (hl : K.length ≤ 1000000) (hR : Rf B q k v K w) :
    Calls Tryd.prog 33 #[.pointer (some ⟨q, 0, none⟩)] w fun e w' => e = .returned (.agg #[.int .i64 (ud (getK K k)).n, .int .u64 (ud (getK K k)).i, .int .i64 (ud (getK K k)).s]) ∧ Below w.heap.size w w' := by
  have ba := below_alloc w (.cells #[.int .i64 0, .int .u64 0, .int .i64 0] 34)
  have hR1 := hR.below ba
  have hB1 := Bx.new 34 0 0 0 w
  have x0 := hR1.c0
  have hG := rget_any B q k v K k _ hl hR1
  generalize ud (getK K k) = u at *
  generalize (getK K k).isSome = c at *
  go_enter Tryd.func33, Tryd.ntmps33
  go_wp2_with fail
  refine hG.mono ?_
  rintro e w2 ⟨rfl, hb2⟩
  have bc := below_alloc w2 (.cells #[.int .i64 u.n, .int .u64 u.i, .int .i64 u.s] 34)
  have hB2 := (hB1.below hb2).below bc
  have hX := Bx.new 34 u.n u.i u.s w2
  have hbl := ((ba.trans (hb2.mono ba.size)).trans (bc.mono (Nat.le_trans ba.size hb2.size)))
  have y0 := hB2.c0
  have y1 := hB2.c1
  have y2 := hB2.c2
  have z0 := hB2.free 0
  have z1 := hB2.free 1
  have z2 := hB2.free 2
  have q0 := hX.c0
  have q1 := hX.c1
  have q2 := hX.c2
  have hE := hB2.set u.n u.i u.s
  have hbl2 := below_set3 hbl (Nat.le_refl w.heap.size) (.int .i64 u.n) (.int .u64 u.i) (.int .i64 u.s)
  go_wp2_with fail
  generalize World.setCell _ _ _ = w7 at *
  clear y0 y1 y2 z0 z1 z2 q0 q1 q2 x0
  have r0 := hE.c0
  have r1 := hE.c1
  have r2 := hE.c2
  refine bodyPost_ret (v := .agg #[.int .i64 u.n, .int .u64 u.i, .int .i64 u.s]) ?_ rfl ⟨rfl, hbl2⟩
  rw [results_cell rfl]
  go_simp

theorem Own.lens {B : Nat} {v : Value} {l : List Upd} {w : World} (h : Own B v l w) : ∃ a cap, v = .slice a l.length cap := by
  obtain ⟨a, cap, e, _⟩ := h.ru
  exact ⟨a, cap, e⟩

set_option maxRecDepth 100000 in
set_option maxHeartbeats 1000000 in
theorem rall_any (B q k : Nat) (v : Value) (K : List Upd) (w : World) (hl : K.length ≤ 1000000) (hR : Rf B q k v K w) :
    Calls Tryd.prog 28 #[.pointer (some ⟨q, 0, none⟩)] w fun e w' => (∃ v', e = .returned v' ∧ Own w.heap.size v' (allS (tabK K)) w') ∧ Below w.heap.size w w' := by
  show Calls Tryd.prog 28 #[.pointer (some ⟨q, 0, none⟩)] w fun e w' => (∃ v', e = .returned v' ∧ Own w.heap.size v' (pickN (tabK K) (fun j => (tabK K j).isSome) 64) w') ∧ Below w.heap.size w w'
  go_enter Tryd.func28, Tryd.ntmps28
  go_wp2_with fail
  go_loopg [3, 4] 64 (fun gk t3 t4 wr => ∃ j : Nat, j + gk = 64 ∧ t4 = .int .i64 j ∧ Own w.heap.size t3 (pickN (tabK K) (fun j => (tabK K j).isSome) j) wr ∧ Below w.heap.size w wr)
  case atStart => exact ⟨0, by omega, rfl, Own.empty (heap_alloc_new w _) (Nat.le_refl _), below_alloc _ _⟩
  case round =>
    obtain ⟨j, hj, rfl, hO, hB⟩ := hrel
    by_cases hlt : (j : Int) < 64
    · have hG := rget_any B q k v K j _ hl (hR.below hB)
      have hE : ∀ z, (tabK K j).isSome = z → Hid (pickN (tabK K) (fun j => (tabK K j).isSome) (j + 1) = pickN (tabK K) (fun j => (tabK K j).isSome) j ++ (if z then [ud (tabK K j)] else [])) := fun z e => by subst e; rfl
      have hlen := pickN_length (tabK K) (fun j => (tabK K j).isSome) j
      rw [show getK K j = tabK K j from rfl] at hG
      generalize pickN (tabK K) (fun j => (tabK K j).isSome) j = M at *
      generalize ud (tabK K j) = u at *
      cases hc : (tabK K j).isSome
      case false =>
        have HE := hE _ hc
        rw [hc] at hG
        clear hE
        go_wp2_with fail
        refine hG.mono ?_
        rintro e w2 ⟨rfl, hb2⟩
        have ba := below_alloc w2 (.cells #[.int .i64 u.n, .int .u64 u.i, .int .i64 u.s] 34)
        have hO2 := (hO.below hb2).below ba
        have hB2 := (hB.trans (hb2.mono hB.size)).trans (ba.mono (Nat.le_trans hB.size hb2.size))
        go_wp2_with fail
        go_roundg (gk - 1)
        case rel => exact ⟨j + 1, by omega, by go_num, by rw [HE.out]; simpa using hO2, hB2⟩
        case measure => omega
      case true =>
        have HE := hE _ hc
        rw [hc] at hG
        clear hE
        go_wp2_with fail
        refine hG.mono ?_
        rintro e w2 ⟨rfl, hb2⟩
        have ba := below_alloc w2 (.cells #[.int .i64 u.n, .int .u64 u.i, .int .i64 u.s] 34)
        have hX := Bx.new 34 u.n u.i u.s w2
        have hO2 := (hO.below hb2).below ba
        have hB2 := (hB.trans (hb2.mono hB.size)).trans (ba.mono (Nat.le_trans hB.size hb2.size))
        generalize hw3 : w2.alloc (.cells #[.int .i64 u.n, .int .u64 u.i, .int .i64 u.s] 34) = w3 at *
        have HW3 : Hid _ := hw3
        have bc := below_alloc w3 (.cells #[.int .i64 u.n, .int .u64 u.i, .int .i64 u.s] 34)
        have hO3 := hO2.below bc
        have hB3 := hB2.trans (bc.mono hB2.size)
        have hU3 := Ru.one (u := u) (Bx.new 34 u.n u.i u.s w3)
        have hz3 := hB3.size
        have x0 := hX.c0
        have x1 := hX.c1
        have x2 := hX.c2
        clear hb2 ba hO hB hX
        go_wp2_with (at_builtin; refine wpList_app _ rfl (.tmp 19) (.tmp 21) rfl w.heap.size _ M rfl hO3 hz3 w3.heap.size 0 1 [u] 1 rfl rfl hU3 (by simp; omega) ?_; intro v' w' h1 h3 h4)
        have hB4 : Below w.heap.size w w' := hB3.trans ⟨h3.os, h3.tape, h3.output, h3.size, fun z hz => h3.block z (by omega) (fun e => by have := (hO3.lt z e.symm).1; omega)⟩
        clear h3 h4 hU3 hO3 hB3
        go_roundg (gk - 1)
        case rel => exact ⟨j + 1, by omega, by go_num, by rw [HE.out]; simpa using h1, hB4⟩
        case measure => omega
    · obtain rfl : j = 64 := by omega
      go_wp2_with fail
      go_ret
      exact ⟨⟨_, rfl, hO⟩, hB⟩

set_option maxRecDepth 100000 in
set_option maxHeartbeats 1000000 in
theorem rflive_any (B q k : Nat) (v : Value) (K : List Upd) (w : World) (hl : K.length ≤ 1000000) (hR : Rf B q k v K w) :
    Calls Tryd.prog 29 #[.pointer (some ⟨q, 0, none⟩)] w fun e w' => e = .returned (.int .u64 (bandS K)) ∧ Below w.heap.size w w' := by
  obtain ⟨a, cap, rfl, hc1, hc2, h3⟩ := hR.row.ru
  have hll : (K.length : Int) ≤ 1000000 := by omega
  go_enter Tryd.func29, Tryd.ntmps29
  go_wp2_with fail
  go_loopg [3, 4] K.length (fun gk t3 t4 wr => ∃ j : Nat, j + gk = K.length ∧ t4 = .int .i64 j ∧ t3 = .int .u64 (bandS (K.take j)) ∧ Below w.heap.size w wr)
  case atStart => exact ⟨0, by omega, rfl, rfl, Below.refl _ _⟩
  case round =>
    obtain ⟨j, hj, rfl, rfl, hB⟩ := hrel
    have hR1 := hR.below hB
    have x1 := hR1.c1
    by_cases hlt : (j : Int) < K.length
    · have hj' : j < K.length := by omega
      have j0 : (0 : Int) ≤ j := by omega
      obtain ⟨g, rfl⟩ := hR1.row.ex (by omega)
      have hcell := fun w' (h : Rf B q k (.slice (some ⟨g, 0, none⟩) K.length cap) K w') => h.row.at0 hj'
      have hT : Hid _ := bandS_take K j hj'
      have hblt := bandS_lt (K.take j)
      generalize bandS (K.take j) = b at *
      generalize K[j] = u at *
      obtain ⟨c0, c1, c2⟩ := hcell _ hR1
      go_wp2_with fail
      refine (flive_any _ _ _ _).mono ?_
      cases hv : liveS u.s
      case false =>
        rintro e w2 ⟨rfl, hb2⟩
        rw [hv] at hT
        have hB3 := hB.trans (hb2.mono hB.size)
        go_wp2_with fail
        go_roundg (gk - 1)
        case rel => exact ⟨j + 1, by omega, by go_num, by rw [hT.out]; rfl, hB3⟩
        case measure => omega
      case true =>
        rintro e w2 ⟨rfl, hb2⟩
        rw [hv] at hT
        have hB3 := hB.trans (hb2.mono hB.size)
        have hR3 := hR1.below hb2
        have y1 := hR3.c1
        obtain ⟨d0, d1, d2⟩ := hcell _ hR3
        clear x1 c0 c1 c2
        go_wp2_with fail
        refine (Bnd.rwith_any b hblt _ _).mono ?_
        rintro e w3 ⟨rfl, rfl⟩
        go_wp2_with fail
        go_roundg (gk - 1)
        case rel => exact ⟨j + 1, by omega, by go_num, by rw [hT.out]; rfl, hB3⟩
        case measure => omega
    · obtain rfl : j = K.length := by omega
      rw [List.take_length]
      go_wp2_with fail
      go_ret
      exact ⟨rfl, hB⟩

/-- The reference's roll, kept. -/
structure Rk (w0 : World) (B q k : Nat) (v : Value) (K : List Upd) (w : World) : Prop where
  rf : Rf B q k v K w
  below : Below w0.heap.size w0 w
section
variable {w0 : World} {B q k : Nat} {v : Value} {K : List Upd} {w w' : World}
theorem Rk.later (h : Rk w0 B q k v K w) (b : Below w.heap.size w w') : Rk w0 B q k v K w' := ⟨h.rf.below b, h.below.trans (b.mono h.below.size)⟩
theorem Rk.drew (h : Rk w0 B q k v K w) : Rk w0 B q k v K w.drew := h.later (below_drewN _ _ 1)
theorem Rk.c0 (h : Rk w0 B q k v K w) : w.cell? ⟨q, 0, none⟩ = some (.int .i64 k) := h.rf.c0
end

set_option maxRecDepth 100000 in
set_option maxHeartbeats 1000000 in
theorem rothers_any (B q k : Nat) (v : Value) (K : List Upd) (w : World) (hl : K.length ≤ 1000000) (hR : Rf B q k v K w) :
    Calls Tryd.prog 31 #[.pointer (some ⟨q, 0, none⟩)] w fun e w' => (∃ v', e = .returned v' ∧ Bnd.Rd v' (Bnd.lst (Bnd.lessS (bandS K) k)) w') ∧ Below w.heap.size w w' := by
  have hS : Rk w B q k v K w := ⟨hR, Below.refl _ _⟩
  have hL := fun w' (h : Rf B q k v K w') => rflive_any B q k v K w' hl h
  have hlt := bandS_lt K
  generalize bandS K = b at *
  have hlt2 := Bnd.lessS_lt hlt (k : Int)
  go_enter Tryd.func31, Tryd.ntmps31
  go_wp2_with fail
  go_region_held3 (fun w' => w'.cell? ⟨q, 0, none⟩ = some (.int .i64 k)) (first | exact Rk.c0 hS | exact Rk.c0 (Rk.drew hS)) ((first
    | (go_at_call 29; refine (hL _ (by first | exact Rk.rf hS | exact Rk.rf (Rk.drew hS))).mono ?_; rintro e w4 ⟨rfl, hb4⟩; first | have hS := Rk.later hS hb4 | have hS := Rk.later (Rk.drew hS) hb4)
    | (go_at_call 49; refine (Bnd.rless_any _ hlt _ _).mono ?_; rintro e w5 ⟨rfl, rfl⟩)
    | (go_at_call 48; refine (Bnd.rlist_any _ hlt2 _).mono ?_; rintro e w6 ⟨v6, rfl, hv6, hb6⟩; first | have hS := Rk.later hS hb6 | have hS := Rk.later (Rk.drew hS) hb6)))
  all_goals go_wp2_with fail
  all_goals go_ret
  all_goals exact ⟨⟨v6, rfl, hv6⟩, hS.below⟩
end Go.Proofs.YtkodeahhckibmaaDoor
