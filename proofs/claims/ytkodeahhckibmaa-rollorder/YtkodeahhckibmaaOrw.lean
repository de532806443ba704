/-
  RollOrder.
-/
import Derived.Test.YtkodeahhckibmaaOrd
namespace Go.Proofs.Ytkodeahhckibmaa
open Go.RowKit

/-- Two rolls of one node, and a row. -/
structure To (w0 : World) (p q k : Nat) (B : Nat) (v : Value) (f g : Tab) (M : List Upd) (w : World) : Prop where
  two : Two w0 p q k k f g w
  row : Own B v M w
  hp : p < B
  hq : q < B
  hB : B ≤ w.heap.size
section
variable {w0 : World} {p q k B : Nat} {v : Value} {f g : Tab} {M : List Upd} {w w' : World}
theorem To.later (h : To w0 p q k B v f g M w) (b : Below w.heap.size w w') : To w0 p q k B v f g M w' := ⟨h.two.later b, h.row.below b, h.hp, h.hq, Nat.le_trans h.hB b.size⟩
theorem Own.but {B : Nat} {v : Value} {l : List Upd} {p : Nat} {w w' : World} (h : Own B v l w) (hp : p < B) (b : But w.heap.size p w w') : Own B v l w' :=
  h.keep fun g e hg => b.block g hg (fun e' => by subst e'; have := (h.lt g e).1; omega)
theorem To.first (h : To w0 p q k B v f g M w) {f' : Tab} (h1 : Rl p k f' w') (b : But w.heap.size p w w') : To w0 p q k B v f' g M w' := ⟨h.two.first h1 b, h.row.but h.hp b, h.hp, h.hq, Nat.le_trans h.hB b.size⟩
theorem To.second (h : To w0 p q k B v f g M w) {g' : Tab} (h1 : Rl q k g' w') (b : But w.heap.size q w w') : To w0 p q k B v f g' M w' := ⟨h.two.second h1 b, h.row.but h.hq b, h.hp, h.hq, Nat.le_trans h.hB b.size⟩
end

/-- What is heard of others, whatever the order. -/
structure Bk (k : Nat) (M0 M : List Upd) (g : Tab) : Prop where
  len : M.length = M0.length
  mem : ∀ u, u ∈ M ↔ u ∈ M0
  inv : Inv k g
  knows : ∃ S, Knows k g S ∧ ∀ u, S u → u ∈ M0

theorem Own.at {B g n cap : Nat} {l : List Upd} {w : World} (h : Own B (.slice (some ⟨g, 0, none⟩) n cap) l w) {j : Nat} (hj : j < l.length) :
    w.cell? ⟨g, j * 3, none⟩ = some (.int .i64 l[j].n) ∧ w.cell? ⟨g, j * 3 + 1, none⟩ = some (.int .u64 l[j].i) ∧ w.cell? ⟨g, j * 3 + 2, none⟩ = some (.int .i64 l[j].s) := by
  have := Ru.at h.ru (Below.refl _ _) hj
  simpa using this
theorem Own.free {B g n cap : Nat} {l : List Upd} {w : World} (h : Own B (.slice (some ⟨g, 0, none⟩) n cap) l w) (j : Nat) : w.frozen? ⟨g, j, none⟩ = false := by
  rcases h.2 with ⟨e, _⟩ | ⟨g', cap', cur, e, _, hg, _⟩
  · cases e
  · have : g = g' := by have := (Value.slice.inj e).1; simp at this; exact this
    subst this
    simp [World.frozen?, hg]
theorem Own.some {B n cap : Nat} {a : Option Addr} {l : List Upd} {w : World} (h : Own B (.slice a n cap) l w) (hl : 0 < l.length) : ∃ g, a = some ⟨g, 0, none⟩ := by
  rcases h.2 with ⟨_, h0⟩ | ⟨g, _, _, e, _⟩
  · omega
  · exact ⟨g, by simpa using (Value.slice.inj e).1⟩
theorem Rb.at {g off cap : Nat} {L : Nat} {l : List Int} {w w' : World} (h : Rb (.slice (some ⟨g, off, none⟩) L cap) l w) (hb : Below w.heap.size w w') {j : Nat} (hj : j < l.length) : w'.cell? ⟨g, off + j, none⟩ = some (.int .u8 l[j]) := by
  obtain ⟨_, _, e, h3⟩ := h
  cases e
  rcases h3 with h3 | ⟨g', off', e, h3⟩
  · omega
  · cases e
    have hc := h3 j hj
    rw [← hc]
    exact World.cell?_of_block (w := w) (hb.block g (World.block_lt_of_cell? _ _ hc))
theorem Two.other {w0 : World} {p q k o : Nat} {f g : Tab} {w : World} (h : Two w0 p q k o f g w) {b : Nat} (hp : p < b) (hq : q < b) (n : Nat) (v : Value) : Two w0 p q k o f g (w.setCell ⟨b, n, none⟩ v) := by
  have hl := h.lp
  exact ⟨h.one.other (q := ⟨b, n, none⟩) (Nat.ne_of_lt hp) v, h.two.other (q := ⟨b, n, none⟩) (Nat.ne_of_lt hq) v, h.ne, h.lp, h.lq, h.below.setCell (p := ⟨b, n, none⟩) (show w0.heap.size ≤ b by omega) v⟩
theorem size_setCell (w : World) (a : Addr) (v : Value) : (w.setCell a v).heap.size = w.heap.size := by simp [World.setCell]
theorem Own.drew {B : Nat} {v : Value} {l : List Upd} {w : World} (h : Own B v l w) : Own B v l w.drew := h.keep fun _ _ _ => rfl
theorem Two.drew {w0 : World} {p q k o : Nat} {f g : Tab} {w : World} (h : Two w0 p q k o f g w) : Two w0 p q k o f g w.drew := h.drewN 1
theorem drew_size (w : World) : w.drew.heap.size = w.heap.size := rfl
theorem To.swap {w0 : World} {p q k B : Nat} {f g : Tab} {gr L cap : Nat} {M M' : List Upd} {w : World} (h : To w0 p q k B (.slice (some ⟨gr, 0, none⟩) L cap) f g M w) {a b c d e i : Nat} {r s t x y z : Value}
    (hO : Own B (.slice (some ⟨gr, 0, none⟩) L cap) M' ((((((w.setCell ⟨gr, a, none⟩ r).setCell ⟨gr, b, none⟩ s).setCell ⟨gr, c, none⟩ t).setCell ⟨gr, d, none⟩ x).setCell ⟨gr, e, none⟩ y).setCell ⟨gr, i, none⟩ z)) :
    To w0 p q k B (.slice (some ⟨gr, 0, none⟩) L cap) f g M' ((((((w.setCell ⟨gr, a, none⟩ r).setCell ⟨gr, b, none⟩ s).setCell ⟨gr, c, none⟩ t).setCell ⟨gr, d, none⟩ x).setCell ⟨gr, e, none⟩ y).setCell ⟨gr, i, none⟩ z).drew := by
  have hg := (h.row.lt gr rfl).1
  have hp : p < gr := Nat.lt_of_lt_of_le h.hp hg
  have hq : q < gr := Nat.lt_of_lt_of_le h.hq hg
  have hT := (((((h.two.other hp hq a r).other hp hq b s).other hp hq c t).other hp hq d x).other hp hq e y).other hp hq i z
  have hz : B ≤ ((((((w.setCell ⟨gr, a, none⟩ r).setCell ⟨gr, b, none⟩ s).setCell ⟨gr, c, none⟩ t).setCell ⟨gr, d, none⟩ x).setCell ⟨gr, e, none⟩ y).setCell ⟨gr, i, none⟩ z).heap.size := by
    simp only [size_setCell]
    exact h.hB
  generalize ((((((w.setCell ⟨gr, a, none⟩ r).setCell ⟨gr, b, none⟩ s).setCell ⟨gr, c, none⟩ t).setCell ⟨gr, d, none⟩ x).setCell ⟨gr, e, none⟩ y).setCell ⟨gr, i, none⟩ z) = w' at *
  exact ⟨hT.drew, hO.drew, h.hp, h.hq, hz⟩
theorem rem_len {y : Int} (h : 0 ≤ y) {L : Nat} (hL : 0 < L) : ∃ x : Nat, y % (L : Int) = x ∧ y.tmod (L : Int) = x ∧ x < L := by
  have h1 := Int.emod_nonneg y (show (L : Int) ≠ 0 by omega)
  have h2 := Int.emod_lt_of_pos y (show (0 : Int) < L by omega)
  exact ⟨(y % (L : Int)).toNat, by omega, by rw [Int.tmod_eq_emod_of_nonneg h]; omega, by omega⟩

/-- Two rolls, a row, and a box. -/
structure Tx (w0 : World) (p q k : Nat) (B : Nat) (v : Value) (f g : Tab) (M : List Upd) (b : Nat) (u : Upd) (w : World) : Prop where
  to_ : To w0 p q k B v f g M w
  box : Bx 29 b u.n u.i u.s w
theorem Tx.on {w0 : World} {p q k B : Nat} {v : Value} {f g : Tab} {M : List Upd} {b : Nat} {u : Upd} {x : Kept (Tx w0 p q k B v f g M b u)} {w' : World} (h : Below x.at_.heap.size x.at_ w') : ∃ y : Kept (Tx w0 p q k B v f g M b u), w' = y.at_ :=
  ⟨⟨w', x.is.to_.later h, x.is.box.below h⟩, rfl⟩

set_option maxRecDepth 100000 in
set_option maxHeartbeats 2000000 in
theorem order_core (me : Int) (hme : 0 ≤ me ∧ me ≤ 255) (a b : Option Addr) (capa capb : Nat) (l : List Upd) (sw : List Int) (w : World) (hU : Ru (.slice a l.length capa) l w) (hV : Rb (.slice b sw.length capb) sw w) (hin : ∀ u ∈ l, InOk u) (hin2 : ∀ x ∈ sw, 0 ≤ x ∧ x ≤ 255) (hl : (l.length : Int) ≤ 60) (hm : (sw.length : Int) ≤ 100) :
    Calls Try.prog 3 #[.int .u8 me, .slice a l.length capa, .slice b sw.length capb] w fun e w' => e = .returned (.bool true) ∧ Below w.heap.size w w' := by
  obtain ⟨k, hk, hk64⟩ := mod64 me
  obtain ⟨h0, h1⟩ := hme
  obtain ⟨_, _, e, _, _, h3⟩ := id hU
  cases e
  obtain ⟨_, _, e, h4⟩ := id hV
  cases e
  go_enter Try.func3, Try.ntmps3
  go_wp2_with fail
  refine (shown_any _).mono ?_
  rintro e w1 ⟨rfl, hb1⟩
  go_wp2_with fail
  refine (new_any _ _).mono ?_
  rintro e w2 ⟨hN, _, hb2⟩
  obtain ⟨p, rfl, hp, hR2⟩ := hN k rfl hk64
  clear hN
  go_wp2_with fail
  refine (new_any _ _).mono ?_
  rintro e w3 ⟨hN, _, hb3⟩
  obtain ⟨q, rfl, hq, hR3⟩ := hN k rfl hk64
  clear hN
  have hp2 := hR2.lt
  have hS : Two w p q k k (newS k) (newS k) w3 := ⟨hR2.below hb3, hR3, by omega, Nat.le_trans hb1.size hp, Nat.le_trans hb1.size (Nat.le_trans hb2.size hq), hb1.trans ((hb2.trans (hb3.mono hb2.size)).mono hb1.size)⟩
  have hI0 : Inv k (newS k) := inv_new hk64
  have hK0 := knows_new k
  generalize newS k = f0 at *
  have hpB : p < w3.heap.size := hS.one.lt
  have hqB : q < w3.heap.size := hS.two.lt
  have hwB : w.heap.size ≤ w3.heap.size := hS.below.size
  clear hb1 hb2 hb3 hR2 hR3 hp hq hp2 hk
  go_wp2_with fail
  go_loopg [10, 11] l.length (fun gk t10 t11 wr => ∃ (j : Nat), j + gk = l.length ∧ t11 = .int .i64 j ∧ Own w3.heap.size t10 (flt k (l.take j)) wr ∧ w3.heap.size ≤ wr.heap.size ∧ Two w p q k k f0 f0 wr)
  case atStart => exact ⟨0, by omega, rfl, Own.empty (heap_alloc_new w3 _) (Nat.le_refl _), by simp, hS.later (below_alloc _ _)⟩
  case round =>
    obtain ⟨j, hj, rfl, hO, hz, hT⟩ := hrel
    clear hS
    by_cases hlt : (j : Int) < l.length
    · have hj' : j < l.length := by omega
      have j0 : (0 : Int) ≤ j := by omega
      rcases h3 with h3 | ⟨gb, off, rfl, h3⟩
      · omega
      clear h3
      obtain ⟨x0, x1, x2⟩ := hU.at hT.below hj'
      have hft := flt_take k l j hj'
      have hfl := flt_len k l j
      generalize hM : flt k (l.take j) = M at *
      have HM : Hid _ := hM
      clear hM
      generalize l[j] = u at *
      cases hu : (u.n != (k : Int))
      case false =>
        have HT : Hid (flt k (l.take (j + 1)) = M) := by show _ = _; rw [hft, hu]; simp
        clear hft
        go_wp2_with fail
        go_roundg (gk - 1)
        case rel => exact ⟨j + 1, by omega, by go_num, by rw [HT.out]; exact hO, hz, hT⟩
        case measure => omega
      case true =>
        have HT : Hid (flt k (l.take (j + 1)) = M ++ [u]) := by show _ = _; rw [hft, hu]; simp
        clear hft
        have bc := below_alloc wr (.cells #[.int .i64 u.n, .int .u64 u.i, .int .i64 u.s] 29)
        have hO3 := hO.below bc
        have hT3 := hT.later bc
        have hU3 := Ru.one (u := u) (Bx.new 29 u.n u.i u.s wr)
        have hz3 : w3.heap.size ≤ (wr.alloc (.cells #[.int .i64 u.n, .int .u64 u.i, .int .i64 u.s] 29)).heap.size := Nat.le_trans hz bc.size
        go_wp2_with (at_builtin; refine wpList_app _ rfl (.tmp 57) (.tmp 62) rfl w3.heap.size _ M rfl hO3 hz3 wr.heap.size 0 1 [u] 1 rfl rfl hU3 (by simp; omega) ?_; intro v' w' h1 h3 h4)
        have hT4 := hT3.grown hO3 hpB hqB h3
        have hz4 := Nat.le_trans hz3 h3.size
        clear h3 h4 hU3 hO3 hT3
        go_roundg (gk - 1)
        case rel => exact ⟨j + 1, by omega, by go_num, by rw [HT.out]; exact h1, hz4, hT4⟩
        case measure => omega
    · obtain rfl : j = l.length := by omega
      rw [List.take_length] at hO
      have hlx : (flt k l).length ≤ 60 := by have := flt_len k l l.length; rw [List.take_length] at this; omega
      have hox : ∀ u ∈ flt k l, InOk u := fun u hu => hin u (flt_mem hu).1
      have hnx : ∀ u ∈ flt k l, u.n ≠ k := fun u hu => (flt_mem hu).2
      have hIf := hearAll_inv (flt k l) hI0 hox
      obtain ⟨hc, hKf0⟩ := knows_all (flt k l) hK0 hnx
      have hKf := hKf0.ext (T := fun x => x ∈ flt k l) (fun x => by simp)
      clear hKf0
      have hTo : To w p q k w3.heap.size u10 f0 f0 (flt k l) wr := ⟨hT, hO, hpB, hqB, hz⟩
      generalize flt k l = M0 at *
      clear h3 hU hin hT hpB hqB hwB hz
      go_wp2_with fail
      refine (merge_any p k f0 _ M0 hk64 _ hTo.two.one hO.ru (fun _ => hO.ne hTo.hp) (by omega) hox).mono ?_
      generalize hearAllS k f0 M0 = r at *
      obtain ⟨e1, f1⟩ := r
      dsimp only at hIf hc hKf ⊢
      subst hc
      rintro e w4 ⟨⟨v4, rfl, _⟩, hR4, hb4⟩
      have hT4 := hTo.first hR4 hb4
      clear hO hR4 hb4 hTo
      have hBk : Bk k M0 M0 f0 := ⟨rfl, fun _ => Iff.rfl, hI0, _, hK0, fun u h => h.elim⟩
      obtain ⟨ar, capr, rfl, hcr, _⟩ := hT4.row.ru
      generalize hB3 : w3.heap.size = B at *
      clear hB3 hI0 hK0
      go_wp2_with fail
      go_loopg [12] sw.length (fun gk t12 wr => ∃ (j : Nat) (M : List Upd) (g : Tab), j + gk = sw.length ∧ t12 = .int .i64 j ∧ Bk k M0 M g ∧ To w p q k B (.slice ar M0.length capr) f1 g M wr)
      case atStart => exact ⟨0, M0, f0, by omega, rfl, hBk, hT4⟩
      case round =>
        obtain ⟨j, M, g, hj, rfl, hBk, hT⟩ := hrel
        clear hT4
        by_cases hlt : (j : Int) < sw.length
        · by_cases hpos : (0 : Int) < M0.length
          · have hj' : j < sw.length := by omega
            have j0 : (0 : Int) ≤ j := by omega
            have hM0 : 0 < M.length := by rw [hBk.len]; omega
            obtain ⟨gr, rfl⟩ := hT.row.some hM0
            rcases h4 with h4 | ⟨gb, off, rfl, h4⟩
            · omega
            clear h4
            have xb := hV.at hT.two.below hj'
            have hyb := hin2 sw[j] (List.getElem_mem hj')
            generalize sw[j] = y at *
            obtain ⟨x, hx1, hx2, hxl⟩ := rem_len hyb.1 (show 0 < M0.length by omega)
            have hxM : x < M.length := by rw [hBk.len]; exact hxl
            have hx0 : (0 : Int) ≤ x := by omega
            have hxi : (x : Int) < M0.length := by omega
            obtain ⟨c0, c1, c2⟩ := hT.row.at hxM
            have hiu := hox M[x] ((hBk.mem _).1 (List.getElem_mem hxM))
            have hnu := hnx M[x] ((hBk.mem _).1 (List.getElem_mem hxM))
            obtain ⟨y0, y1⟩ := hyb
            go_wp2_with fail
            refine (hear_any q k g M[x] hk64 hiu.1 hiu.2 _ hT.two.two).mono ?_
            have hI' := hear_inv hBk.inv hiu
            obtain ⟨S, hKg, hSm⟩ := hBk.knows
            have hK' := (knows_hear hKg hnu).2
            generalize hearS k g M[x] = r at hI' hK' ⊢
            obtain ⟨⟨b1, e1⟩, g'⟩ := r
            dsimp only at hI' hK' ⊢
            rintro e w5 ⟨rfl, hR5, hb5⟩
            have hT5 := hT.second hR5 hb5
            clear hR5 hb5 c0 c1 c2 xb
            have hBk' : Bk k M0 ((M.set 0 M[x]).set x M[0]) g' := ⟨by simp [hBk.len], fun u => (mem_swap M x hM0 hxM u).trans (hBk.mem u), hI', _, hK', fun u hu => by
              rcases hu with rfl | hu
              · exact (hBk.mem _).1 (List.getElem_mem hxM)
              · exact hSm u hu⟩
            obtain ⟨c0, c1, c2⟩ := hT5.row.at hxM
            obtain ⟨d0, d1, d2⟩ := hT5.row.at hM0
            have hput := (hT5.row.put hM0 M[x]).put (j := x) (by simpa using hxM) M[0]
            have z0 := hT5.row.free (0 * 3)
            have z1 := hT5.row.free (0 * 3 + 1)
            have z2 := hT5.row.free (0 * 3 + 2)
            have z3 := hT5.row.free (x * 3)
            have z4 := hT5.row.free (x * 3 + 1)
            have z5 := hT5.row.free (x * 3 + 2)
            simp only [Nat.zero_mul, Nat.zero_add] at d0 d1 d2 z0 z1 z2 hput
            by_cases hx00 : x = 0
            · subst hx00
              simp only [Nat.zero_mul, Nat.zero_add] at hput
              have hT6 := hT5.swap hput
              clear c0 c1 c2 z3 z4 z5 hput
              generalize M[0] = u at *
              go_wp2_with fail
              go_region
              go_wp2_with fail
              go_roundg (gk - 1)
              case rel => exact ⟨j + 1, _, g', by omega, by go_num, hBk', hT6⟩
              case measure => omega
            · have n0 : ¬ (x * 3 = 0) := by omega
              have n1 : ¬ (x * 3 = 1) := by omega
              have n2 : ¬ (x * 3 = 2) := by omega
              have n3 : ¬ (x * 3 + 1 = 1) := by omega
              have n4 : ¬ (x * 3 + 1 = 2) := by omega
              have n5 : ¬ (x * 3 + 2 = 2) := by omega
              have hT6 := hT5.swap hput
              clear hput
              generalize M[x] = u at *
              generalize M[0] = u0 at *
              go_wp2_with fail
              go_region
              go_wp2_with fail
              go_roundg (gk - 1)
              case rel => exact ⟨j + 1, _, g', by omega, by go_num, hBk', hT6⟩
              case measure => omega
          · have hoM : ∀ u ∈ M, InOk u := fun u hu => hox u ((hBk.mem u).1 hu)
            have hnM : ∀ u ∈ M, u.n ≠ k := fun u hu => hnx u ((hBk.mem u).1 hu)
            have hlM := hBk.len
            obtain ⟨S, hKg, hSm⟩ := hBk.knows
            have hI1 := hearAll_inv M hBk.inv hoM
            obtain ⟨e1, hK1⟩ := knows_all M hKg hnM
            have hmem := hBk.mem
            go_wp2_with fail
            refine (merge_any q k g _ M hk64 _ hT.two.two hT.row.ru (fun _ => hT.row.ne hT.hq) (by omega) hoM).mono ?_
            generalize hearAllS k g M = r at hI1 e1 hK1 ⊢
            obtain ⟨c1, g1⟩ := r
            dsimp only at hI1 e1 hK1 ⊢
            subst e1
            rintro e w5 ⟨⟨v5, rfl, _⟩, hR5, hb5⟩
            have hT5 := hT.second hR5 hb5
            clear hR5 hb5 hT hBk
            have hI2 := hearAll_inv M hI1 hoM
            obtain ⟨e2, hK2⟩ := knows_all M hK1 hnM
            go_wp2_with fail
            refine (merge_any q k g1 _ M hk64 _ hT5.two.two hT5.row.ru (fun _ => hT5.row.ne hT5.hq) (by omega) hoM).mono ?_
            generalize hearAllS k g1 M = r at hI2 e2 hK2 ⊢
            obtain ⟨c2, g2⟩ := r
            dsimp only at hI2 e2 hK2 ⊢
            subst e2
            rintro e w6 ⟨⟨v6, rfl, _⟩, hR6, hb6⟩
            have hT6 := hT5.second hR6 hb6
            clear hR6 hb6 hT5
            obtain rfl : g2 = f1 := knows_eq (hK2.ext (T := fun x => x ∈ M0) (fun x => by
              constructor
              · rintro (h | h | h)
                · exact (hmem x).1 h
                · exact (hmem x).1 h
                · exact hSm x h
              · intro h
                exact Or.inl ((hmem x).2 h))) hKf
            have hlen := allS_length g2
            clear hK1 hK2 hKg hI1
            go_wp2_with fail
            refine (all_any p k g2 _ hT6.two.one).mono ?_
            rintro e w7 ⟨⟨v7, rfl, hO7⟩, hb7⟩
            have hT7 := hT6.later hb7
            go_wp2_with fail
            refine (all_any q k g2 _ hT7.two.two).mono ?_
            rintro e w8 ⟨⟨v8, rfl, hO8⟩, hb8⟩
            have hT8 := hT7.later hb8
            go_wp2_with fail
            refine (same_any _ _ (allS g2) w8 (by omega) (hO7.ru.below hb8) hO8.ru).mono ?_
            rintro e w9 ⟨rfl, hb9⟩
            have hT9 := hT8.later hb9
            clear hO7 hO8 hb7 hb8 hb9 hT6 hT7 hT8
            go_wp2_with fail
            go_loopg [14] M0.length (fun gk t14 wr => ∃ (i : Nat), i + gk = M0.length ∧ t14 = .int .i64 i ∧ To w p q k B (.slice ar M0.length capr) g2 g2 M wr)
            case atStart => exact ⟨0, by omega, rfl, hT9⟩
            case round =>
              obtain ⟨i, hi, rfl, hT⟩ := hrel
              clear hT9
              by_cases hlt2 : (i : Int) < M0.length
              · exact absurd hlt2 (by omega)
              · go_wp2_with fail
                go_ret
                exact ⟨rfl, hT.two.below⟩
        · have hoM : ∀ u ∈ M, InOk u := fun u hu => hox u ((hBk.mem u).1 hu)
          have hnM : ∀ u ∈ M, u.n ≠ k := fun u hu => hnx u ((hBk.mem u).1 hu)
          have hlM := hBk.len
          obtain ⟨S, hKg, hSm⟩ := hBk.knows
          have hI1 := hearAll_inv M hBk.inv hoM
          obtain ⟨e1, hK1⟩ := knows_all M hKg hnM
          have hmem := hBk.mem
          go_wp2_with fail
          refine (merge_any q k g _ M hk64 _ hT.two.two hT.row.ru (fun _ => hT.row.ne hT.hq) (by omega) hoM).mono ?_
          generalize hearAllS k g M = r at hI1 e1 hK1 ⊢
          obtain ⟨c1, g1⟩ := r
          dsimp only at hI1 e1 hK1 ⊢
          subst e1
          rintro e w5 ⟨⟨v5, rfl, _⟩, hR5, hb5⟩
          have hT5 := hT.second hR5 hb5
          clear hR5 hb5 hT hBk
          have hI2 := hearAll_inv M hI1 hoM
          obtain ⟨e2, hK2⟩ := knows_all M hK1 hnM
          go_wp2_with fail
          refine (merge_any q k g1 _ M hk64 _ hT5.two.two hT5.row.ru (fun _ => hT5.row.ne hT5.hq) (by omega) hoM).mono ?_
          generalize hearAllS k g1 M = r at hI2 e2 hK2 ⊢
          obtain ⟨c2, g2⟩ := r
          dsimp only at hI2 e2 hK2 ⊢
          subst e2
          rintro e w6 ⟨⟨v6, rfl, _⟩, hR6, hb6⟩
          have hT6 := hT5.second hR6 hb6
          clear hR6 hb6 hT5
          obtain rfl : g2 = f1 := knows_eq (hK2.ext (T := fun x => x ∈ M0) (fun x => by
            constructor
            · rintro (h | h | h)
              · exact (hmem x).1 h
              · exact (hmem x).1 h
              · exact hSm x h
            · intro h
              exact Or.inl ((hmem x).2 h))) hKf
          have hlen := allS_length g2
          clear hK1 hK2 hKg hI1
          go_wp2_with fail
          refine (all_any p k g2 _ hT6.two.one).mono ?_
          rintro e w7 ⟨⟨v7, rfl, hO7⟩, hb7⟩
          have hT7 := hT6.later hb7
          go_wp2_with fail
          refine (all_any q k g2 _ hT7.two.two).mono ?_
          rintro e w8 ⟨⟨v8, rfl, hO8⟩, hb8⟩
          have hT8 := hT7.later hb8
          go_wp2_with fail
          refine (same_any _ _ (allS g2) w8 (by omega) (hO7.ru.below hb8) hO8.ru).mono ?_
          rintro e w9 ⟨rfl, hb9⟩
          have hT9 := hT8.later hb9
          clear hO7 hO8 hb7 hb8 hb9 hT6 hT7 hT8
          go_wp2_with fail
          go_loopg [14] M0.length (fun gk t14 wr => ∃ (i : Nat), i + gk = M0.length ∧ t14 = .int .i64 i ∧ To w p q k B (.slice ar M0.length capr) g2 g2 M wr)
          case atStart => exact ⟨0, by omega, rfl, hT9⟩
          case round =>
            obtain ⟨i, hi, rfl, hT⟩ := hrel
            clear hT9
            by_cases hlt2 : (i : Int) < M0.length
            · have hiM : i < M.length := by omega
              have i0 : (0 : Int) ≤ i := by omega
              obtain ⟨gr, rfl⟩ := hT.row.some (by omega)
              obtain ⟨c0, c1, c2⟩ := hT.row.at hiM
              have hcell : ∀ w', To w p q k B (.slice (some ⟨gr, 0, none⟩) M0.length capr) g2 g2 M w' → _ := fun w' h => h.row.at hiM
              have hko : mayU M[i] = true → ∃ v, getS g2 M[i].n = some v ∧ newerU M[i] v = false := fun hm => knows_old hKf ((hmem _).1 (List.getElem_mem hiM)) hm (hnM _ (List.getElem_mem hiM))
              generalize M[i] = u at *
              have hG := get_any p k u.n g2 _ hT.two.one
              cases hmu : mayU u
              case false =>
                have hmu' : mayS u.n u.s = false := hmu
                generalize (getS g2 u.n).isSome = bb at *
                generalize ud (getS g2 u.n) = x at *
                go_wp2_with fail
                refine hG.mono ?_
                rintro e w10 ⟨rfl, hb10⟩
                have ba := below_alloc w10 (.cells #[.int .i64 x.n, .int .u64 x.i, .int .i64 x.s] 29)
                have hX := Bx.new 29 x.n x.i x.s w10
                have hT10 := (hT.later hb10).later ba
                have hJ : Tx w p q k B (.slice (some ⟨gr, 0, none⟩) M0.length capr) g2 g2 M w10.heap.size x (w10.alloc (.cells #[.int .i64 x.n, .int .u64 x.i, .int .i64 x.s] 29)) := ⟨hT10, hX⟩
                have hJd : Tx w p q k B (.slice (some ⟨gr, 0, none⟩) M0.length capr) g2 g2 M w10.heap.size x (w10.alloc (.cells #[.int .i64 x.n, .int .u64 x.i, .int .i64 x.s] 29)).drew := ⟨hT10.later (below_drewN _ _ 1), hX.drew⟩
                have hne : Nonempty (Kept (Tx w p q k B (.slice (some ⟨gr, 0, none⟩) M0.length capr) g2 g2 M w10.heap.size x)) := ⟨⟨_, hJ⟩⟩
                have k0 : ∀ y : Kept (Tx w p q k B (.slice (some ⟨gr, 0, none⟩) M0.length capr) g2 g2 M w10.heap.size x), y.at_.cell? ⟨gr, i * 3, none⟩ = some (.int .i64 u.n) := fun y => (hcell _ y.is.to_).1
                have k1 : ∀ y : Kept (Tx w p q k B (.slice (some ⟨gr, 0, none⟩) M0.length capr) g2 g2 M w10.heap.size x), y.at_.cell? ⟨gr, i * 3 + 1, none⟩ = some (.int .u64 u.i) := fun y => (hcell _ y.is.to_).2.1
                have k2 : ∀ y : Kept (Tx w p q k B (.slice (some ⟨gr, 0, none⟩) M0.length capr) g2 g2 M w10.heap.size x), y.at_.cell? ⟨gr, i * 3 + 2, none⟩ = some (.int .i64 u.s) := fun y => (hcell _ y.is.to_).2.2
                clear hb10 ba hX hT10 hJ c0 c1 c2 hcell hko
                go_wp2_with fail
                refine wp_region_kept (Tx w p q k B (.slice (some ⟨gr, 0, none⟩) M0.length capr) g2 g2 M w10.heap.size x) (by kernel_rfl) (by kernel_rfl) hJd ?_
                repeat (go_big_quiet_step (first
                  | (refine (fmay_any _ _ _ _).mono ?_; rw [hmu']; rintro e w4 ⟨rfl, hb4⟩; exact ⟨rfl, Tx.on hb4⟩)))
                refine wpQuiet_nil ?_
                intro w11 h11
                go_wp2_with fail
                go_roundg (gk - 1)
                case rel => exact ⟨i + 1, by omega, by go_num, h11.to_⟩
                case measure => omega
              case true =>
                have hmu' : mayS u.n u.s = true := hmu
                obtain ⟨x, hgx, hnx⟩ := hko hmu
                have hnx' : newerS u.i u.s x.i x.s = false := hnx
                rw [hgx, ud_some] at hG
                go_wp2_with fail
                refine hG.mono ?_
                rintro e w10 ⟨rfl, hb10⟩
                have ba := below_alloc w10 (.cells #[.int .i64 x.n, .int .u64 x.i, .int .i64 x.s] 29)
                have hX := Bx.new 29 x.n x.i x.s w10
                have hT10 := (hT.later hb10).later ba
                have hJ : Tx w p q k B (.slice (some ⟨gr, 0, none⟩) M0.length capr) g2 g2 M w10.heap.size x (w10.alloc (.cells #[.int .i64 x.n, .int .u64 x.i, .int .i64 x.s] 29)) := ⟨hT10, hX⟩
                have hJd : Tx w p q k B (.slice (some ⟨gr, 0, none⟩) M0.length capr) g2 g2 M w10.heap.size x (w10.alloc (.cells #[.int .i64 x.n, .int .u64 x.i, .int .i64 x.s] 29)).drew := ⟨hT10.later (below_drewN _ _ 1), hX.drew⟩
                have hne : Nonempty (Kept (Tx w p q k B (.slice (some ⟨gr, 0, none⟩) M0.length capr) g2 g2 M w10.heap.size x)) := ⟨⟨_, hJ⟩⟩
                have k0 : ∀ y : Kept (Tx w p q k B (.slice (some ⟨gr, 0, none⟩) M0.length capr) g2 g2 M w10.heap.size x), y.at_.cell? ⟨gr, i * 3, none⟩ = some (.int .i64 u.n) := fun y => (hcell _ y.is.to_).1
                have k1 : ∀ y : Kept (Tx w p q k B (.slice (some ⟨gr, 0, none⟩) M0.length capr) g2 g2 M w10.heap.size x), y.at_.cell? ⟨gr, i * 3 + 1, none⟩ = some (.int .u64 u.i) := fun y => (hcell _ y.is.to_).2.1
                have k2 : ∀ y : Kept (Tx w p q k B (.slice (some ⟨gr, 0, none⟩) M0.length capr) g2 g2 M w10.heap.size x), y.at_.cell? ⟨gr, i * 3 + 2, none⟩ = some (.int .i64 u.s) := fun y => (hcell _ y.is.to_).2.2
                have l0 : ∀ y : Kept (Tx w p q k B (.slice (some ⟨gr, 0, none⟩) M0.length capr) g2 g2 M w10.heap.size x), y.at_.cell? ⟨w10.heap.size, 0, none⟩ = some (.int .i64 x.n) := fun y => y.is.box.c0
                have l1 : ∀ y : Kept (Tx w p q k B (.slice (some ⟨gr, 0, none⟩) M0.length capr) g2 g2 M w10.heap.size x), y.at_.cell? ⟨w10.heap.size, 1, none⟩ = some (.int .u64 x.i) := fun y => y.is.box.c1
                have l2 : ∀ y : Kept (Tx w p q k B (.slice (some ⟨gr, 0, none⟩) M0.length capr) g2 g2 M w10.heap.size x), y.at_.cell? ⟨w10.heap.size, 2, none⟩ = some (.int .i64 x.s) := fun y => y.is.box.c2
                clear hb10 ba hX hT10 hJ c0 c1 c2 hcell hko
                go_wp2_with fail
                refine wp_region_kept (Tx w p q k B (.slice (some ⟨gr, 0, none⟩) M0.length capr) g2 g2 M w10.heap.size x) (by kernel_rfl) (by kernel_rfl) hJd ?_
                repeat (go_big_quiet_step (first
                  | (refine (fmay_any _ _ _ _).mono ?_; rw [hmu']; rintro e w4 ⟨rfl, hb4⟩; exact ⟨rfl, Tx.on hb4⟩)
                  | (refine (fnewer_any _ _ _ _ _ _ _).mono ?_; rw [hnx']; rintro e w4 ⟨rfl, hb4⟩; exact ⟨rfl, Tx.on hb4⟩)))
                refine wpQuiet_nil ?_
                intro w11 h11
                go_wp2_with fail
                go_roundg (gk - 1)
                case rel => exact ⟨i + 1, by omega, by go_num, h11.to_⟩
                case measure => omega
            · go_wp2_with fail
              go_ret
              exact ⟨rfl, hT.two.below⟩

set_option maxRecDepth 100000 in
theorem order_long (me : Int) (a b : Option Addr) (lena capa lenb capb : Nat) (w : World) (hl : (60 : Int) < lena) :
    Calls Try.prog 3 #[.int .u8 me, .slice a lena capa, .slice b lenb capb] w fun e w' => e = .returned (.bool true) ∧ Below w.heap.size w w' := by
  go_enter Try.func3, Try.ntmps3
  go_wp2_with (go_at_call 8; refine (shown_any _).mono ?_; rintro e w1 ⟨rfl, hb1⟩)
  go_ret
  exact ⟨rfl, hb1⟩
set_option maxRecDepth 100000 in
theorem order_long2 (me : Int) (a b : Option Addr) (lena capa lenb capb : Nat) (w : World) (hl : ¬ (60 : Int) < lena) (hm : (100 : Int) < lenb) :
    Calls Try.prog 3 #[.int .u8 me, .slice a lena capa, .slice b lenb capb] w fun e w' => e = .returned (.bool true) ∧ Below w.heap.size w w' := by
  go_enter Try.func3, Try.ntmps3
  go_wp2_with (go_at_call 8; refine (shown_any _).mono ?_; rintro e w1 ⟨rfl, hb1⟩)
  go_ret
  exact ⟨rfl, hb1⟩

theorem order_walk (me : Int) (a : Option Addr) (lena capa : Nat) (l : List Upd) (b : Option Addr) (lenb capb : Nat) (m : List Int) (h : (Lit.int .u8 me).wf = true) (w : World) (hU : IsUpds w a lena capa l) (hV : IsBytes w b lenb capb m) :
    Calls Try.prog 3 #[.int .u8 me, .slice a lena capa, .slice b lenb capb] w fun e w' => e = .returned (.bool true) ∧ Below w.heap.size w w' := by
  have hin := hU.inok
  obtain ⟨rfl, hR, _⟩ := hU
  obtain ⟨rfl, hR2, hin2⟩ := hV
  by_cases hl : (60 : Int) < l.length
  · exact order_long me a b l.length capa m.length capb w hl
  · by_cases hm : (100 : Int) < m.length
    · exact order_long2 me a b l.length capa m.length capb w hl hm
    · exact order_core me (bounds_u8 h) a b capa capb l m w hR hR2 hin hin2 (by omega) (by omega)
end Go.Proofs.Ytkodeahhckibmaa
