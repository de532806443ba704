/-
  RumorActs.
-/
import Derived.Test.YtagdacfgpgcbcaaOpa
import Derived.Deep.RegionHeld3
namespace Go.Proofs.Ytagdacfgpgcbcaa
open Go.RowKit Go.Maps

/-- Both queues, side by side: p has L, r has M. -/
structure St (W0 : World) (p r B : Nat) (m : Option Nat) (L M : List Itm) (w : World) : Prop where
  qu : Qu p m L w
  rq : Rq B r M w
  hm : ∀ b, m = some b → B ≤ b
  be : Below p W0 w
  sz : B ≤ w.heap.size
  pr : p < r
section
variable {W0 w w' : World} {p r B : Nat} {m m' : Option Nat} {L M N : List Itm}
theorem St.rb (h : St W0 p r B m L M w) : r < B := h.rq.lt_
theorem St.drew (h : St W0 p r B m L M w) : St W0 p r B m L M w.drew :=
  ⟨h.qu.keep rfl (fun _ _ => rfl), h.rq.keep rfl (fun _ _ _ _ => rfl), h.hm, Below.drew' h.be, h.sz, h.pr⟩
theorem St.later (h : St W0 p r B m L M w) (k : Below w.heap.size w w') : St W0 p r B m L M w' :=
  ⟨h.qu.below k, h.rq.below k, h.hm, h.be.trans (k.mono (by have := h.sz; have := h.rb; have := h.pr; omega)), Nat.le_trans h.sz k.size, h.pr⟩
theorem mo_ne {b : Nat} {L : List Itm} {w : World} (h : Mo b L w) {g : Nat} {cur : Array Value} {T : TypeId} (hg : w.heap[g]? = some (.cells cur T (0, 0))) : g ≠ b := by
  intro e
  subst e
  obtain ⟨D, ⟨es, clock, h1, _⟩, _⟩ := h
  rw [hg] at h1
  cases h1
theorem St.one (h : St W0 p r B m L M w) (hQ : Qu p m' N w') (k : Mv p m m' w w') : St W0 p r B m' N M w' := by
  have hrb := h.rb
  have hpr := h.pr
  have hsz := h.sz
  refine ⟨hQ, h.rq.keep (k.block r h.rq.lt (by omega) (fun e => by have := h.hm r e.symm; omega)) (fun g cur hg hc => k.block g (Array.getElem?_eq_some_iff.1 hc).1 (by omega) (fun e => mo_ne (h.qu.some_ g e.symm) hc rfl)), k.from_ hsz h.hm, h.be.trans (k.to (by omega) (Nat.le_refl _) (fun b hb => by have := h.hm b hb; omega)), Nat.le_trans hsz k.size, hpr⟩
theorem St.two (h : St W0 p r B m L M w) (hR : Rq B r N w') (k : But w.heap.size r w w') : St W0 p r B m L N w' := by
  have hrb := h.rb
  have hpr := h.pr
  have hsz := h.sz
  refine ⟨h.qu.keep (k.block p h.qu.lt (by omega)) (fun b hb => k.block b (h.qu.mlt b hb) (by have := h.hm b hb; omega)), hR, h.hm, h.be.trans ⟨k.os, k.tape, k.output, k.size, fun q hq => k.block q (by omega) (by omega)⟩, Nat.le_trans hsz k.size, hpr⟩
theorem St.cell (h : St W0 p r B m L M w) {g o : Nat} {v : Value} (hc : W0.cell? ⟨g, o, none⟩ = some v) (hg : g < p) : w.cell? ⟨g, o, none⟩ = some v := (World.cell?_of_block (w := W0) (h.be.block g hg)).trans hc
theorem Own.mv {B : Nat} {v : Value} {l : List Upd} (o : Own B v l w) (h : St W0 p r B m L M w) (k : Mv p m m' w w') : Own B v l w' := o.keep fun g hg hlt => k.block g hlt (by have := (o.lt g hg).1; have := h.rb; have := h.pr; omega) (fun e => o.ne_map (h.qu.some_ g e.symm) hg)
theorem Own.drew {B : Nat} {v : Value} {l : List Upd} (o : Own B v l w) : Own B v l w.drew := o
end

set_option maxHeartbeats 8000000 in
set_option maxRecDepth 100000 in
theorem acts_core (a : Option Addr) (cap : Nat) (l : List Ac) (w : World) (hR : Ra (.slice a l.length cap) l w) (hl : ∀ x ∈ l, AcOk x) :
    Calls Try.prog 3 #[.slice a l.length cap] w fun e w' => e = .returned (.bool true) ∧ Below w.heap.size w w' := by
  obtain ⟨N, HN⟩ : ∃ N, Hid (l.length = N) := ⟨_, rfl⟩
  rw [HN.out]
  by_cases hlen : 150 < N
  · have hl2 : (150 : Int) < N := by omega
    go_enter Try.func3, Try.ntmps3
    go_wp2_with (go_at_call 9; refine (shown_any _).mono ?_; rintro e w1 ⟨rfl, hb⟩)
    go_ret
    exact ⟨rfl, hb⟩
  · have hl2 : (N : Int) ≤ 150 := by omega
    have hl3 : ¬ (150 : Int) < N := by omega
    clear hlen
    go_enter Try.func3, Try.ntmps3
    go_wp2_with fail
    refine (shown_any _).mono ?_
    rintro e w1 ⟨rfl, hb1⟩
    have hQ := Qu.new w1
    have ba := below_alloc w1 (.cells #[.map none] 27)
    obtain ⟨w2, HW2⟩ : ∃ w2, Hid (w2 = w1.alloc (.cells #[.map none] 27)) := ⟨_, rfl⟩
    rw [← HW2.out] at hQ ba
    have bb := below_alloc w2 (.cells #[.slice none 0 0] 31)
    have hRn := Rq.new w2 (B := w2.heap.size + 1) (Nat.lt_succ_self _)
    obtain ⟨w3, HW3⟩ : ∃ w3, Hid (w3 = w2.alloc (.cells #[.slice none 0 0] 31)) := ⟨_, rfl⟩
    rw [← HW3.out] at bb hRn
    have hz3 : w2.heap.size + 1 ≤ w3.heap.size := by rw [HW3.out]; simp
    go_upto_region 4 with fail
    rw [← HW2.out]
    go_upto_region 5 with fail
    rw [← HW3.out]
    have hB3 : Below w.heap.size w w3 := hb1.trans ((ba.mono hb1.size).trans (bb.mono (Nat.le_trans hb1.size ba.size)))
    have hpz : w.heap.size ≤ w1.heap.size := hb1.size
    have hpr : w1.heap.size < w2.heap.size := hQ.lt
    have hQ3 := hQ.below bb
    generalize w1.heap.size = p at *
    have hS0 : St w3 p w2.heap.size (w2.heap.size + 1) none [] [] w3 := ⟨hQ3, hRn, (fun b hb => by cases hb), Below.refl _ _, hz3, hpr⟩
    clear hQ ba bb hRn HW2 HW3 hb1 hQ3 hz3
    generalize w2.heap.size = r at *
    go_wp2_with fail
    go_loopg [5] N (fun gk t5 wr => ∃ (i : Nat) (m : Option Nat) (L : List Itm), i + gk = N ∧ t5 = .int .i64 i ∧ L.length ≤ 32 ∧ St w3 p r (r + 1) m L L wr)
    case atStart => exact ⟨0, none, [], by omega, rfl, by simp, hS0⟩
    case round =>
      clear hS0
      obtain ⟨i, m, L, hi, rfl, hL, hS⟩ := hrel
      have hqi := hS.qu.qi
      by_cases hlt : (i : Int) < N
      · have hil : i < l.length := by rw [HN.out]; omega
        obtain ⟨g, off, rfl, hg, d0, d1, d2, d3, d4, d5⟩ := hR.at_ hil
        have hx := hl _ (List.getElem_mem hil)
        have hg3 : w3.heap[g]? = w.heap[g]? := hB3.block g hg
        have hgp : g < p := by omega
        have c0 := (World.cell?_of_block (w := w) hg3).trans d0
        have c1 := (World.cell?_of_block (w := w) hg3).trans d1
        have c2 := (World.cell?_of_block (w := w) hg3).trans d2
        have c3 := (World.cell?_of_block (w := w) hg3).trans d3
        have c4 := (World.cell?_of_block (w := w) hg3).trans d4
        have c5 := (World.cell?_of_block (w := w) hg3).trans d5
        clear d0 d1 d2 d3 d4 d5
        generalize l[i] = x at *
        obtain ⟨xp, xn, xi, xs, xk, xm⟩ := x
        obtain ⟨hx1, hx2⟩ := hx
        simp only at c0 c1 c2 c3 c4 c5 hx1 hx2
        have i0 : (0 : Int) ≤ i := by omega
        have e0 := St.cell hS c0 hgp
        cases xp
        case true =>
          have hput := fun w hQ => put_any p m L hL xn xi xs hx1 w hQ
          have hfp := fun w hR hB => fput_any (r + 1) r L hL xn xi xs w hR hB
          have hpl := putQ_length hL (xn, xi, xs)
          have hEE : (putE L (xn, xi, xs) != putE L (xn, xi, xs)) = false := by simp
          generalize putE L (xn, xi, xs) = E at *
          generalize putQ L (xn, xi, xs) = M at *
          go_wp2_with fail
          go_region_held3 (fun w' => w'.cell? ⟨g, off + i * 6 + 1, none⟩ = some (.int .i64 xn) ∧ w'.cell? ⟨g, off + i * 6 + 2, none⟩ = some (.int .u64 xi) ∧ w'.cell? ⟨g, off + i * 6 + 3, none⟩ = some (.int .i64 xs)) (first | exact ⟨St.cell hS c1 hgp, St.cell hS c2 hgp, St.cell hS c3 hgp⟩ | exact ⟨St.cell (St.drew hS) c1 hgp, St.cell (St.drew hS) c2 hgp, St.cell (St.drew hS) c3 hgp⟩) ((first
            | (go_at_call 10; refine (hput _ (by first | exact St.qu hS | exact St.qu (St.drew hS))).mono ?_; rintro e w4 ⟨rfl, m4, h4, hb4⟩; first | have hS := St.one hS h4 hb4 | have hS := St.one (St.drew hS) h4 hb4)
            | (go_at_call 11; refine (hfp _ (by first | exact St.rq hS | exact St.rq (St.drew hS)) (by first | exact St.sz hS | exact St.sz (St.drew hS))).mono ?_; rintro e w5 ⟨rfl, h5, hb5⟩; first | have hS := St.two hS h5 hb5 | have hS := St.two (St.drew hS) h5 hb5)))
          go_wp2_with fail
          refine (items_any p m4 M (by omega) _ hS.qu).mono ?_
          rintro e w6 ⟨⟨v6, rfl, hR6, _⟩, hb6⟩
          have hS := hS.later hb6
          go_wp2_with fail
          refine (theirs_any v6 M (by omega) _ hR6).mono ?_
          rintro e w7 ⟨⟨v7, rfl, hO7⟩, hb7⟩
          have hS := hS.later hb7
          go_wp2_with fail
          refine (ritems_any (r + 1) r M (by omega) _ hS.rq).mono ?_
          rintro e w8 ⟨⟨v8, rfl, hO8⟩, hb8⟩
          have hS := hS.later hb8
          have h78 := hO7.ri.below hb8
          go_wp2_with fail
          refine (sameI_any v7 v8 M (by omega) _ h78 hO8.ri).mono ?_
          rintro e w9 ⟨rfl, hb9⟩
          have hS := hS.later hb9
          clear hR6 hO7 hO8 h78 hb6 hb7 hb8 hb9
          go_wp2_with fail
          go_roundg (gk - 1)
          case rel => exact ⟨i + 1, m4, M, by omega, by go_num, by omega, hS⟩
          case measure => omega
        case false =>
          have htk := fun w hQ => take_any p m L hL xk xm hx2 w hQ
          have hft := fun w hR hB => ftake_any (r + 1) r L hL hqi xk xm hx2 w hR hB
          have hcap := fun w => cap_any xm w hx2
          have hrca := fun w => refCap_any xm w hx2
          have hcr := cap_range xm hx2.2
          have htl := takeQ_length hqi xk (c := capS xm) hcr.2
          have hul : ((L.take xk.toNat).map updOf).length ≤ 1000000 := by rw [List.length_map, List.length_take]; omega
          have hcc : (capS xm != capS xm) = false := by simp
          generalize takeQ L xk (capS xm) = M at *
          generalize capS xm = c at *
          generalize (L.take xk.toNat).map updOf = U at *
          go_wp2_with fail
          go_region_held3 (fun w' => w'.cell? ⟨g, off + i * 6 + 4, none⟩ = some (.int .i64 xk) ∧ w'.cell? ⟨g, off + i * 6 + 5, none⟩ = some (.int .i64 xm)) (first | exact ⟨St.cell hS c4 hgp, St.cell hS c5 hgp⟩ | exact ⟨St.cell (St.drew hS) c4 hgp, St.cell (St.drew hS) c5 hgp⟩) ((first
            | (go_at_call 13; refine (htk _ (by first | exact St.qu hS | exact St.qu (St.drew hS))).mono ?_; rintro e w4 ⟨⟨v4, rfl, o4⟩, h4, hb4⟩; first | (have o4 := Own.mono o4 (St.sz hS); have hS := St.one hS h4 hb4) | (have o4 := Own.mono o4 (St.sz (St.drew hS)); have hS := St.one (St.drew hS) h4 hb4))
            | (go_at_call 14; refine (hft _ (by first | exact St.rq hS | exact St.rq (St.drew hS)) (by first | exact St.sz hS | exact St.sz (St.drew hS))).mono ?_; rintro e w5 ⟨⟨v5, rfl, o5⟩, h5, hb5⟩; first | (have o4 := Own.but o4 hb5 (Nat.le_refl _) (Nat.lt_succ_self _); have o5 := Own.mono o5 (St.sz hS); have hS := St.two hS h5 hb5) | (have o4 := Own.but (Own.drew o4) hb5 (Nat.le_refl _) (Nat.lt_succ_self _); have o5 := Own.mono o5 (St.sz (St.drew hS)); have hS := St.two (St.drew hS) h5 hb5))
            | (go_at_call 12; refine (sameU_any _ _ U hul _ (by first | exact Own.ru o4 | exact Own.ru (Own.drew o4)) (by first | exact Own.ru o5 | exact Own.ru (Own.drew o5))).mono ?_; rintro e w6 ⟨rfl, hb6⟩; first | have hS := St.later hS hb6 | have hS := St.later (St.drew hS) hb6)
            | (go_at_call 15; refine (hcap _).mono ?_; rintro e w7 ⟨rfl, rfl⟩)
            | (go_at_call 16; refine (hrca _).mono ?_; rintro e w7 ⟨rfl, rfl⟩)))
          go_wp2_with fail
          refine (items_any p m M (by omega) _ hS.qu).mono ?_
          rintro e w6 ⟨⟨v6, rfl, hR6, _⟩, hb6⟩
          have hS := hS.later hb6
          go_wp2_with fail
          refine (theirs_any v6 M (by omega) _ hR6).mono ?_
          rintro e w7 ⟨⟨v7, rfl, hO7⟩, hb7⟩
          have hS := hS.later hb7
          go_wp2_with fail
          refine (ritems_any (r + 1) r M (by omega) _ hS.rq).mono ?_
          rintro e w8 ⟨⟨v8, rfl, hO8⟩, hb8⟩
          have hS := hS.later hb8
          have h78 := hO7.ri.below hb8
          go_wp2_with fail
          refine (sameI_any v7 v8 M (by omega) _ h78 hO8.ri).mono ?_
          rintro e w9 ⟨rfl, hb9⟩
          have hS := hS.later hb9
          clear hR6 hO7 hO8 h78 hb6 hb7 hb8 hb9
          go_wp2_with fail
          go_roundg (gk - 1)
          case rel => exact ⟨i + 1, m, M, by omega, by go_num, by omega, hS⟩
          case measure => omega
      · have hfin : ¬ (i : Int) < N := hlt
        go_wp2_with fail
        refine (items_any p m L (by omega) _ hS.qu).mono ?_
        rintro e w6 ⟨⟨v6, rfl, hR6, _⟩, hb6⟩
        have hS := hS.later hb6
        go_wp2_with fail
        refine (theirs_any v6 L (by omega) _ hR6).mono ?_
        rintro e w7 ⟨⟨v7, rfl, hO7⟩, hb7⟩
        have hS := hS.later hb7
        go_wp2_with fail
        refine (ritems_any (r + 1) r L (by omega) _ hS.rq).mono ?_
        rintro e w8 ⟨⟨v8, rfl, hO8⟩, hb8⟩
        have hS := hS.later hb8
        have h78 := hO7.ri.below hb8
        go_wp2_with fail
        refine (sameI_any v7 v8 L (by omega) _ h78 hO8.ri).mono ?_
        rintro e w9 ⟨rfl, hb9⟩
        have hS := hS.later hb9
        clear hR6 hO7 hO8 h78 hb6 hb7 hb8 hb9
        go_wp2_with fail
        go_ret
        exact ⟨rfl, hB3.trans (hS.be.mono hpz)⟩

theorem acts_walk (a : Option Addr) (len cap : Nat) (l : List Ac) (w : World) (hI : IsActs w a len cap l) :
    Calls Try.prog 3 #[.slice a len cap] w fun e w' => e = .returned (.bool true) ∧ Below w.heap.size w w' := by
  obtain ⟨rfl, h1, h2⟩ := hI
  exact acts_core a cap l w h1 h2
end Go.Proofs.Ytagdacfgpgcbcaa
