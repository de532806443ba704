/-
  DoubtActs.
-/
import Derived.Test.YtahiiieifdhgeaaOpa
import Derived.Test.YtahiiieifdhgeaaEre
import Derived.Test.YtahiiieifdhgeaaEsh
import Derived.Deep.RegionHeld3
namespace Go.Proofs.Ytahiiieifdhgeaa
open Go.RowKit Go.Maps

/-- Both doubts, side by side: p has L, q has K. -/
structure St (W0 : World) (p q B : Nat) (m : Option Nat) (L K : List Dbt) (w : World) : Prop where
  du : Du p m L w
  rg : Rg B q K w
  hm : ∀ b, m = some b → B ≤ b
  be : Below p W0 w
  sz : B ≤ w.heap.size
  pr : p < q
section
variable {W0 w w' : World} {p q B : Nat} {m m' : Option Nat} {L K N : List Dbt}
theorem St.qb (h : St W0 p q B m L K w) : q < B := h.rg.lt_
theorem St.drew (h : St W0 p q B m L K w) : St W0 p q B m L K w.drew :=
  ⟨h.du.keep rfl (fun _ _ => rfl), h.rg.drew, h.hm, Below.drew' h.be, h.sz, h.pr⟩
theorem St.later (h : St W0 p q B m L K w) (k : Below w.heap.size w w') : St W0 p q B m L K w' :=
  ⟨h.du.below k, h.rg.below k, h.hm, h.be.trans (k.mono (by have := h.sz; have := h.qb; have := h.pr; omega)), Nat.le_trans h.sz k.size, h.pr⟩
theorem St.one (h : St W0 p q B m L K w) (hQ : Du p m' N w') (k : Mv p m m' w w') : St W0 p q B m' N K w' := by
  have hqb := h.qb
  have hpr := h.pr
  have hsz := h.sz
  exact ⟨hQ, h.rg.keep (k.block q h.rg.lt (by omega) (fun e => by have := h.hm q e.symm; omega)) (fun g cur hg hc => k.block g (Array.getElem?_eq_some_iff.1 hc).1 (by omega) (fun e => (h.du.some_ g e.symm).ne_cells hc rfl)), k.from_ hsz h.hm, h.be.trans (k.to (by omega) (Nat.le_refl _) (fun b hb => by have := h.hm b hb; omega)), Nat.le_trans hsz k.size, hpr⟩
theorem St.two (h : St W0 p q B m L K w) (hR : Rg B q N w') (k : Mr B q w w') : St W0 p q B m L N w' := by
  have hqb := h.qb
  have hpr := h.pr
  have hsz := h.sz
  exact ⟨h.du.keep (k.block p h.du.lt (by omega) (Or.inl (by omega))) (fun b hb => k.block b (h.du.mlt b hb) (by have := h.hm b hb; omega) (Or.inr (fun cs z e => (h.du.some_ b hb).ne_cells e rfl))), hR, h.hm, h.be.trans (k.to (by omega) (by omega) (by omega)), Nat.le_trans hsz k.size, hpr⟩

/-- Block G, from B on, is a box with the act x. -/
structure Bc (B G : Nat) (x : Ac) (w : World) : Prop where
  le : B ≤ G
  heap : w.heap[G]? = some (.cells #[.int .i64 x.k, .int .i64 x.n, .int .i64 x.m, .int .i64 x.un, .int .u64 x.ui, .int .i64 x.us, .int .u64 x.now, .float .f64 x.b] 37 (0, 0))
variable {G : Nat} {x : Ac}
theorem Bc.lt (h : Bc B G x w) : G < w.heap.size := (Array.getElem?_eq_some_iff.1 h.heap).1
theorem Bc.c (h : Bc B G x w) (i : Nat) {v : Value} (hv : x.cs[i]? = some v) : w.cell? ⟨G, i, none⟩ = some v := by
  have : x.cs.toArray[i]? = some v := by rw [List.getElem?_toArray]; exact hv
  have h2 : w.heap[G]? = some (.cells x.cs.toArray 37 (0, 0)) := h.heap
  simp [World.cell?, h2, this]
theorem Bc.below (h : Bc B G x w) (k : Below w.heap.size w w') : Bc B G x w' := ⟨h.le, (k.block G h.lt).trans h.heap⟩
theorem Bc.drew (h : Bc B G x w) : Bc B G x w.drew := ⟨h.le, h.heap⟩
theorem Bc.one (h : Bc B G x w) (hS : St W0 p q B m L K w) (k : Mv p m m' w w') : Bc B G x w' :=
  ⟨h.le, (k.block G h.lt (by have := h.le; have := hS.qb; have := hS.pr; omega) (fun e => (hS.du.some_ G e.symm).ne_cells h.heap rfl)).trans h.heap⟩
theorem Bc.two (h : Bc B G x w) (hS : St W0 p q B m L K w) (k : Mr B q w w') : Bc B G x w' :=
  ⟨h.le, (k.block G h.lt (by have := h.le; have := hS.qb; omega) (Or.inr (fun cs z e => by rw [h.heap] at e; simp at e))).trans h.heap⟩
end
theorem Own.drew {B : Nat} {v : Value} {l : List Upd} {w : World} (h : Own B v l w) : Own B v l w.drew := h.keep fun _ _ _ => rfl
theorem Bc.new (w : World) {B : Nat} (hB : B ≤ w.heap.size) (x : Ac) : Bc B w.heap.size x (w.alloc (.cells #[.int .i64 x.k, .int .i64 x.n, .int .i64 x.m, .int .i64 x.un, .int .u64 x.ui, .int .i64 x.us, .int .u64 x.now, .float .f64 x.b] 37)) := ⟨hB, heap_alloc_new w _⟩

/-- Drop of the reference, with the code's answer. -/
theorem rdrop_perm (B q : Nat) (K L : List Dbt) (hP : K.Perm L) (hL : Di L) (n : Int) (w : World) (hR : Rg B q K w) (hB : B ≤ w.heap.size) :
    Calls Try.prog 12 #[.pointer (some ⟨q, 0, none⟩), .int .i64 n] w fun e w' => e = .returned (.bool (hasD L n)) ∧ (∃ K', K'.Perm (lessD L n) ∧ Rg B q K' w') ∧ Mr B q w w' :=
  (rdrop_any B q K (by rw [hP.length_eq]; have := hL.length; omega) n w hR).mono fun e w' ⟨h1, h2, h3⟩ => ⟨by rw [h1, has_perm hP hL], ⟨_, hP.filter _, h2.mono hB hR.lt_⟩, Mr.but h3⟩

set_option maxHeartbeats 8000000 in
set_option maxRecDepth 100000 in
theorem acts_core (a : Option Addr) (cap : Nat) (l : List Ac) (w : World) (hR : Ra (.slice a l.length cap) l w) (hl : ∀ x ∈ l, AcOk x) :
    Calls Try.prog 3 #[.slice a l.length cap] w fun e w' => e = .returned (.bool true) ∧ Below w.heap.size w w' := by
  obtain ⟨N, HN⟩ : ∃ N, Hid (l.length = N) := ⟨_, rfl⟩
  rw [HN.out]
  by_cases hlen : 150 < N
  · have hl2 : (150 : Int) < N := by omega
    go_enter Try.func3, Try.ntmps3
    go_wp2_with (go_at_call 8; refine (shown_any _).mono ?_; rintro e w1 ⟨rfl, hb⟩)
    go_ret
    exact ⟨rfl, hb⟩
  · have hl2 : (N : Int) ≤ 150 := by omega
    have hl3 : ¬ (150 : Int) < N := by omega
    clear hlen
    go_enter Try.func3, Try.ntmps3
    go_wp2_with fail
    refine (shown_any _).mono ?_
    rintro e w1 ⟨rfl, hb1⟩
    have hQ := Du.new w1
    have ba := below_alloc w1 (.cells #[.map none] 27)
    obtain ⟨w2, HW2⟩ : ∃ w2, Hid (w2 = w1.alloc (.cells #[.map none] 27)) := ⟨_, rfl⟩
    rw [← HW2.out] at hQ ba
    have bb := below_alloc w2 (.cells #[.slice none 0 0] 31)
    have hRn := Rg.new w2 (B := w2.heap.size + 1) (Nat.lt_succ_self _)
    obtain ⟨w3, HW3⟩ : ∃ w3, Hid (w3 = w2.alloc (.cells #[.slice none 0 0] 31)) := ⟨_, rfl⟩
    rw [← HW3.out] at bb hRn
    have hz3 : w2.heap.size + 1 ≤ w3.heap.size := by rw [HW3.out]; simp
    go_upto_region 4 with fail
    rw [← HW2.out]
    go_upto_region 5 with fail
    rw [← HW3.out]
    have hB3 : Below w.heap.size w w3 := hb1.trans ((ba.mono hb1.size).trans (bb.mono (Nat.le_trans hb1.size ba.size)))
    have hpz : w.heap.size ≤ w1.heap.size := hb1.size
    have hpr : w1.heap.size < w2.heap.size := hQ.lt
    have hQ3 := hQ.below bb
    generalize w1.heap.size = p at *
    have hS0 : St w3 p w2.heap.size (w2.heap.size + 1) none [] [] w3 := ⟨hQ3, hRn, (fun b hb => by cases hb), Below.refl _ _, hz3, hpr⟩
    clear hQ ba bb hRn HW2 HW3 hb1 hQ3 hz3
    generalize w2.heap.size = q at *
    go_wp2_with fail
    go_loopg [5] N (fun gk t5 wr => ∃ (i : Nat) (m : Option Nat) (L K : List Dbt), i + gk = N ∧ t5 = .int .i64 i ∧ K.Perm L ∧ St w3 p q (q + 1) m L K wr)
    case atStart => exact ⟨0, none, [], [], by omega, rfl, List.Perm.refl _, hS0⟩
    case round =>
      clear hS0
      obtain ⟨i, m, L, K, hi, rfl, hP, hS⟩ := hrel
      have hL := hS.du.di
      have hLl := hL.length
      by_cases hlt : (i : Int) < N
      · have hil : i < l.length := by rw [HN.out]; omega
        obtain ⟨g, off, rfl, hg, hd⟩ := hR.at_ hil
        have hx := hl _ (List.getElem_mem hil)
        have hblk : wr.heap[g]? = w.heap[g]? := (hS.be.block g (by omega)).trans (hB3.block g hg)
        have d := fun c v hv => (World.cell?_of_block (w := w) (a := ⟨g, off + i * 8 + c, none⟩) hblk).trans (hd c v hv)
        clear hd hblk
        generalize l[i] = x at *
        obtain ⟨xk, xn, xm, un, ui, us, now, xb⟩ := x
        obtain ⟨hxn, hxm, hxi, hxw, hxb⟩ := hx
        have c0 := d 0 _ rfl
        have c1 := d 1 _ rfl
        have c2 := d 2 _ rfl
        have c3 := d 3 _ rfl
        have c4 := d 4 _ rfl
        have c5 := d 5 _ rfl
        have c6 := d 6 _ rfl
        have c7 := d 7 _ rfl
        simp only [Nat.add_zero] at c0 c1 c2 c3 c4 c5 c6 c7 hxn hxm hxi hxw hxb
        have i0 : (0 : Int) ≤ i := by omega
        have HB : Hid (xb < 2 ^ 64) := hxb
        clear d hxb
        have hG := Bc.new wr hS.sz ⟨xk, xn, xm, un, ui, us, now, xb⟩
        have hS1 := hS.later (below_alloc wr (.cells #[.int .i64 xk, .int .i64 xn, .int .i64 xm, .int .i64 un, .int .u64 ui, .int .i64 us, .int .u64 now, .float .f64 xb] 37))
        obtain ⟨w4, HW4⟩ : ∃ w4, Hid (w4 = wr.alloc (.cells #[.int .i64 xk, .int .i64 xn, .int .i64 xm, .int .i64 un, .int .u64 ui, .int .i64 us, .int .u64 now, .float .f64 xb] 37)) := ⟨_, rfl⟩
        simp only at hG
        rw [← HW4.out] at hG hS1
        clear hS
        have hst := fun a x w m => run_store Try.prog w a (.float .f64 x) m rfl
        go_upto_region 9 with fail
        rw [← HW4.out]
        clear hst HW4 c0 c1 c2 c3 c4 c5 c6 c7
        generalize wr.heap.size = G at *
        have e0 := hG.c 0 rfl
        have e1 := hG.c 1 rfl
        have e2 := hG.c 2 rfl
        have e3 := hG.c 3 rfl
        have e4 := hG.c 4 rfl
        have e5 := hG.c 5 rfl
        have e6 := hG.c 6 rfl
        have e7 := hG.c 7 rfl
        simp only at e0 e1 e2 e3 e4 e5 e6 e7
        rename_i hgN
        cases h0 : (xk == 0)
        · cases h1 : (xk == 1)
          · cases h2 : (xk == 2)
            · -- none of the three
              clear e1 e2 e3 e4 e5 e6 e7 hG
              go_wp2_with fail
              refine (all_any p m L _ hS1.du).mono ?_
              rintro e wa ⟨⟨va, rfl, hRa⟩, hba⟩
              have hla := hS1.du.di.length
              have hdi := hS1.du.di
              have hSa := hS1.later hba
              go_wp2_with fail
              refine (theirs_any va L (by omega) _ hRa.rb).mono ?_
              rintro e wb ⟨⟨vb, rfl, hOb⟩, hbb⟩
              have hSb := hSa.later hbb
              go_wp2_with fail
              refine (rall_any (q + 1) q K L hP hdi _ hSb.rg).mono ?_
              rintro e wc ⟨⟨vc, rfl, hOc⟩, hbc⟩
              have hSc := hSb.later hbc
              have hbc2 := hOb.rb.below hbc
              go_wp2_with fail
              refine (sameD_any vb vc L (by omega) _ hbc2 hOc.rb).mono ?_
              rintro e wd ⟨rfl, hbd⟩
              have hSd := hSc.later hbd
              clear hRa hOb hOc hbc2 hba hbb hbc hbd
              go_wp2_with fail
              go_roundg (gk - 1)
              case rel => exact ⟨i + 1, m, L, K, by omega, by go_num, hP, hSd⟩
              case measure => omega
            · -- Over
              obtain rfl : xk = 2 := by simpa using h2
              have hov := fun w hQ => over_any p m L now w hQ
              have hrov := fun w hR hB => rover_any (q + 1) q K L hP hL now w hR hB
              have hul : ((overD L now).map deadOf).length ≤ 1000000 := by rw [List.length_map]; have := List.length_filter_le (fun x : Dbt => decide (x.u ≤ now)) L; unfold overD; omega
              generalize (overD L now).map deadOf = U at *
              generalize stayD L now = M at *
              clear e1 e2 e3 e4 e5 e7
              go_wp2_with fail
              go_region_held3 (fun w' => w'.cell? ⟨G, 6, none⟩ = some (.int .u64 now)) (first | exact Bc.c hG 6 rfl | exact Bc.c (Bc.drew hG) 6 rfl) ((first
                | (go_at_call 14; refine (hov _ (by first | exact St.du hS1 | exact St.du (St.drew hS1))).mono ?_; rintro e w5 ⟨⟨v5, rfl, o5⟩, h5, hb5⟩; first | (have o5 := Own.mono o5 (St.sz hS1); have hG := Bc.one hG hS1 hb5; have hS1 := St.one hS1 h5 hb5) | (have o5 := Own.mono o5 (St.sz (St.drew hS1)); have hG := Bc.one (Bc.drew hG) (St.drew hS1) hb5; have hS1 := St.one (St.drew hS1) h5 hb5))
                | (go_at_call 15; refine (hrov _ (by first | exact St.rg hS1 | exact St.rg (St.drew hS1)) (by first | exact St.sz hS1 | exact St.sz (St.drew hS1))).mono ?_; rintro e w6 ⟨⟨v6, rfl, o6⟩, ⟨K6, hP6, h6⟩, hb6⟩; first | (have o5 := Own.butS o5 hb6 (Nat.le_refl _) (Nat.lt_succ_self _); have o6 := Own.mono o6 (St.sz hS1); have hG := Bc.two hG hS1 (Mr.but hb6); have hS1 := St.two hS1 h6 (Mr.but hb6)) | (have o5 := Own.butS (Own.drew o5) hb6 (Nat.le_refl _) (Nat.lt_succ_self _); have o6 := Own.mono o6 (St.sz (St.drew hS1)); have hG := Bc.two (Bc.drew hG) (St.drew hS1) (Mr.but hb6); have hS1 := St.two (St.drew hS1) h6 (Mr.but hb6)))
                | (go_at_call 13; refine (sameU_any _ _ U hul _ (by first | exact Own.ru o5 | exact Own.ru (Own.drew o5)) (by first | exact Own.ru o6 | exact Own.ru (Own.drew o6))).mono ?_; rintro e w7 ⟨rfl, hb7⟩; first | (have hG := Bc.below hG hb7; have hS1 := St.later hS1 hb7) | (have hG := Bc.below (Bc.drew hG) hb7; have hS1 := St.later (St.drew hS1) hb7))))
              go_wp2_with fail
              refine (all_any p m M _ hS1.du).mono ?_
              rintro e wa ⟨⟨va, rfl, hRa⟩, hba⟩
              have hla := hS1.du.di.length
              have hdi := hS1.du.di
              have hSa := hS1.later hba
              go_wp2_with fail
              refine (theirs_any va M (by omega) _ hRa.rb).mono ?_
              rintro e wb ⟨⟨vb, rfl, hOb⟩, hbb⟩
              have hSb := hSa.later hbb
              go_wp2_with fail
              refine (rall_any (q + 1) q K6 M hP6 hdi _ hSb.rg).mono ?_
              rintro e wc ⟨⟨vc, rfl, hOc⟩, hbc⟩
              have hSc := hSb.later hbc
              have hbc2 := hOb.rb.below hbc
              go_wp2_with fail
              refine (sameD_any vb vc M (by omega) _ hbc2 hOc.rb).mono ?_
              rintro e wd ⟨rfl, hbd⟩
              have hSd := hSc.later hbd
              clear hRa hOb hOc hbc2 hba hbb hbc hbd
              go_wp2_with fail
              go_roundg (gk - 1)
              case rel => exact ⟨i + 1, m, M, K6, by omega, by go_num, hP6, hSd⟩
              case measure => omega
          · -- Drop
            obtain rfl : xk = 1 := by simpa using h1
            have hdr := fun w hQ => drop_any p m L xn hxn w hQ
            have hrd := fun w hR hB => rdrop_perm (q + 1) q K L hP hL xn w hR hB
            generalize hasD L xn = r at *
            generalize lessD L xn = M at *
            clear e2 e3 e4 e5 e6 e7
            go_wp2_with fail
            go_region_held3 (fun w' => w'.cell? ⟨G, 1, none⟩ = some (.int .i64 xn)) (first | exact Bc.c hG 1 rfl | exact Bc.c (Bc.drew hG) 1 rfl) ((first
              | (go_at_call 11; refine (hdr _ (by first | exact St.du hS1 | exact St.du (St.drew hS1))).mono ?_; rintro e w5 ⟨rfl, h5, hb5⟩; first | (have hG := Bc.one hG hS1 hb5; have hS1 := St.one hS1 h5 hb5) | (have hG := Bc.one (Bc.drew hG) (St.drew hS1) hb5; have hS1 := St.one (St.drew hS1) h5 hb5))
              | (go_at_call 12; refine (hrd _ (by first | exact St.rg hS1 | exact St.rg (St.drew hS1)) (by first | exact St.sz hS1 | exact St.sz (St.drew hS1))).mono ?_; rintro e w6 ⟨rfl, ⟨K6, hP6, h6⟩, hb6⟩; first | (have hG := Bc.two hG hS1 hb6; have hS1 := St.two hS1 h6 hb6) | (have hG := Bc.two (Bc.drew hG) (St.drew hS1) hb6; have hS1 := St.two (St.drew hS1) h6 hb6))))
            go_wp2_with fail
            refine (all_any p m M _ hS1.du).mono ?_
            rintro e wa ⟨⟨va, rfl, hRa⟩, hba⟩
            have hla := hS1.du.di.length
            have hdi := hS1.du.di
            have hSa := hS1.later hba
            go_wp2_with fail
            refine (theirs_any va M (by omega) _ hRa.rb).mono ?_
            rintro e wb ⟨⟨vb, rfl, hOb⟩, hbb⟩
            have hSb := hSa.later hbb
            go_wp2_with fail
            refine (rall_any (q + 1) q K6 M hP6 hdi _ hSb.rg).mono ?_
            rintro e wc ⟨⟨vc, rfl, hOc⟩, hbc⟩
            have hSc := hSb.later hbc
            have hbc2 := hOb.rb.below hbc
            go_wp2_with fail
            refine (sameD_any vb vc M (by omega) _ hbc2 hOc.rb).mono ?_
            rintro e wd ⟨rfl, hbd⟩
            have hSd := hSc.later hbd
            clear hRa hOb hOc hbc2 hba hbb hbc hbd
            go_wp2_with fail
            go_roundg (gk - 1)
            case rel => exact ⟨i + 1, m, M, K6, by omega, by go_num, hP6, hSd⟩
            case measure => omega
        · -- Raise
          obtain rfl : xk = 0 := by simpa using h0
          have hra := fun w hQ => raise_any p m L un ui us xn now xm xb hxi hxw HB hxm w hQ
          have hrr := fun w hR hB => rraise_any (q + 1) q K L hP hL un ui us xn now xm xb hxw HB hxm w hR hB
          generalize raiseS L un ui us xn now xm xb = R at *
          obtain ⟨r1, r2, M⟩ := R
          simp only at hra hrr
          go_wp2_with fail
          refine (hra _ hS1.du).mono ?_
          rintro e w5 ⟨rfl, m5, h5, hb5⟩
          have hG := hG.one hS1 hb5
          have hS1 := hS1.one h5 hb5
          have e1 := hG.c 1 rfl
          have e2 := hG.c 2 rfl
          have e3 := hG.c 3 rfl
          have e4 := hG.c 4 rfl
          have e5 := hG.c 5 rfl
          have e6 := hG.c 6 rfl
          have e7 := hG.c 7 rfl
          simp only at e1 e2 e3 e4 e5 e6 e7
          go_wp2_with fail
          refine (hrr _ hS1.rg hS1.sz).mono ?_
          rintro e w6 ⟨rfl, K6, hP6, h6, hb6⟩
          have hG := hG.two hS1 hb6
          have hS1 := hS1.two h6 hb6
          have s1 : (r1 == r1) = true := by simp
          have s2 : (r2 == r2) = true := by simp
          clear e1 e2 e3 e4 e5 e6 e7 hra hrr
          go_wp2_with fail
          refine (all_any p m5 M _ hS1.du).mono ?_
          rintro e wa ⟨⟨va, rfl, hRa⟩, hba⟩
          have hla := hS1.du.di.length
          have hdi := hS1.du.di
          have hSa := hS1.later hba
          go_wp2_with fail
          refine (theirs_any va M (by omega) _ hRa.rb).mono ?_
          rintro e wb ⟨⟨vb, rfl, hOb⟩, hbb⟩
          have hSb := hSa.later hbb
          go_wp2_with fail
          refine (rall_any (q + 1) q K6 M hP6 hdi _ hSb.rg).mono ?_
          rintro e wc ⟨⟨vc, rfl, hOc⟩, hbc⟩
          have hSc := hSb.later hbc
          have hbc2 := hOb.rb.below hbc
          go_wp2_with fail
          refine (sameD_any vb vc M (by omega) _ hbc2 hOc.rb).mono ?_
          rintro e wd ⟨rfl, hbd⟩
          have hSd := hSc.later hbd
          clear hRa hOb hOc hbc2 hba hbb hbc hbd
          go_wp2_with fail
          go_roundg (gk - 1)
          case rel => exact ⟨i + 1, m5, M, K6, by omega, by go_num, hP6, hSd⟩
          case measure => omega
      · have hfin : ¬ (i : Int) < N := hlt
        go_wp2_with fail
        refine (all_any p m L _ hS.du).mono ?_
        rintro e wa ⟨⟨va, rfl, hRa⟩, hba⟩
        have hla := hS.du.di.length
        have hdi := hS.du.di
        have hSa := hS.later hba
        go_wp2_with fail
        refine (theirs_any va L (by omega) _ hRa.rb).mono ?_
        rintro e wb ⟨⟨vb, rfl, hOb⟩, hbb⟩
        have hSb := hSa.later hbb
        go_wp2_with fail
        refine (rall_any (q + 1) q K L hP hdi _ hSb.rg).mono ?_
        rintro e wc ⟨⟨vc, rfl, hOc⟩, hbc⟩
        have hSc := hSb.later hbc
        have hbc2 := hOb.rb.below hbc
        go_wp2_with fail
        refine (sameD_any vb vc L (by omega) _ hbc2 hOc.rb).mono ?_
        rintro e wd ⟨rfl, hbd⟩
        have hSd := hSc.later hbd
        clear hRa hOb hOc hbc2 hba hbb hbc hbd
        go_wp2_with fail
        go_ret
        exact ⟨rfl, hB3.trans (hSd.be.mono hpz)⟩

theorem doubtActs_walk (a : Option Addr) (len cap : Nat) (l : List Ac) (w : World) (hI : IsActs w a len cap l) :
    Calls Try.prog 3 #[.slice a len cap] w fun e w' => e = .returned (.bool true) ∧ Below w.heap.size w w' := by
  obtain ⟨rfl, h1, h2⟩ := hI
  exact acts_core a cap l w h1 h2
end Go.Proofs.Ytahiiieifdhgeaa
