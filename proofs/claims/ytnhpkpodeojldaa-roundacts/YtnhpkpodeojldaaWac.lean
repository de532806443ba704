/-
  RoundActs: the code and the reference side by side, walked.
-/
import Derived.Test.YtnhpkpodeojldaaRfj
import Derived.Test.YtnhpkpodeojldaaOpa
import Derived.Deep.RegionHeld3
namespace Go.Proofs.Ytnhpkpodeojldaa
open Go.RowKit

/-- A round and lots, and the reference's, side by side. -/
structure St (w0 : World) (B Bp q1 q2 p r : Nat) (lv : Value) (lots s m s' m' : List Int) (w : World) : Prop where
  rn : Rn 28 B q1 s w
  fn : Rn 31 B q2 s' w
  lt : Lt Bp p m w
  lf : Lf w0 r lv lots m' w
  ok1 : Ok m
  ok2 : Ok m'
  s1 : s.length ≤ 1000
  s2 : s'.length ≤ 1000
  ord : w0.heap.size ≤ q1 ∧ q1 < q2 ∧ q2 < Bp ∧ p < r ∧ r < B
theorem St.later {w0 : World} {B Bp q1 q2 p r : Nat} {lv : Value} {lots s m s' m' : List Int} {w w' : World} (h : St w0 B Bp q1 q2 p r lv lots s m s' m' w) (hb : Below w.heap.size w w') : St w0 B Bp q1 q2 p r lv lots s m s' m' w' :=
  ⟨h.rn.below hb, h.fn.below hb, h.lt.below hb, h.lf.later hb, h.ok1, h.ok2, h.s1, h.s2, h.ord⟩
theorem St.drew {w0 : World} {B Bp q1 q2 p r : Nat} {lv : Value} {lots s m s' m' : List Int} {w : World} (h : St w0 B Bp q1 q2 p r lv lots s m s' m' w) : St w0 B Bp q1 q2 p r lv lots s m s' m' w.drew :=
  ⟨h.rn.drew, h.fn.drew, h.lt.drew, h.lf.drew, h.ok1, h.ok2, h.s1, h.s2, h.ord⟩
theorem St.one {w0 : World} {B Bp q1 q2 p r : Nat} {lv : Value} {lots s m s' m' t n : List Int} {w w' : World} (h : St w0 B Bp q1 q2 p r lv lots s m s' m' w) (hR : Rn 28 B q1 t w') (hL : Lt Bp p n w') (hM : Mv q1 p w w') (hok : Ok n) (ht : t.length ≤ 1000) : St w0 B Bp q1 q2 p r lv lots t n s' m' w' := by
  have ho := h.ord
  have := h.lt.le
  exact ⟨hR, h.fn.mv hM ⟨by omega, by omega⟩ ⟨by omega, by omega⟩, hL, h.lf.mv hM ⟨by omega, by omega⟩ ⟨by omega, by omega⟩, hok, h.ok2, ht, h.s2, h.ord⟩
theorem St.two {w0 : World} {B Bp q1 q2 p r : Nat} {lv : Value} {lots s m s' m' t n : List Int} {w w' : World} (h : St w0 B Bp q1 q2 p r lv lots s m s' m' w) (hR : Rn 31 B q2 t w') (hL : Lf w0 r lv lots n w') (hM : Mv q2 r w w') (hok : Ok n) (ht : t.length ≤ 1000) : St w0 B Bp q1 q2 p r lv lots s m t n w' := by
  have ho := h.ord
  have := h.lt.le
  exact ⟨h.rn.mv hM ⟨by omega, by omega⟩ ⟨by omega, by omega⟩, hR, h.lt.mv hM (Or.inl (by omega)) (Or.inr (by omega)), hL, h.ok1, hok, h.s1, ht, h.ord⟩
theorem St.lone {w0 : World} {B Bp q1 q2 p r : Nat} {lv : Value} {lots s m s' m' n : List Int} {w w' : World} (h : St w0 B Bp q1 q2 p r lv lots s m s' m' w) (hL : Lt Bp p n w') (hB : But w.heap.size p w w') (hok : Ok n) : St w0 B Bp q1 q2 p r lv lots s n s' m' w' := by
  have ho := h.ord
  have := h.lt.le
  exact h.one (h.rn.but hB ⟨by omega, by omega⟩) hL (Mv.ofBut hB) hok h.s1
theorem St.ltwo {w0 : World} {B Bp q1 q2 p r : Nat} {lv : Value} {lots s m s' m' n : List Int} {w w' : World} (h : St w0 B Bp q1 q2 p r lv lots s m s' m' w) (hL : Lf w0 r lv lots n w') (hB : But w.heap.size r w w') (hok : Ok n) : St w0 B Bp q1 q2 p r lv lots s m s' n w' := by
  have ho := h.ord
  have := h.lt.le
  exact h.two (h.fn.but hB ⟨by omega, by omega⟩) hL (Mv.ofBut hB) hok h.s2
/-- A cell that came in. -/
theorem St.cell {w0 : World} {B Bp q1 q2 p r : Nat} {lv : Value} {lots s m s' m' : List Int} {w : World} (h : St w0 B Bp q1 q2 p r lv lots s m s' m' w) {x : Addr} {u : Value} (hc : w0.cell? x = some u) (hx : x.block < w0.heap.size) : w.cell? x = some u :=
  (World.cell?_of_block (w := w0) (h.lf.below.block _ hx)).trans hc

/-- A list whose row is none of theirs. -/
structure Yo (B : Nat) (v : Value) (o : List Int) (w : World) : Prop where
  rd : Rd .i64 v o w
  own : ∀ g, v.ownBlock = some g → B ≤ g
theorem Yo.mv {B : Nat} {v : Value} {o : List Int} {w w' : World} {q p : Nat} (h : Yo B v o w) (hM : Mv q p w w') (hq : q < B) (hp : p < B) : Yo B v o w' :=
  ⟨h.rd.mv hM fun g hg => by have := h.own g hg; omega, h.own⟩
theorem Yo.but {B : Nat} {v : Value} {o : List Int} {w w' : World} {p : Nat} (h : Yo B v o w) (hM : But w.heap.size p w w') (hp : p < B) : Yo B v o w' :=
  ⟨h.rd.but hM fun g hg => by have := h.own g hg; omega, h.own⟩
theorem Yo.drew {B : Nat} {v : Value} {o : List Int} {w : World} (h : Yo B v o w) : Yo B v o w.drew := ⟨h.rd.drew, h.own⟩

set_option maxRecDepth 100000 in
set_option maxHeartbeats 4000000 in
theorem acts_walk (la : Option Addr) (llen lcap : Nat) (l : List Int) (a : Option Addr) (len cap : Nat) (A : Nat → Ask) (w : World) (hl : Lots w la llen lcap l) (hA : IsAsks w a len cap A) :
    Calls Try.prog 3 #[.slice la llen lcap, .slice a len cap] w fun e w' => e = .returned (.bool true) ∧ Below w.heap.size w w' := by
  obtain ⟨hRl, hok⟩ := hl
  obtain rfl := hRl.len
  obtain ⟨hA1, hA2, hA3⟩ := hA
  by_cases hlen : (500 : Int) < l.length
  · go_enter Try.func3, Try.ntmps3
    go_wp2_with fail
    refine (shown_any w).mono ?_
    rintro e w1 ⟨rfl, hb1⟩
    go_wp2_with fail
    go_ret
    exact ⟨rfl, hb1⟩
  have hll : (l.length : Int) ≤ 500 := by omega
  by_cases hln : (60 : Int) < len
  · go_enter Try.func3, Try.ntmps3
    go_wp2_with fail
    refine (shown_any w).mono ?_
    rintro e w1 ⟨rfl, hb1⟩
    go_wp2_with fail
    go_ret
    exact ⟨rfl, hb1⟩
  have hln2 : (len : Int) ≤ 60 := by omega
  have hl3 : len ≤ 60 := by omega
  go_enter Try.func3, Try.ntmps3
  go_wp2_with fail
  refine (shown_any w).mono ?_
  rintro e w1 ⟨rfl, hb1⟩
  have n2 := heap_alloc_new w1 (.cells #[.slice none 0 0] 28)
  have b2 := below_alloc w1 (.cells #[.slice none 0 0] 28)
  obtain ⟨w2, HW2⟩ : ∃ w2, Hid (w2 = w1.alloc (.cells #[.slice none 0 0] 28)) := ⟨_, rfl⟩
  rw [← HW2.out] at n2 b2
  have z2 : w1.heap.size < w2.heap.size := (Array.getElem?_eq_some_iff.1 n2).1
  go_upto_region 4 with fail
  rw [← HW2.out]
  have n3 := heap_alloc_new w2 (.cells #[.slice none 0 0] 31)
  have b3 := below_alloc w2 (.cells #[.slice none 0 0] 31)
  obtain ⟨w3, HW3⟩ : ∃ w3, Hid (w3 = w2.alloc (.cells #[.slice none 0 0] 31)) := ⟨_, rfl⟩
  rw [← HW3.out] at n3 b3
  have z3 : w2.heap.size < w3.heap.size := (Array.getElem?_eq_some_iff.1 n3).1
  go_upto_region 5 with fail
  rw [← HW3.out]
  have e3 : Below w.heap.size w w3 := (hb1.trans (b2.mono hb1.size)).trans (b3.mono (Nat.le_trans hb1.size b2.size))
  go_wp2_with fail
  refine (new_any _ l w3 (by omega) (hRl.below e3)).mono ?_
  rintro e w4 ⟨⟨p, rfl, hL4⟩, hb4⟩
  have n5 := heap_alloc_new w4 (.cells #[.slice la l.length lcap, .int .i64 0] 36)
  have b5 := below_alloc w4 (.cells #[.slice la l.length lcap, .int .i64 0] 36)
  obtain ⟨w5, HW5⟩ : ∃ w5, Hid (w5 = w4.alloc (.cells #[.slice la l.length lcap, .int .i64 0] 36)) := ⟨_, rfl⟩
  rw [← HW5.out] at n5 b5
  have z5 : w4.heap.size < w5.heap.size := (Array.getElem?_eq_some_iff.1 n5).1
  go_upto_region 7 with fail
  rw [← HW5.out]
  have z4 := hb4.size
  have z1 := hb1.size
  have e4 := e3.trans (hb4.mono e3.size)
  have e5 := e4.trans (b5.mono e4.size)
  have b35 := hb4.trans (b5.mono hb4.size)
  have hS : St w w5.heap.size w3.heap.size w1.heap.size w2.heap.size p w4.heap.size (.slice la l.length lcap) l [] l [] l w5 :=
    ⟨Rn.new _ _ _ _ (((b35.block _ (by omega)).trans (b3.block _ z2)).trans n2) (by omega) (Nat.le_refl _), Rn.new _ _ _ _ ((b35.block _ z3).trans n3) (by omega) (Nat.le_refl _), hL4.below b5, ⟨⟨0, Nat.zero_le _, rfl, n5⟩, e5, by omega⟩, hok, hok, by simp, by simp, ⟨by omega, z2, z3, hL4.lt, z5⟩⟩
  have hord := hS.ord
  clear hL4 n2 n3 n5 b2 b3 b5 b35 hb1 hb4 e3 e4 e5
  generalize w5.heap.size = B at *
  generalize w4.heap.size = r at *
  generalize w3.heap.size = Bp at *
  generalize w2.heap.size = q2 at *
  generalize w1.heap.size = q1 at *
  have hq1 : q1 < B := by have := hS.lt.le; omega
  have hq2 : q2 < B := by have := hS.lt.le; omega
  have hpB : p < B := by omega
  have hrB : r < B := by omega
  have hrq2 : r ≠ q2 := by have := hS.lt.le; omega
  have hq20 : w.heap.size ≤ q2 := by omega
  clear z1 z2 z3 z4 z5
  go_wp2_with fail
  go_loopg [9] len (fun gk t9 wr => ∃ (i : Nat) (S M : List Int), i + gk = len ∧ t9 = .int .i64 i ∧ S.length ≤ 64 + i ∧ St w B Bp q1 q2 p r (.slice la l.length lcap) l S M S M wr)
  case atStart => exact ⟨0, [], l, by omega, rfl, by simp, hS⟩
  case round =>
    obtain ⟨i, S, M, hg, rfl, hSl, hS⟩ := hrel
    by_cases hlt : (i : Int) < len
    · have hil : i < len := by omega
      have i0 : (0 : Int) ≤ i := by omega
      rcases hA3 with h0 | ⟨gb, off, rfl, hgb, hA3⟩
      · omega
      have hAi := hA3 i hil
      clear hA3
      generalize A i = Ai at *
      obtain ⟨kd, xn, xo, bo⟩ := Ai
      obtain ⟨c0, c1, c2, c3, hnl, hob⟩ := hAi
      simp only [] at c0 c1 c2 c3 hnl hob
      have d0 := hS.cell c0 hgb
      have d1 := hS.cell c1 hgb
      have d2 := hS.cell c2 hgb
      have d3 := hS.cell c3 hgb
      have hsm := lst_small bo
      have hlist := fun w' => rlist_any bo hob w'
      generalize lst bo = o at *
      go_wp2_with fail
      refine (hlist _).mono ?_
      rintro e w6 ⟨v6, rfl, o6, hb6⟩
      have hY : Yo B v6 o w6 := ⟨Rd.of o6, fun g hg => Nat.le_trans hS.rn.size (o6.lt g hg).1⟩
      have hS := hS.later hb6
      have d0 := hS.cell c0 hgb
      have d1 := hS.cell c1 hgb
      have d2 := hS.cell c2 hgb
      obtain ⟨a6, cap6, e6, _⟩ := id hY.rd
      subst e6
      clear hlist o6 hb6 d3
      by_cases k0 : kd = 0
      · subst k0
        have hlS := nxtS_length S o M
        have hN1 := rnext_any Bp B q1 p _ S o M w6 (by omega) (by omega) hY.rd (fun g hg => by have := hY.own g hg; omega) hS.rn hS.lt hS.ok1 (Or.inl (by omega)) hpB
        have hN2 := fun w' hv hR hL => fnextr_any w B q2 r la lcap (.slice a6 o.length cap6) S o l M w' (by omega) (by omega) hv (fun g hg => by have := hY.own g hg; omega) hR hRl hL hS.ok2 hrq2 hrB hq20
        have ho2 := nxtS_ok S o hS.ok1
        have HL2 : Hid ((nxtS S o M).2.1.length ≤ 64 + (i + 1)) := show _ ≤ _ by omega
        have hlM : (nxtS S o M).2.1.length ≤ 1000 := by omega
        generalize (nxtS S o M).2.1 = S2 at *
        generalize (nxtS S o M).2.2 = M2 at *
        generalize (nxtS S o M).1.1 = y at *
        generalize (nxtS S o M).1.2 = z at *
        have hyy : (y == y) = true := by simp
        have hzz : (z == z) = true := by simp
        have hmm : ((M2.length : Int) != (M2.length : Int)) = false := by simp
        go_wp2_with fail
        refine hN1.mono ?_
        rintro e w7 ⟨rfl, hR7, hL7, hM7⟩
        have hY := hY.mv hM7 hq1 hpB
        have hS := hS.one hR7 hL7 hM7 ho2 hlM
        go_wp2_with fail
        refine (hN2 w7 hY.rd hS.fn hS.lf).mono ?_
        rintro e w8 ⟨rfl, hR8, hL8, hM8⟩
        have hS := hS.two hR8 hL8 hM8 ho2 hlM
        clear hN1 hN2 hR7 hL7 hM7 hR8 hL8 hM8 d0 d1 d2 hlS
        go_wp2_with fail
        refine (left_any Bp p M2 _ hS.lt).mono ?_
        rintro e wa ⟨rfl, hwa⟩
        subst hwa
        go_wp2_with fail
        refine (fleft_any w r la lcap l M2 _ (by omega) hS.lf).mono ?_
        rintro e wb ⟨rfl, hbb⟩
        have hS := hS.later hbb
        go_wp2_with fail
        refine (rleft_any B q1 S2 _ (Nat.le_trans hS.s1 (by omega)) hS.rn).mono ?_
        rintro e wc ⟨⟨vc, rfl, oc⟩, hbc⟩
        have hS := hS.later hbc
        have rc := Rd.of oc
        obtain ⟨ac, capc, ec, _⟩ := id rc
        subst ec
        go_wp2_with fail
        refine (fleftr_any B q2 S2 _ hS.s2 hS.fn).mono ?_
        rintro e wd ⟨⟨vd, rfl, od⟩, hbd⟩
        have hS := hS.later hbd
        have rc := rc.below hbd
        have rd := Rd.of od
        obtain ⟨ad, capd, ed, _⟩ := id rd
        subst ed
        have hl2 : S2.length ≤ 1000000 := Nat.le_trans hS.s1 (by omega)
        clear oc od hbb hbc hbd
        go_wp2_with fail
        refine (same_any _ _ S2 _ hl2 rc rd).mono ?_
        rintro e we ⟨rfl, hbe⟩
        have hS := hS.later hbe
        go_wp2_with fail
        go_roundg (gk - 1)
        case rel => exact ⟨i + 1, S2, M2, by omega, by go_num, HL2.out, hS⟩
        case measure => omega
      by_cases k1 : kd = 1
      · subst k1
        have hlS := joinS_length S xn M
        have hN1 := rjoin_any Bp B q1 p S M xn w6 (by omega) hS.rn hS.lt hS.ok1 (Or.inl (by omega)) hpB
        have hN2 := fun w' hR hL => fjoin_any w B q2 r la lcap S l M xn w' (by omega) (by omega) hR hRl hL hS.ok2 hrq2 hrB hq20
        have ho2 := joinS_ok S xn hS.ok1
        have HL2 : Hid ((joinS S xn M).1.length ≤ 64 + (i + 1)) := show _ ≤ _ by omega
        have hlM : (joinS S xn M).1.length ≤ 1000 := by omega
        generalize (joinS S xn M).1 = S2 at *
        generalize (joinS S xn M).2 = M2 at *
        have hmm : ((M2.length : Int) != (M2.length : Int)) = false := by simp
        go_wp2_with fail
        refine hN1.mono ?_
        rintro e w7 ⟨rfl, hR7, hL7, hM7⟩
        have hS := hS.one hR7 hL7 hM7 ho2 hlM
        have d1 := hS.cell c1 hgb
        go_wp2_with fail
        refine (hN2 w7 hS.fn hS.lf).mono ?_
        rintro e w8 ⟨rfl, hR8, hL8, hM8⟩
        have hS := hS.two hR8 hL8 hM8 ho2 hlM
        clear hN1 hN2 hR7 hL7 hM7 hR8 hL8 hM8 d0 d1 d2 hlS
        go_wp2_with fail
        refine (left_any Bp p M2 _ hS.lt).mono ?_
        rintro e wa ⟨rfl, hwa⟩
        subst hwa
        go_wp2_with fail
        refine (fleft_any w r la lcap l M2 _ (by omega) hS.lf).mono ?_
        rintro e wb ⟨rfl, hbb⟩
        have hS := hS.later hbb
        go_wp2_with fail
        refine (rleft_any B q1 S2 _ (Nat.le_trans hS.s1 (by omega)) hS.rn).mono ?_
        rintro e wc ⟨⟨vc, rfl, oc⟩, hbc⟩
        have hS := hS.later hbc
        have rc := Rd.of oc
        obtain ⟨ac, capc, ec, _⟩ := id rc
        subst ec
        go_wp2_with fail
        refine (fleftr_any B q2 S2 _ hS.s2 hS.fn).mono ?_
        rintro e wd ⟨⟨vd, rfl, od⟩, hbd⟩
        have hS := hS.later hbd
        have rc := rc.below hbd
        have rd := Rd.of od
        obtain ⟨ad, capd, ed, _⟩ := id rd
        subst ed
        have hl2 : S2.length ≤ 1000000 := Nat.le_trans hS.s1 (by omega)
        clear oc od hbb hbc hbd
        go_wp2_with fail
        refine (same_any _ _ S2 _ hl2 rc rd).mono ?_
        rintro e we ⟨rfl, hbe⟩
        have hS := hS.later hbe
        go_wp2_with fail
        go_roundg (gk - 1)
        case rel => exact ⟨i + 1, S2, M2, by omega, by go_num, HL2.out, hS⟩
        case measure => omega
      by_cases k2 : kd = 2
      · subst k2
        have hN1 := fun w' hv hL => help_any Bp p (.slice a6 o.length cap6) o M xo xn w' (by omega) hnl hv hL hS.ok1
        have hN2 := fun w' hv hL => fhelp_any w r la lcap (.slice a6 o.length cap6) o l M xo xn w' (by omega) hnl (by omega) hv hRl hL hS.ok2
        have ho2 := helpS_ok o xo xn hS.ok1
        have HL2 : Hid (S.length ≤ 64 + (i + 1)) := show _ ≤ _ by omega
        have hlH : (helpS o xo xn M).1.length ≤ 1000000 := by
          have h1 := List.length_filter_le (fun y => !decide (y = xo)) o
          unfold helpS someS
          split
          · simp
          · simp [shufS_length]; omega
        generalize (helpS o xo xn M).1 = H at *
        generalize (helpS o xo xn M).2 = M2 at *
        obtain ⟨S2, hS2⟩ : ∃ S2, S2 = S := ⟨_, rfl⟩
        rw [← hS2] at hS HL2
        clear hS2 hSl
        have hmm : ((M2.length : Int) != (M2.length : Int)) = false := by simp
        go_wp2_with fail
        have hz6 := hS.rn.size
        go_region_held3 (fun w' => w'.cell? ⟨gb, off + i * 4 + 2, none⟩ = some (.int .i64 xo) ∧ w'.cell? ⟨gb, off + i * 4 + 1, none⟩ = some (.int .i64 xn)) (first | exact ⟨St.cell hS c2 hgb, St.cell hS c1 hgb⟩ | exact ⟨St.cell (St.drew hS) c2 hgb, St.cell (St.drew hS) c1 hgb⟩) ((first
          | (go_at_call 16; refine (hN1 _ (by first | exact hY.rd | exact (Yo.drew hY).rd) (by first | exact St.lt hS | exact St.lt (St.drew hS))).mono ?_; rintro e w7 ⟨⟨v7, rfl, r7, g7⟩, hL7, hB7⟩; have g7 : ∀ g, v7.ownBlock = some g → B ≤ g := fun g hg => Nat.le_trans hz6 (g7 g hg).1; first | (have hY := Yo.but hY hB7 hpB; have hS := St.lone hS hL7 hB7 ho2) | (have hY := Yo.but (Yo.drew hY) hB7 hpB; have hS := St.lone (St.drew hS) hL7 hB7 ho2))
          | (go_at_call 17; refine (hN2 _ (by first | exact hY.rd | exact (Yo.drew hY).rd) (by first | exact St.lf hS | exact St.lf (St.drew hS))).mono ?_; rintro e w8 ⟨⟨v8, rfl, r8⟩, hL8, hB8⟩; first | (have r7 := Rd.but r7 hB8 (fun g hg e => by have := g7 g hg; omega); have hS := St.ltwo hS hL8 hB8 ho2) | (have r7 := Rd.but (Rd.drew r7) hB8 (fun g hg e => by have := g7 g hg; omega); have hS := St.ltwo (St.drew hS) hL8 hB8 ho2))
          | (go_at_call 15; refine (same_any _ _ H _ hlH (by first | exact r7 | exact Rd.drew r7) (by first | exact Res.rd r8 | exact Rd.drew (Res.rd r8))).mono ?_; rintro e w9 ⟨rfl, hb9⟩; first | have hS := St.later hS hb9 | have hS := St.later (St.drew hS) hb9)))
        go_wp2_with fail
        refine (left_any Bp p M2 _ hS.lt).mono ?_
        rintro e wa ⟨rfl, hwa⟩
        subst hwa
        go_wp2_with fail
        refine (fleft_any w r la lcap l M2 _ (by omega) hS.lf).mono ?_
        rintro e wb ⟨rfl, hbb⟩
        have hS := hS.later hbb
        go_wp2_with fail
        refine (rleft_any B q1 S2 _ (Nat.le_trans hS.s1 (by omega)) hS.rn).mono ?_
        rintro e wc ⟨⟨vc, rfl, oc⟩, hbc⟩
        have hS := hS.later hbc
        have rc := Rd.of oc
        obtain ⟨ac, capc, ec, _⟩ := id rc
        subst ec
        go_wp2_with fail
        refine (fleftr_any B q2 S2 _ hS.s2 hS.fn).mono ?_
        rintro e wd ⟨⟨vd, rfl, od⟩, hbd⟩
        have hS := hS.later hbd
        have rc := rc.below hbd
        have rd := Rd.of od
        obtain ⟨ad, capd, ed, _⟩ := id rd
        subst ed
        have hl2 : S2.length ≤ 1000000 := Nat.le_trans hS.s1 (by omega)
        clear oc od hbb hbc hbd
        go_wp2_with fail
        refine (same_any _ _ S2 _ hl2 rc rd).mono ?_
        rintro e we ⟨rfl, hbe⟩
        have hS := hS.later hbe
        go_wp2_with fail
        go_roundg (gk - 1)
        case rel => exact ⟨i + 1, S2, M2, by omega, by go_num, HL2.out, hS⟩
        case measure => omega
      · have HL2 : Hid (S.length ≤ 64 + (i + 1)) := show _ ≤ _ by omega
        obtain ⟨S2, hS2⟩ : ∃ S2, S2 = S := ⟨_, rfl⟩
        obtain ⟨M2, hM2⟩ : ∃ M2, M2 = M := ⟨_, rfl⟩
        rw [← hS2, ← hM2] at hS
        rw [← hS2] at HL2
        clear hS2 hM2 hSl
        have hmm : ((M2.length : Int) != (M2.length : Int)) = false := by simp
        have e0 : (kd == 0) = false := by simp [k0]
        have e1 : (kd == 1) = false := by simp [k1]
        have e2 : (kd == 2) = false := by simp [k2]
        clear k0 k1 k2
        go_wp2_with fail
        refine (left_any Bp p M2 _ hS.lt).mono ?_
        rintro e wa ⟨rfl, hwa⟩
        subst hwa
        go_wp2_with fail
        refine (fleft_any w r la lcap l M2 _ (by omega) hS.lf).mono ?_
        rintro e wb ⟨rfl, hbb⟩
        have hS := hS.later hbb
        go_wp2_with fail
        refine (rleft_any B q1 S2 _ (Nat.le_trans hS.s1 (by omega)) hS.rn).mono ?_
        rintro e wc ⟨⟨vc, rfl, oc⟩, hbc⟩
        have hS := hS.later hbc
        have rc := Rd.of oc
        obtain ⟨ac, capc, ec, _⟩ := id rc
        subst ec
        go_wp2_with fail
        refine (fleftr_any B q2 S2 _ hS.s2 hS.fn).mono ?_
        rintro e wd ⟨⟨vd, rfl, od⟩, hbd⟩
        have hS := hS.later hbd
        have rc := rc.below hbd
        have rd := Rd.of od
        obtain ⟨ad, capd, ed, _⟩ := id rd
        subst ed
        have hl2 : S2.length ≤ 1000000 := Nat.le_trans hS.s1 (by omega)
        clear oc od hbb hbc hbd
        go_wp2_with fail
        refine (same_any _ _ S2 _ hl2 rc rd).mono ?_
        rintro e we ⟨rfl, hbe⟩
        have hS := hS.later hbe
        go_wp2_with fail
        go_roundg (gk - 1)
        case rel => exact ⟨i + 1, S2, M2, by omega, by go_num, HL2.out, hS⟩
        case measure => omega
    · go_wp2_with fail
      refine (rleft_any B q1 S _ (by omega) hS.rn).mono ?_
      rintro e wc ⟨⟨vc, rfl, oc⟩, hbc⟩
      have hS := hS.later hbc
      have rc := Rd.of oc
      obtain ⟨ac, capc, ec, _⟩ := id rc
      subst ec
      go_wp2_with fail
      refine (fleftr_any B q2 S _ hS.s2 hS.fn).mono ?_
      rintro e wd ⟨⟨vd, rfl, od⟩, hbd⟩
      have hS := hS.later hbd
      have rc := rc.below hbd
      have rd := Rd.of od
      obtain ⟨ad, capd, ed, _⟩ := id rd
      subst ed
      go_wp2_with fail
      refine (same_any _ _ S _ (by omega) rc rd).mono ?_
      rintro e we ⟨rfl, hbe⟩
      have hS := hS.later hbe
      go_wp2_with fail
      go_ret
      exact ⟨rfl, hS.lf.below⟩
end Go.Proofs.Ytnhpkpodeojldaa
