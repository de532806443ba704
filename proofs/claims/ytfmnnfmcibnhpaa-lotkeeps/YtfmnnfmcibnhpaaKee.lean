/-
  The walk of LotKeeps.
-/
import Derived.Test.YtfmnnfmcibnhpaaCnt
import Derived.Test.YtfmnnfmcibnhpaaOpn
namespace Go.Proofs.Ytfmnnfmcibnhpaa
open Go.RowKit Go.Maps

theorem Cnt.at {c : Int → Int} {b n : Nat} {D : DataW Unit} {w : World} (h : Cnt c b n D w) {x y z : Int} (hz : c x = z) (hat : D.atKey (.int .i64 x) (.lit (.int .i64 0)) = .lit (.int .i64 y)) : y = z := by
  have := (h.is x).symm.trans hat
  rw [hz] at this
  injection this with this
  injection this with _ this
  exact this.symm

theorem Rd.cap_le {k : IntKind} {a : Option Addr} {len cap : Nat} {l : List Int} {w : World} (h : Rd k (.slice a len cap) l w) : len ≤ cap := by
  obtain ⟨a', cap', e, h1, _⟩ := h
  cases e
  exact h1

set_option maxRecDepth 100000 in
set_option maxHeartbeats 2000000 in
theorem keeps_walk (a : Option Addr) (len cap : Nat) (l : List Int) (a' : Option Addr) (len' cap' : Nat) (s : List Int) (n : Int) (wn : (Lit.int .u8 n).wf = true) (w : World) (h : Lots w a len cap l) (h' : List_ w a' len' cap' s) :
    Calls Try.prog 4 #[.slice a len cap, .slice a' len' cap', .int .u8 n] w fun e w' => e = .returned (.bool true) ∧ Below w.heap.size w w' := by
  obtain ⟨n0, n1⟩ := bounds_u8 wn
  clear wn
  obtain ⟨hR, hok⟩ := h
  obtain ⟨hS, hSw⟩ := h'
  obtain rfl := hR.len
  obtain rfl := hS.len
  obtain ⟨NN, rfl⟩ : ∃ NN : Nat, n = NN := ⟨n.toNat, by omega⟩
  by_cases hl : (300 : Int) < l.length
  · go_enter Try.func4, Try.ntmps4
    go_wp2_with (go_at_call 9; refine (shown_any _).mono ?_; rintro e w1 ⟨rfl, hb1⟩)
    go_ret
    exact ⟨rfl, hb1⟩
  by_cases hs : (100 : Int) < s.length
  · go_enter Try.func4, Try.ntmps4
    go_wp2_with (go_at_call 9; refine (shown_any _).mono ?_; rintro e w1 ⟨rfl, hb1⟩)
    go_ret
    exact ⟨rfl, hb1⟩
  have hmm := @run_makeMap Try.prog
  go_enter Try.func4, Try.ntmps4
  go_wp2_with fail
  refine (shown_any _).mono ?_
  rintro e w1 ⟨rfl, hb1⟩
  have z1 := hb1.size
  have hS1 := (hS.below hb1).below ((Below.refl _ w1).alloc (Nat.le_refl _) (.cells #[] 3))
  go_wp2_with (at_builtin; refine wpList_append_copy rfl (.tmp 28) (.tmp 29) rfl _ w1.heap.size rfl (World.ownsRow_made w1 #[] 0 (Nat.le_refl _) (Nat.zero_le _) rfl) (fun e => by cases e) (by simp) _ s rfl hS1 (by omega) ?_; intro wasV w2 hW2 hWs hgr)
  have hb2 : Below w1.heap.size w1 w2 := ((Below.refl _ w1).alloc (Nat.le_refl _) _).grown hgr (by simp) (fun k hk => by cases hk; exact Nat.le_refl _)
  have b2 : Below w.heap.size w w2 := hb1.trans (hb2.mono z1)
  have z2 := hb2.size
  clear hS1 hgr hWs
  refine (new_any _ l _ (by omega) (hR.below b2)).mono ?_
  rintro e w3 ⟨⟨p, rfl, hL3⟩, hb3⟩
  have z3 := hb3.size
  have hp := hL3.le
  have b3 : Below w.heap.size w w3 := b2.trans (hb3.mono (by omega))
  go_wp2_with fail
  refine (shuffle_any _ p _ s l _ (by omega) (hS.below b3) hL3 hok).mono ?_
  rintro e w4 ⟨⟨sV, rfl, hV4, _⟩, _, hb4⟩
  have z4 := hb4.size
  have b4 : Below w.heap.size w w4 := b3.trans (hb4.belowAt (by omega) (by omega))
  have k4 : Below w2.heap.size w2 w4 := hb3.trans (hb4.belowAt (by omega) (by omega))
  go_wp2_with fail
  refine (new_any _ l _ (by omega) (hR.below b4)).mono ?_
  rintro e w5 ⟨⟨q, rfl, hL5⟩, hb5⟩
  have z5 := hb5.size
  have hq := hL5.le
  have b5 : Below w.heap.size w w5 := b4.trans (hb5.mono (by omega))
  go_wp2_with fail
  refine (some_any _ q _ s l NN _ (by omega) (by omega) (hS.below b5) hL5 hok).mono ?_
  rintro e w6 ⟨⟨tV, rfl, hV6, _⟩, _, hb6⟩
  have z6 := hb6.size
  have b6 : Below w.heap.size w w6 := b5.trans (hb6.belowAt (by omega) (by omega))
  have k6 : Below w2.heap.size w2 w6 := k4.trans ((hb5.mono (by omega)).trans (hb6.belowAt (by omega) (by omega)))
  have j6 : Below w4.heap.size w4 w6 := hb5.trans (hb6.belowAt (by omega) (by omega))
  have hW6 := hW2.below k6
  have hV6' := hV4.below j6
  have hS6 := hS.below b6
  rw [someS_take] at hV6
  have hsl := shufS_length s l
  have hpm := shufS_perm s l
  generalize (shufS s l).1 = sh at hV6 hV6' hsl hpm
  obtain ⟨K, hK⟩ : ∃ K, min NN s.length = K := ⟨_, rfl⟩
  have hKl : K ≤ s.length := by omega
  rw [hK] at hV6
  have hKt : (sh.take K).length = K := by rw [List.length_take]; omega
  obtain ⟨sa, scap, rfl, _⟩ := (id hV6' : Rd _ _ _ _)
  obtain ⟨ta, tcap, rfl, _⟩ := (id hV6 : Rd _ _ _ _)
  clear hb1 hb2 hb3 hb4 hb5 hb6 b2 b3 b4 b5 k4 k6 j6 hL3 hL5 hV4 hW2
  rw [hsl] at hV6' ⊢
  rw [hKt] at hV6 ⊢
  have HK : Hid _ := hK
  have HSW : Hid _ := hSw
  have HPM : Hid _ := hpm
  clear hK hSw hpm
  go_wp2_with fail
  have hC0 : Cnt (cnt (s.take 0)) w6.heap.size 0 (.map []) (w6.alloc (.map #[] 0)) := ⟨World.ownsMap_made _ _ _ _, fun x => rfl⟩
  have hB0 : Below w6.heap.size w6 (w6.alloc (.map #[] 0)) := (Below.refl _ _).alloc (Nat.le_refl _) _
  go_loopg [11] s.length (fun gk t11 wr => ∃ (i : Nat) (D : DataW Unit), i + gk = s.length ∧ t11 = .int .i64 i ∧ Cnt (cnt (s.take i)) w6.heap.size i D wr ∧ Below w6.heap.size w6 wr)
  case atStart => exact ⟨0, _, by omega, rfl, hC0, hB0⟩
  case round =>
    clear hC0 hB0
    obtain ⟨i, D, hi, rfl, hC, hB⟩ := hrel
    by_cases hlt : (i : Int) < s.length
    · have hil : i < s.length := by omega
      obtain ⟨g, off, rfl, hc⟩ := (hS6.below hB).at i hil
      have i0 : (0 : Int) ≤ i := by omega
      have hst := cnt_take s i hil
      have hwx := HSW.out s[i] (List.getElem_mem _)
      generalize s[i] = x at hc hst hwx
      have hbd := cnt_le (s.take i) x
      rw [List.length_take] at hbd
      obtain ⟨y, hy⟩ : ∃ y, cnt (s.take i) x = y := ⟨_, rfl⟩
      rw [hy] at hbd
      have hkey := keyOf_int_mk (P := Try.prog) Try.underlying3 hwx
      have y0 : 0 ≤ y := hbd.1
      have y1 : y ≤ 100 := by omega
      have HST : Hid _ := hst
      have HY : Hid _ := hy
      clear hst hy hbd
      go_wp2_with (first
        | (at_lookup; refine wpList_lookup_own_int _ rfl _ _ 40 rfl 3 3 .i64 law3 Try.underlying40 Try.underlying3 (zero3 _) w6.heap.size i _ rfl hC.own _ _ rfl hkey ?_; intro c hat hwc; obtain rfl := hC.at HY.out hat)
        | (at_mapUpdate; refine wpList_mapUpdate_own _ rfl _ _ _ 40 rfl 3 3 law3 Try.underlying40 _ w6.heap.size i _ rfl hC.own (by unfold maxLen; omega) _ _ _ rfl rfl hkey _ [] (plainElem_int Try.underlying3 (WalkArith.wf_i64 (by omega))) ?_; intro w7 hown7 hgr7))
      go_roundg (gk - 1)
      case rel => exact ⟨i + 1, _, by omega, by go_num, hC.put x _ hown7 _ (by rw [HST.out, if_pos rfl, HY.out]) (fun z hz => by rw [HST.out, if_neg (fun e => hz e.symm)]; omega), hB.grown hgr7 hB.size (fun k hk => by cases hk; exact Nat.le_refl _)⟩
      case measure => omega
    · obtain rfl : i = s.length := by omega
      have hC0 : Cnt (fun x => cnt s x - cnt (sh.take 0) x) w6.heap.size (s.length + 0) D wr := ⟨hC.own, fun x => by
        rw [hC.is x, List.take_length]
        show _ = DataW.lit (.int .i64 (cnt s x - 0))
        rw [Int.sub_zero]⟩
      have hB0 := hB
      clear hC hB
      go_wp2_with fail
      go_loopg [12] s.length (fun gk t12 wr => ∃ (j : Nat) (D : DataW Unit), j + gk = s.length ∧ t12 = .int .i64 j ∧ Cnt (fun x => cnt s x - cnt (sh.take j) x) w6.heap.size (s.length + j) D wr ∧ Below w6.heap.size w6 wr)
      case atStart => exact ⟨0, D, by omega, rfl, hC0, hB0⟩
      case round =>
        clear hC0 hB0
        obtain ⟨j, D, hj, rfl, hC, hB⟩ := hrel
        by_cases hjt : (j : Int) < s.length
        · have hjl : j < sh.length := by omega
          obtain ⟨g, off, rfl, hc⟩ := (hV6'.below hB).at j hjl
          have i0 : (0 : Int) ≤ j := by omega
          have hst := cnt_take sh j hjl
          have hwx := HSW.out sh[j] (HPM.out.mem_iff.1 (List.getElem_mem _))
          generalize sh[j] = x at hc hst hwx
          have hbd := cnt_le (sh.take j) x
          have hbd2 := cnt_le s x
          rw [List.length_take] at hbd
          obtain ⟨y, hy⟩ : ∃ y, cnt s x - cnt (sh.take j) x = y := ⟨_, rfl⟩
          have hkey := keyOf_int_mk (P := Try.prog) Try.underlying3 hwx
          have y0 : -100 ≤ y := by omega
          have y1 : y ≤ 100 := by omega
          have HST : Hid _ := hst
          have HY : Hid _ := hy
          clear hst hy hbd hbd2
          go_wp2_with (first
            | (at_lookup; refine wpList_lookup_own_int _ rfl _ _ 40 rfl 3 3 .i64 law3 Try.underlying40 Try.underlying3 (zero3 _) w6.heap.size (s.length + j) _ rfl hC.own _ _ rfl hkey ?_; intro c hat hwc; obtain rfl := hC.at HY.out hat)
            | (at_mapUpdate; refine wpList_mapUpdate_own _ rfl _ _ _ 40 rfl 3 3 law3 Try.underlying40 _ w6.heap.size (s.length + j) _ rfl hC.own (by unfold maxLen; omega) _ _ _ rfl rfl hkey _ [] (plainElem_int Try.underlying3 (WalkArith.wf_i64 (by omega))) ?_; intro w7 hown7 hgr7))
          go_roundg (s.length - j - 1)
          case rel => exact ⟨j + 1, _, by omega, by go_num, hC.put x _ hown7 _ (by rw [HST.out, if_pos rfl, ← HY.out]; omega) (fun z hz => by rw [HST.out, if_neg (fun e => hz e.symm)]; omega), hB.grown hgr7 hB.size (fun k hk => by cases hk; exact Nat.le_refl _)⟩
          case measure => omega
        · obtain rfl : j = s.length := by omega
          have hC0 : Cnt (fun _ => 0) w6.heap.size (s.length + s.length) D wr := ⟨hC.own, fun x => by
            rw [hC.is x, List.take_of_length_le (by omega), cnt_perm HPM.out x, Int.sub_self]⟩
          clear hC
          go_wp2_with fail
          go_loopg [13] s.length (fun gk t13 wr' => ∃ (k : Nat), k + gk = s.length ∧ t13 = .int .i64 k ∧ wr' = wr)
          case atStart => exact ⟨0, by omega, rfl, rfl⟩
          case round =>
            obtain ⟨k, hk, rfl, rfl⟩ := hrel
            by_cases hkt : (k : Int) < s.length
            · have hkl : k < s.length := by omega
              obtain ⟨g, off, rfl, hc⟩ := (hS6.below hB).at k hkl
              have i0 : (0 : Int) ≤ k := by omega
              have hwx := HSW.out s[k] (List.getElem_mem _)
              generalize s[k] = x at hc hwx
              have hkey := keyOf_int_mk (P := Try.prog) Try.underlying3 hwx
              go_wp2_with (at_lookup; refine wpList_lookup_own_int _ rfl _ _ 40 rfl 3 3 .i64 law3 Try.underlying40 Try.underlying3 (zero3 _) w6.heap.size (s.length + s.length) _ rfl hC0.own _ _ rfl hkey ?_; intro c hat hwc; obtain rfl := hC0.at rfl hat)
              go_roundg (s.length - k - 1)
              case rel => exact ⟨k + 1, by omega, by go_num, rfl⟩
              case measure => omega
            · have hSz := hS6.below hB
              have hWz := hW6.below hB
              have hVz := hV6'.below hB
              have hTz := hV6.below hB
              have hcp := hVz.cap_le
              have hcp1 : (s.length : Int) ≤ scap := by omega
              have hcp2 : (K : Int) ≤ scap := by omega
              by_cases hm : (NN : Int) ≤ s.length
              · obtain rfl : K = NN := by have := HK.out; omega
                go_wp2_with fail
                refine (same_any _ _ s _ (by omega) hSz hWz).mono ?_
                rintro e w8 ⟨rfl, hb8⟩
                go_wp2_with fail
                refine (same_any _ _ (sh.take K) _ (by rw [hKt]; omega) (hTz.below hb8) ((hVz.take K (by omega)).below hb8)).mono ?_
                rintro e w9 ⟨rfl, hb9⟩
                go_wp2_with fail
                go_ret
                exact ⟨rfl, b6.trans ((hB.trans ((hb8.trans (hb9.mono hb8.size)).mono hB.size)).mono b6.size)⟩
              · obtain rfl : K = s.length := by have := HK.out; omega
                go_wp2_with fail
                refine (same_any _ _ s _ (by omega) hSz hWz).mono ?_
                rintro e w8 ⟨rfl, hb8⟩
                go_wp2_with fail
                refine (same_any _ _ (sh.take s.length) _ (by rw [hKt]; omega) (hTz.below hb8) ((hVz.take s.length (by omega)).below hb8)).mono ?_
                rintro e w9 ⟨rfl, hb9⟩
                go_wp2_with fail
                go_ret
                exact ⟨rfl, b6.trans ((hB.trans ((hb8.trans (hb9.mono hb8.size)).mono hB.size)).mono b6.size)⟩
end Go.Proofs.Ytfmnnfmcibnhpaa
