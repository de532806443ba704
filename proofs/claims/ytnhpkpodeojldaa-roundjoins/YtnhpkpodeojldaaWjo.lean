/-
  RoundJoins: who comes in between, walked.
-/
import Derived.Test.YtnhpkpodeojldaaRsd
namespace Go.Proofs.Ytnhpkpodeojldaa
open Go.RowKit

theorem filt_succ (s : List Int) (x : Int) {i : Nat} (hi : i < s.length) : (s.take (i + 1)).filter (fun y => !decide (y = x)) = if s[i] = x then (s.take i).filter (fun y => !decide (y = x)) else (s.take i).filter (fun y => !decide (y = x)) ++ [s[i]] := by
  rw [List.take_add_one, List.getElem?_eq_getElem hi, List.filter_append]
  split <;> rename_i h <;> simp [h]
theorem count_succ (s : List Int) (x : Int) {i : Nat} (hi : i < s.length) : (s.take (i + 1)).count x = (s.take i).count x + if s[i] = x then 1 else 0 := by
  rw [List.take_add_one, List.getElem?_eq_getElem hi, List.count_append]
  split <;> rename_i h <;> simp [h]
theorem filt_le (s : List Int) (x : Int) (i : Nat) : ((s.take i).filter (fun y => !decide (y = x))).length ≤ i := by
  have h1 := List.length_filter_le (fun y => !decide (y = x)) (s.take i)
  have h2 := List.length_take_le i s
  omega

set_option maxRecDepth 100000 in
set_option maxHeartbeats 1000000 in
theorem joins_walk (o : Int) (no : Int) (a : Option Addr) (len cap : Nat) (l : List Int) (ho : (Lit.int .u64 o).wf = true) (hno : (Lit.int .u8 no).wf = true) (w : World) (hl : Lots w a len cap l) :
    Calls Try.prog 6 #[.int .u64 o, .int .u8 no, .slice a len cap] w fun e w' => e = .returned (.bool true) ∧ Below w.heap.size w w' := by
  replace ho := bounds_u64 ho
  replace hno := bounds_u8 hno
  obtain ⟨hR, hok⟩ := hl
  obtain rfl := hR.len
  obtain ⟨i0, hi, hz0, hz1, hz2⟩ := info_parts Try.infoInt
  obtain ⟨b, rfl⟩ : ∃ b : Nat, o = b := ⟨o.toNat, by omega⟩
  have hb : b < lim := by unfold lim; omega
  have t1 : no.tmod 64 = no % 64 := Int.tmod_eq_emod_of_nonneg hno.1
  obtain ⟨x, hx⟩ : ∃ x, no % 64 = x := ⟨_, rfl⟩
  rw [hx] at t1
  have hsm := lst_small b
  have hnd := nxt_nodup b l
  have hn1 := nxtS_length [] (lst b) l
  have hcall := fun w0 B Bp q p v w' (hS : Sd w0 B Bp q p [] l w') (hY : Yl q p v (lst b) w') => snext hS v (lst b) (by omega) hY
  have hlist := fun w' => rlist_any b hb w'
  generalize lst b = LB at *
  go_enter Try.func6, Try.ntmps6
  go_wp2_with fail
  refine (hlist w).mono ?_
  rintro e w1 ⟨v1, rfl, ho1, hb1⟩
  have hR1 := hR.below hb1
  obtain ⟨a1, cap1, e', _⟩ := id (Rd.of ho1)
  subst e'
  clear hlist
  by_cases h0 : ((LB.length : Int) == 0) = true
  · go_wp2_with fail
    refine (shown_any w1).mono ?_
    rintro e w2 ⟨rfl, hb2⟩
    go_wp2_with fail
    go_ret
    exact ⟨rfl, hb1.trans (hb2.mono hb1.size)⟩
  rw [Bool.not_eq_true] at h0
  by_cases hlen : (300 : Int) < l.length
  · go_wp2_with fail
    refine (shown_any w1).mono ?_
    rintro e w2 ⟨rfl, hb2⟩
    go_wp2_with fail
    go_ret
    exact ⟨rfl, hb1.trans (hb2.mono hb1.size)⟩
  have hll : (l.length : Int) ≤ 300 := by omega
  go_wp2_with fail
  refine (shown_any w1).mono ?_
  rintro e w2 ⟨rfl, hb2⟩
  have hR2 := hR1.below hb2
  have e2 := hb1.trans (hb2.mono hb1.size)
  go_wp2_with fail
  refine (new_any _ l w2 (by omega) hR2).mono ?_
  rintro e w3 ⟨⟨p, rfl, hL3⟩, hb3⟩
  have e3 := e2.trans (hb3.mono e2.size)
  have n4 := heap_alloc_new w3 (.cells #[.slice none 0 0] 28)
  have b4 := below_alloc w3 (.cells #[.slice none 0 0] 28)
  obtain ⟨w4, HW4⟩ : ∃ w4, Hid (w4 = w3.alloc (.cells #[.slice none 0 0] 28)) := ⟨_, rfl⟩
  rw [← HW4.out] at n4 b4
  have q4 : w3.heap.size < w4.heap.size := (Array.getElem?_eq_some_iff.1 n4).1
  have hS : Sd w w4.heap.size w2.heap.size w3.heap.size p [] l w4 := ⟨Rn.new _ _ _ _ n4 q4 (Nat.le_refl _), hL3.below b4, e3.trans (b4.mono e3.size), hok, by simp, Or.inr hL3.lt, Nat.lt_trans hL3.lt q4, e3.size, e2.size⟩
  have b14 : Below w1.heap.size w1 w4 := (hb2.trans (hb3.mono hb2.size)).trans (b4.mono (Nat.le_trans hb2.size hb3.size))
  have hY : Yl w3.heap.size p (.slice a1 LB.length cap1) LB w4 := Yl.old ho1 b14 (Nat.le_trans hb2.size hb3.size) (Nat.le_trans hb2.size hL3.le)
  clear hL3 n4 b4 hR1 hR2 hb2 hb3 ho1 b14
  go_upto_region 7 with fail
  rw [← HW4.out]
  go_wp2_with fail
  refine (hcall _ _ _ _ _ _ _ hS hY).mono ?_
  rintro e w5 ⟨rfl, hS5, _⟩
  clear hS hY hcall
  obtain ⟨s5, hs5⟩ : ∃ s5, (nxtS [] LB l).2.1 = s5 := ⟨_, rfl⟩
  generalize (nxtS [] LB l).2.2 = l5 at *
  generalize (nxtS [] LB l).1.1 = y5 at *
  generalize (nxtS [] LB l).1.2 = z5 at *
  rw [hs5] at hS5 hnd hn1
  clear hs5
  have hn5 : s5.length ≤ 64 := by simp at hn1; omega
  clear hn1
  go_wp2_with fail
  refine (sleft hS5).mono ?_
  rintro e w6 ⟨⟨a6, cap6, rfl, hY6⟩, hS6, _⟩
  clear hS5
  have j1 := join_in s5 x l5
  have j2 := join_count hnd x l5
  have j3 := join_rest s5 x l5
  have j4 := joinS_length s5 x l5
  have hjo := sjoin hS6 x (by omega)
  clear hnd
  generalize (joinS s5 x l5).2 = l7 at *
  generalize (joinS s5 x l5).1 = s7 at *
  go_wp2_with fail
  refine hjo.mono ?_
  rintro e w7 ⟨rfl, hS7, hM7⟩
  have hY7 := hY6.mv hM7
  clear hjo hS6 hY6 hM7
  go_wp2_with fail
  refine (sleft hS7).mono ?_
  rintro e w8 ⟨⟨a8, cap8, rfl, hN8⟩, hS8, hM8⟩
  have hY8 := hY7.mv hM8
  clear hS7 hY7 hM8
  have hjo := sjoin hS8 x (by rw [joinS_in l7 j1]; exact hS8.sl)
  rw [joinS_in l7 j1] at hjo
  go_wp2_with fail
  refine hjo.mono ?_
  rintro e w9 ⟨rfl, hS9, hM9⟩
  have hY9 := hY8.mv hM9
  have hN9 := hN8.mv hM9
  clear hjo hS8 hY8 hN8 hM9
  go_wp2_with fail
  refine (sleft hS9).mono ?_
  rintro e w10 ⟨⟨a10, cap10, rfl, hP10⟩, hS10, hM10⟩
  have hY10 := hY9.mv hM10
  have hN10 := hN9.mv hM10
  clear hS9 hY9 hN9 hM10
  go_wp2_with fail
  refine (same_any _ _ s7 w10 (by omega) hN10.rd hP10.rd).mono ?_
  rintro e w11 ⟨rfl, hb11⟩
  have hY11 := hY10.below hb11
  have hN11 := hN10.below hb11
  have hB11 := (hS10.below hb11).be
  clear hS10 hY10 hN10 hP10 hb11
  go_wp2_with fail
  go_loopg [13, 14, 15] s7.length (fun gk t13 t14 t15 wr => ∃ i : Nat, i + gk = s7.length ∧ t15 = .int .i64 i ∧ t14 = .int .i64 ((s7.take i).count x : Nat) ∧ wr.ownsRow w11.heap.size 3 1 t13 ((s7.take i).filter (fun y => !decide (y = x))).length (((s7.take i).filter (fun y => !decide (y = x))).map (Value.int .i64)) ∧ Below w11.heap.size w11 wr)
  case atStart => exact ⟨0, by omega, rfl, by simp, World.ownsRow_made w11 #[] 0 (Nat.le_refl _) (Nat.zero_le _) rfl, below_alloc _ _⟩
  case round =>
    obtain ⟨i, hg, rfl, rfl, hrow, hB⟩ := hrel
    by_cases hlt : (i : Int) < s7.length
    · have hil : i < s7.length := by omega
      have i0' : (0 : Int) ≤ i := by omega
      have hf := filt_succ s7 x hil
      have hc := count_succ s7 x hil
      have hle := filt_le s7 x i
      have hcl : (s7.take i).count x ≤ i := Nat.le_trans List.count_le_length (List.length_take_le _ _)
      obtain ⟨g8, o8, e8, c8⟩ := (hN11.below hB).rd.at i hil
      subst e8
      have hfs : ∀ y, s7[i] = y → Hid ((s7.take (i + 1)).filter (fun y => !decide (y = x)) = if y = x then (s7.take i).filter (fun y => !decide (y = x)) else (s7.take i).filter (fun y => !decide (y = x)) ++ [y]) := fun y e => by rw [← e]; exact hf
      have hcs : ∀ y, s7[i] = y → Hid ((s7.take (i + 1)).count x = (s7.take i).count x + if y = x then 1 else 0) := fun y e => by rw [← e]; exact hc
      clear hf hc
      generalize hy : s7[i] = y at *
      have HF := hfs y rfl
      have HC := hcs y rfl
      clear hfs hcs hy
      generalize (s7.take i).count x = N at *
      generalize (s7.take i).filter (fun y => !decide (y = x)) = M at *
      by_cases hyx : y = x
      · have hbe : (y == x) = true := by simp [hyx]
        have HY : Hid _ := hyx
        clear hyx
        go_wp2_with fail
        go_roundg (gk - 1)
        case rel => exact ⟨i + 1, by omega, by go_num, by rw [HC.out, if_pos HY.out]; go_num, by rw [HF.out, if_pos HY.out]; exact hrow, hB⟩
        case measure => omega
      · have hbe : (y == x) = false := by simp [hyx]
        have HY : Hid _ := hyx
        clear hyx
        go_wp2_with (at_builtin; refine wpList_append_own _ rfl _ _ 26 rfl w11.heap.size 3 i0 (.int .i64 0) 1 8 Try.underlying26 hi hz0 hz1 hz2 rfl (by decide) _ _ _ rfl (hrow.alloc _) ⟨wr.heap.size, 0, none⟩ 1 1 [.int .i64 y] rfl rfl (cell_one_new _ _ _) (by simp [Value.oneCell']) (by unfold maxLen; omega) (by omega) (by have := hB.size; simp; omega) ?_; intro v' w12 hown' hgrow _)
        go_roundg (gk - 1)
        case rel =>
          refine ⟨i + 1, by omega, by go_num, by rw [HC.out, if_neg HY.out]; go_num, by rw [HF.out, if_neg HY.out]; simpa using hown', ?_⟩
          refine (hB.alloc hB.size _).grown hgrow (by have := hB.size; simp; omega) (fun k hk => ?_)
          exact (hrow.lt k hk).1
        case measure => omega
    · obtain rfl : i = s7.length := by omega
      rw [List.take_length, j3] at hrow
      rw [List.take_length, j2]
      have hY12 := hY11.below hB
      have hB12 := hB11.trans (hB.mono hB11.size)
      clear hB hN11 hY11 hB11 j1 j2 j3 hlt hg
      have hfl : (s5.filter (fun y => !decide (y = x))).length ≤ 1000000 := by have := List.length_filter_le (fun y => !decide (y = x)) s5; omega
      generalize wr = w13 at *
      have HB12 : Hid _ := hB12
      have hR13 := Rd.of hrow
      obtain ⟨a13, cap13, e13, _⟩ := id hR13
      subst e13
      clear hB12 hrow
      go_wp2_with fail
      go_loopg [16, 17] s5.length (fun gk2 t16 t17 wq => ∃ i : Nat, i + gk2 = s5.length ∧ t17 = .int .i64 i ∧ wq.ownsRow w13.heap.size 3 1 t16 ((s5.take i).filter (fun y => !decide (y = x))).length (((s5.take i).filter (fun y => !decide (y = x))).map (Value.int .i64)) ∧ Below w13.heap.size w13 wq)
      case atStart => exact ⟨0, by omega, rfl, World.ownsRow_made w13 #[] 0 (Nat.le_refl _) (Nat.zero_le _) rfl, below_alloc _ _⟩
      case round =>
        obtain ⟨i, hg, rfl, hrow, hB⟩ := hrel
        by_cases hlt : (i : Int) < s5.length
        · have hil : i < s5.length := by omega
          have i0' : (0 : Int) ≤ i := by omega
          have hf := filt_succ s5 x hil
          have hle := filt_le s5 x i
          obtain ⟨g8, o8, e8, c8⟩ := (hY12.below hB).rd.at i hil
          subst e8
          have hfs : ∀ y, s5[i] = y → Hid ((s5.take (i + 1)).filter (fun y => !decide (y = x)) = if y = x then (s5.take i).filter (fun y => !decide (y = x)) else (s5.take i).filter (fun y => !decide (y = x)) ++ [y]) := fun y e => by rw [← e]; exact hf
          clear hf
          generalize hy : s5[i] = y at *
          have HF := hfs y rfl
          clear hfs hy
          generalize (s5.take i).filter (fun y => !decide (y = x)) = M at *
          by_cases hyx : y = x
          · have hbe : (y != x) = false := by simp [hyx]
            have HY : Hid _ := hyx
            clear hyx
            go_wp2_with fail
            go_roundg (gk - 1)
            case rel => exact ⟨i + 1, by omega, by go_num, by rw [HF.out, if_pos HY.out]; exact hrow, hB⟩
            case measure => omega
          · have hbe : (y != x) = true := by simp [hyx]
            have HY : Hid _ := hyx
            clear hyx
            go_wp2_with (at_builtin; refine wpList_append_own _ rfl _ _ 26 rfl w13.heap.size 3 i0 (.int .i64 0) 1 8 Try.underlying26 hi hz0 hz1 hz2 rfl (by decide) _ _ _ rfl (hrow.alloc _) ⟨_, 0, none⟩ 1 1 [.int .i64 y] rfl rfl (cell_one_new _ _ _) (by simp [Value.oneCell']) (by unfold maxLen; omega) (by omega) (by have := hB.size; simp; omega) ?_; intro v' w14 hown' hgrow _)
            go_roundg (gk - 1)
            case rel =>
              refine ⟨i + 1, by omega, by go_num, by rw [HF.out, if_neg HY.out]; simpa using hown', ?_⟩
              refine (hB.alloc hB.size _).grown hgrow (by have := hB.size; simp; omega) (fun k hk => ?_)
              exact (hrow.lt k hk).1
            case measure => omega
        · obtain rfl : i = s5.length := by omega
          rw [List.take_length] at hrow
          have hR14 := Rd.of hrow
          obtain ⟨a14, cap14, e14, _⟩ := id hR14
          subst e14
          have hR15 := hR13.below hB
          clear hrow hlt hg
          generalize s5.filter (fun y => !decide (y = x)) = M at *
          go_wp2_with fail
          refine (same_any _ _ M _ hfl hR15 hR14).mono ?_
          rintro e w15 ⟨rfl, hb15⟩
          go_wp2_with fail
          go_ret
          exact ⟨rfl, (HB12.out.trans (hB.mono HB12.out.size)).trans (hb15.mono (Nat.le_trans HB12.out.size hB.size))⟩
end Go.Proofs.Ytnhpkpodeojldaa
