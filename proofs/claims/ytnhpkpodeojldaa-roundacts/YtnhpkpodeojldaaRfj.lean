/-
  The reference's Join, Helpers.
-/
import Derived.Test.YtnhpkpodeojldaaRfn
namespace Go.Proofs.Ytnhpkpodeojldaa
open Go.RowKit

/-- The first n of a row. -/
theorem cut_to {a : Option Addr} {cap : Nat} {l : List Int} {w : World} (h : Rd .i64 (.slice a l.length cap) l w) (n : Nat) (hn : n ≤ l.length) :
    (∀ w', (Instr.slice 26 (.slice a l.length cap) none (some (.int .i64 (n : Int))) none).run Try.prog w' = .ok (.slice a n cap) w') ∧ Rd .i64 (.slice a n cap) (l.take n) w := by
  refine ⟨fun w' => ?_, h.take n hn⟩
  obtain ⟨a', cap', e, h1, _⟩ := h
  cases e
  rw [run_slice_h (P := Try.prog) (w := w') 26 a l.length cap Try.elemInt .i64 (n : Int) (by omega) (by omega), Try.sizeInt]
  show Result.ok (sliced _ _ _ _ _) _ = _
  unfold sliced
  congr 1
  split
  · simp
  · cases a with
    | none => simp
    | some ad => simp [Addr.add]

set_option maxRecDepth 100000 in
set_option maxHeartbeats 1000000 in
theorem fjoin_any (w0 : World) (B q r : Nat) (la : Option Addr) (lcap : Nat) (s l m : List Int) (x : Int) (w : World) (hs : s.length ≤ 1000) (hll : l.length ≤ 1000000) (hR : Rn 31 B q s w)
    (hRl : Rd .u64 (.slice la l.length lcap) l w0) (hL : Lf w0 r (.slice la l.length lcap) l m w) (hok : Ok m) (hqr : r ≠ q) (hr : r < B) (hq0 : w0.heap.size ≤ q) :
    Calls Try.prog 14 #[.pointer (some ⟨q, 0, none⟩), .int .i64 x, .pointer (some ⟨r, 0, none⟩)] w fun e w' => e = .returned (.tuple #[]) ∧ Rn 31 B q (joinS s x m).1 w' ∧ Lf w0 r (.slice la l.length lcap) l (joinS s x m).2 w' ∧ Mv q r w w' := by
  obtain ⟨a, cap, hc, hf, hd, hg⟩ := hR.cell
  have hh := fhas_any _ s x w (by omega) hd
  by_cases hx : x ∈ s
  · rw [joinS_in m hx]
    rw [decide_eq_true hx] at hh
    go_enter Try.func14, Try.ntmps14
    go_wp2_with fail
    refine hh.mono ?_
    rintro e w1 ⟨rfl, hw1⟩
    subst hw1
    go_wp2_with fail
    refine bodyPost_ret (results_none rfl _ _ _) rfl ?_
    exact ⟨rfl, hR, hL, Mv.refl _ _ _⟩
  rw [joinS_new m hx]
  rw [decide_eq_false hx] at hh
  obtain ⟨k, hk, hks⟩ := below_le m s.length
  rw [hk, Int.toNat_natCast]
  have hbel := fbelow_any w0 r la lcap l m ((s.length : Int) + 1) w hll hRl hL hok (by omega)
  rw [hk] at hbel
  have HK : Hid _ := hk
  clear hk
  generalize (belowS m ((s.length : Int) + 1)).2 = m' at *
  obtain ⟨a7, c7, hcut7, hd7, hg7⟩ := cut_from hd k hks
  obtain ⟨hcutT, hdT⟩ := cut_to hd k hks
  have HKS : Hid _ := hks
  have l1 : (s.take k).length = k := by rw [List.length_take]; omega
  have l2 : (s.drop k).length = s.length - k := List.length_drop
  have hwr : (s.take k).length + 1 + (s.drop k).length ≤ 1000000 := by omega
  clear hks
  obtain ⟨X1, hX1⟩ : ∃ X1, X1 = s.take k := ⟨_, rfl⟩
  obtain ⟨X2, hX2⟩ : ∃ X2, X2 = s.drop k := ⟨_, rfl⟩
  rw [← hX1, ← hX2]
  rw [← hX1] at hdT l1 hwr
  rw [← hX2] at hd7 l2 hwr hcut7
  have HX1 : Hid _ := hX1
  have HX2 : Hid _ := hX2
  clear hX1 hX2
  rw [l1, l2] at hwr
  rw [l2] at hd7 hcut7
  go_enter Try.func14, Try.ntmps14
  go_wp2_with fail
  refine hh.mono ?_
  rintro e w1 ⟨rfl, hw1⟩
  subst hw1
  go_wp2_with fail
  refine hbel.mono ?_
  rintro e w2 ⟨rfl, hL2, hB2⟩
  have hM2 : Mv q r w1 w2 := Mv.ofBut hB2
  have hR2 := hR.but hB2 ⟨hqr, hr⟩
  have hkp : ∀ g, (Value.slice a s.length cap).ownBlock = some g → g ≠ r := fun g hg' e => by have := (hg g hg').1; omega
  have dT2 : Rd .i64 (.slice a k cap) X1 w2 := hdT.but hB2 fun g hg' => hkp g ((ownBlock_slice _ _ _ _ _).trans hg')
  have d72 : Rd .i64 (.slice a7 (s.length - k) c7) X2 w2 := hd7.but hB2 fun g hg' => hkp g (hg7 _ _ _ hg')
  have c2 : w2.cell? ⟨q, 0, none⟩ = some (.slice a s.length cap) := (World.cell?_of_block (w := w1) (hB2.block q hR.ltw (Ne.symm hqr))).trans hc
  have b3 := below_alloc w2 (.cells #[] 3)
  have o3 := World.ownsRow_made (base := w2.heap.size) (e := 3) (size := 1) w2 #[] 0 (Nat.le_refl _) (Nat.zero_le _) rfl
  obtain ⟨w3, HW3⟩ : ∃ w3, Hid (w3 = w2.alloc (.cells #[] 3)) := ⟨_, rfl⟩
  rw [← HW3.out] at b3 o3
  have c3 : w3.cell? ⟨q, 0, none⟩ = some (.slice a s.length cap) := (World.cell?_of_block (w := w2) (b3.block q hR2.ltw)).trans c2
  have dT3 := dT2.below b3
  have d73 := d72.below b3
  clear hh hbel hdT hd7 dT2 hB2
  go_upto_region 3 with fail
  rw [← HW3.out]
  go_upto_region 4 with (at_builtin; refine wpList_append_rd rfl (.tmp 23) (.tmp 29) rfl _ w2.heap.size [] rfl o3 b3.size _ X1 rfl dT3 (by simp; omega) ?_; intro v4 w4 o4 g4)
  have b4 : Below w2.heap.size w2 w4 := b3.grown g4 b3.size (fun k hk => by cases hk; exact Nat.le_refl _)
  rw [List.nil_append] at o4
  have z4 := b4.size
  obtain ⟨a4, cap4, e4, _⟩ := id (Rd.of o4)
  subst e4
  have b5 := b4.alloc z4 (.cells #[.int .i64 x] 3)
  have o5 := o4.alloc (.cells #[.int .i64 x] 3)
  have r5 : Rd .i64 (.slice (some ⟨w4.heap.size, 0, none⟩) 1 1) [x] (w4.alloc (.cells #[.int .i64 x] 3)) := Rd.lit .i64 3 [x] w4 (by simp)
  go_upto_region 5 with (at_builtin; refine wpList_append_rd rfl (.tmp 31) (.tmp 33) rfl _ w2.heap.size X1 rfl o5 b5.size _ [x] rfl r5 (by simp; omega) ?_; intro v6 w6 o6 g6)
  have b6 : Below w2.heap.size w2 w6 := b5.grown g6 b5.size (fun k hk => (o4.lt k hk).1)
  have c6 : w6.cell? ⟨q, 0, none⟩ = some (.slice a s.length cap) := (World.cell?_of_block (w := w2) (b6.block q hR2.ltw)).trans c2
  have d76 := d72.below b6
  have z6 := b6.size
  obtain ⟨a6, cap6, e6, _⟩ := id (Rd.of o6)
  subst e6
  clear b3 b4 b5 o3 o4 o5 g4 g6 r5 dT3 d73 c3
  have fin : ∀ a8 cap8 w8, w8.ownsRow w2.heap.size 3 1 (.slice a8 ((X1 ++ [x]) ++ X2).length cap8) ((X1 ++ [x]) ++ X2).length (((X1 ++ [x]) ++ X2).map (Value.int .i64)) → w6.grownBy w8 (Value.slice a6 (X1 ++ [x]).length cap6).ownBlock → Rn 31 B q (X1 ++ x :: X2) (w8.setCell ⟨q, 0, none⟩ (.slice a8 ((X1 ++ [x]) ++ X2).length cap8)) ∧ Lf w0 r (.slice la l.length lcap) l m' (w8.setCell ⟨q, 0, none⟩ (.slice a8 ((X1 ++ [x]) ++ X2).length cap8)) ∧ Mv q r w1 (w8.setCell ⟨q, 0, none⟩ (.slice a8 ((X1 ++ [x]) ++ X2).length cap8)) := fun a8 cap8 w8 o8 g8 => by
    have b8 : Below w2.heap.size w2 w8 := b6.grown g8 b6.size (fun k hk => (o6.lt k hk).1)
    have hR8 := hR2.below b8
    have e8 : (X1 ++ [x]) ++ X2 = X1 ++ x :: X2 := by simp
    refine ⟨?_, (hL2.later b8).set ⟨hqr, hq0⟩, (hM2.trans (Mv.of b8)).set _⟩
    have := hR8.put (Rd.of o8) fun g hg' => ⟨Nat.le_trans hR2.size (o8.lt g hg').1, (o8.lt g hg').2⟩
    rw [e8] at this ⊢
    exact this
  have frz : ∀ w8, w6.grownBy w8 (Value.slice a6 (X1 ++ [x]).length cap6).ownBlock → w8.frozen? ⟨q, 0, none⟩ = false ∧ ∃ u, w8.cell? ⟨q, 0, none⟩ = some u := fun w8 g8 => by
    have b8 : Below w2.heap.size w2 w8 := b6.grown g8 b6.size (fun k hk => (o6.lt k hk).1)
    obtain ⟨_, _, c9, f9, _⟩ := (hR2.below b8).cell
    exact ⟨f9, _, c9⟩
  go_wp2_with (at_builtin; refine wpList_append_rd rfl (.tmp 36) (.tmp 42) rfl _ w2.heap.size (X1 ++ [x]) rfl o6 b6.size _ X2 rfl d76 (by simp; omega) ?_; intro v8 w8 o8 g8; obtain ⟨a8, cap8, rfl⟩ : ∃ a8 cap8, v8 = .slice a8 ((X1 ++ [x]) ++ X2).length cap8 := (by obtain ⟨a8, cap8, e8, _⟩ := Rd.of o8; exact ⟨a8, cap8, e8⟩); obtain ⟨f8, u8, c8⟩ := frz w8 g8; have HF : Hid _ := fin a8 cap8 w8 o8 g8)
  go_end0
  have h := HF.out
  rw [show (X1 ++ [x] ++ X2).length = k + (s.length - k + 1) by simp; omega] at h
  exact ⟨rfl, h⟩

theorem filt_succ (s : List Int) (x : Int) {i : Nat} (hi : i < s.length) : (s.take (i + 1)).filter (fun y => !decide (y = x)) = if s[i] = x then (s.take i).filter (fun y => !decide (y = x)) else (s.take i).filter (fun y => !decide (y = x)) ++ [s[i]] := by
  rw [List.take_add_one, List.getElem?_eq_getElem hi, List.filter_append]
  split <;> rename_i h <;> simp [h]
theorem filt_le (s : List Int) (x : Int) (i : Nat) : ((s.take i).filter (fun y => !decide (y = x))).length ≤ i := by
  have h1 := List.length_filter_le (fun y => !decide (y = x)) (s.take i)
  have h2 := List.length_take_le i s
  omega

set_option maxRecDepth 100000 in
set_option maxHeartbeats 1000000 in
theorem fhelp_any (w0 : World) (r : Nat) (la : Option Addr) (lcap : Nat) (v : Value) (o l m : List Int) (x n : Int) (w : World) (hol : o.length ≤ 1000) (hn : n < 9223372036854775808) (hll : l.length ≤ 1000000) (hv : Rd .i64 v o w)
    (hRl : Rd .u64 (.slice la l.length lcap) l w0) (hL : Lf w0 r (.slice la l.length lcap) l m w) (hok : Ok m) :
    Calls Try.prog 17 #[v, .int .i64 x, .int .i64 n, .pointer (some ⟨r, 0, none⟩)] w fun e w' => (∃ v', e = .returned v' ∧ Res w v' (helpS o x n m).1 w') ∧ Lf w0 r (.slice la l.length lcap) l (helpS o x n m).2 w' ∧ But w.heap.size r w w' := by
  obtain ⟨i0, hi, hz0, hz1, hz2⟩ := info_parts Try.infoInt
  have hv' := hv
  obtain ⟨va, vcap, rfl, _⟩ := hv'
  unfold helpS
  go_enter Try.func17, Try.ntmps17
  go_wp2_with fail
  go_loopg [9, 10] o.length (fun gk t9 t10 wr => ∃ i : Nat, i + gk = o.length ∧ t10 = .int .i64 i ∧ wr.ownsRow w.heap.size 3 1 t9 ((o.take i).filter (fun y => !decide (y = x))).length (((o.take i).filter (fun y => !decide (y = x))).map (Value.int .i64)) ∧ Below w.heap.size w wr)
  case atStart => exact ⟨0, by omega, rfl, World.ownsRow_made w #[] 0 (Nat.le_refl _) (Nat.zero_le _) rfl, below_alloc _ _⟩
  case round =>
    obtain ⟨i, hg, rfl, hrow, hB⟩ := hrel
    by_cases hlt : (i : Int) < o.length
    · have hil : i < o.length := by omega
      have i0' : (0 : Int) ≤ i := by omega
      have hf := filt_succ o x hil
      have hle := filt_le o x i
      obtain ⟨g8, o8, e8, c8⟩ := (hv.below hB).at i hil
      subst e8
      have hfs : ∀ y, o[i] = y → Hid ((o.take (i + 1)).filter (fun y => !decide (y = x)) = if y = x then (o.take i).filter (fun y => !decide (y = x)) else (o.take i).filter (fun y => !decide (y = x)) ++ [y]) := fun y e => by rw [← e]; exact hf
      clear hf
      generalize hy : o[i] = y at *
      have HF := hfs y rfl
      clear hfs hy
      generalize (o.take i).filter (fun y => !decide (y = x)) = M at *
      by_cases hyx : y = x
      · have hbe : (y != x) = false := by simp [hyx]
        have HY : Hid _ := hyx
        clear hyx
        go_wp2_with fail
        go_roundg (gk - 1)
        case rel => exact ⟨i + 1, by omega, by go_num, by rw [HF.out, if_pos HY.out]; exact hrow, hB⟩
        case measure => omega
      · have hbe : (y != x) = true := by simp [hyx]
        have HY : Hid _ := hyx
        clear hyx
        go_wp2_with (at_builtin; refine wpList_append_own _ rfl _ _ 26 rfl w.heap.size 3 i0 (.int .i64 0) 1 8 Try.underlying26 hi hz0 hz1 hz2 rfl (by decide) _ _ _ rfl (hrow.alloc _) ⟨_, 0, none⟩ 1 1 [.int .i64 y] rfl rfl (cell_one_new _ _ _) (by simp [Value.oneCell']) (by unfold maxLen; omega) (by omega) (by have := hB.size; simp; omega) ?_; intro v' w14 hown' hgrow _)
        go_roundg (gk - 1)
        case rel =>
          refine ⟨i + 1, by omega, by go_num, by rw [HF.out, if_neg HY.out]; simpa using hown', ?_⟩
          refine (hB.alloc hB.size _).grown hgrow (by have := hB.size; simp; omega) (fun k hk => ?_)
          exact (hrow.lt k hk).1
        case measure => omega
    · obtain rfl : i = o.length := by omega
      rw [List.take_length] at hrow
      have hRd := Rd.of hrow
      obtain ⟨a9, cap9, e9, _⟩ := id hRd
      subst e9
      have hfl := List.length_filter_le (fun y => !decide (y = x)) o
      have hsome := fsome_any w0 r la lcap l m _ _ n wr hll hRl (hL.later hB) hok (by omega) hn hRd
      go_wp2_with fail
      refine hsome.mono ?_
      rintro e w5 ⟨⟨v5, rfl, hr5⟩, hL5, hB5⟩
      obtain ⟨a5, cap5, e5, _⟩ := id hr5.rd
      subst e5
      go_wp2_with fail
      go_ret
      exact ⟨⟨_, rfl, ⟨hr5.rd, fun g hg => ⟨Nat.le_trans hB.size (hr5.own g hg).1, (hr5.own g hg).2⟩⟩⟩, hL5, (But.of hB).trans (hB5.mono hB.size)⟩
end Go.Proofs.Ytnhpkpodeojldaa
