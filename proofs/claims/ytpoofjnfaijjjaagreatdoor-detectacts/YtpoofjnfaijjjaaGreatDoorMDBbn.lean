/-
  The leaves of band and of its reference: bit, node, Has, With, Less, Many, and the two functions of math/bits; the table that lies in its variable. More leaves of band and of its reference; math/bits. More leaves of band and of its reference: Has, With; how many a band has with one more.
-/
import Derived.Test.YtpoofjnfaijjjaaGreatDoorProg
import Derived.Test.YtpoofjnfaijjjaaGreatDoorMRMth
import Derived.WalkKit
import Derived.WalkSpells
import Derived.WalkLawsBesides
import Derived.Deep.LoopGhost
import Derived.Deep.QuietTactic
import Derived.BigQuiet
import Derived.Laws.Bits64b
import Derived.Laws.Bits128
namespace Go.Proofs.YtpoofjnfaijjjaaGreatDoor.Ro.Bnd
open Go.RowKit
theorem wrap_nat (x : Nat) (h : x < lim) : IntKind.u64.wrap (x : Int) = (x : Int) := by
  rw [IntKind.wrap_u64]; unfold lim at h; omega
theorem wrap_pow (n : Int) (h : nodeS n = true) : IntKind.u64.wrap (2 ^ n.toNat) = (bitS n : Int) := by
  have e : ((2 ^ n.toNat : Nat) : Int) = 2 ^ n.toNat := by simp
  have hb := bitS_lt n
  unfold bitS at hb ⊢
  rw [if_pos h] at hb ⊢
  rw [← e]
  exact wrap_nat _ hb
theorem shr_bit (b k : Nat) (hb : b < lim) : bits BinOp.and IntKind.u64 ((b : Int) / 2 ^ k) 1 = if b.testBit k then 1 else 0 := by
  have e : (b : Int) / 2 ^ k = ((b / 2 ^ k : Nat) : Int) := by simp
  rw [e, show (1 : Int) = ((1 : Nat) : Int) from rfl, bits_and_u64_nat _ _ (Nat.lt_of_le_of_lt (Nat.div_le_self _ _) hb) (by decide), Nat.and_one_is_mod, Nat.testBit_eq_decide_div_mod_eq]
  rcases Nat.mod_two_eq_zero_or_one (b / 2 ^ k) with h | h <;> simp [h]
theorem and_bit (b : Nat) (n : Int) (hb : b < lim) : bits BinOp.and IntKind.u64 (b : Int) (bitS n : Int) = if hasS b n then (bitS n : Int) else 0 := by
  rw [bits_and_u64_nat _ _ hb (bitS_lt n)]
  have : b &&& bitS n = if hasS b n then bitS n else 0 := by
    refine Nat.eq_of_testBit_eq fun i => ?_
    rw [Nat.testBit_and, testBit_bitS]
    unfold hasS
    by_cases h1 : nodeS n = true
    · rw [h1]
      by_cases h2 : n.toNat = i
      · subst h2
        cases h3 : b.testBit n.toNat <;> simp [testBit_bitS, h1]
      · cases h3 : b.testBit n.toNat <;> simp [testBit_bitS, h1, h2]
    · rw [Bool.not_eq_true] at h1
      rw [h1]; simp
  rw [this]
  split <;> simp
theorem bitS_pos (b : Nat) (n : Int) (h : hasS b n = true) : (bitS n : Int) ≠ 0 := by
  unfold hasS at h
  rw [Bool.and_eq_true] at h
  unfold bitS
  rw [if_pos h.1]
  have := Nat.two_pow_pos n.toNat
  omega
theorem testBit_less (b k i : Nat) (h : b.testBit k = true) : (b - 2 ^ k).testBit i = (b.testBit i && decide (i ≠ k)) := by
  have hp := Nat.two_pow_pos k
  rw [Nat.testBit_eq_decide_div_mod_eq] at h
  have h := of_decide_eq_true h
  obtain ⟨m, hm⟩ : ∃ m, b / 2 ^ k = 2 * m + 1 := ⟨b / 2 ^ k / 2, by omega⟩
  have e := Nat.div_add_mod b (2 ^ k)
  rw [hm] at e
  have hr := Nat.mod_lt b hp
  generalize b % 2 ^ k = r at e hr
  have e2 : b - 2 ^ k = 2 ^ k * (2 * m) + r := by rw [Nat.mul_add] at e; omega
  rw [e2, ← e, Nat.testBit_two_pow_mul_add _ hr, Nat.testBit_two_pow_mul_add _ hr]
  by_cases h1 : i < k
  · have : i ≠ k := by omega
    simp [h1, this]
  · rw [if_neg h1, if_neg h1]
    by_cases h3 : i = k
    · subst h3; simp
    · obtain ⟨j, hj⟩ : ∃ j, i - k = j + 1 := ⟨i - k - 1, by omega⟩
      rw [hj, Nat.testBit_succ, Nat.testBit_succ]
      have d1 : (2 * m + 1) / 2 = m := by omega
      have d2 : 2 * m / 2 = m := by omega
      rw [d1, d2]; simp [h3]
theorem testBit_lessS (b : Nat) (n : Int) (i : Nat) : (lessS b n).testBit i = (b.testBit i && !(nodeS n && decide (n.toNat = i))) := by
  unfold lessS
  cases h : hasS b n
  · rw [if_neg (by simp)]
    unfold hasS at h
    by_cases h1 : nodeS n = true
    · rw [h1] at h ⊢
      by_cases h2 : n.toNat = i
      · subst h2; simp at h; simp [h]
      · simp [h2]
    · rw [Bool.not_eq_true] at h1
      rw [h1]; simp
  · rw [if_pos rfl]
    unfold hasS at h
    rw [Bool.and_eq_true] at h
    rw [testBit_less _ _ _ h.2, h.1]
    by_cases h2 : n.toNat = i
    · subst h2; simp
    · have : i ≠ n.toNat := fun e => h2 e.symm
      simp [h2, this]
theorem testBit_not (b i : Nat) (hb : b < lim) : (lim - 1 - b).testBit i = (decide (i < 64) && !b.testBit i) := by
  rw [show lim - 1 - b = 2 ^ 64 - (b + 1) by unfold lim; omega, Nat.testBit_two_pow_sub_succ hb]
theorem bits_andNot (a b : Nat) (ha : a < lim) (hb : b < lim) : bits .andNot .u64 (a : Int) (b : Int) = ((a &&& (lim - 1 - b) : Nat) : Int) := by
  have h1 : (BitVec.ofInt 64 (a : Int)).toNat = a := by
    rw [BitVec.ofInt_natCast, BitVec.toNat_ofNat]; exact Nat.mod_eq_of_lt ha
  have h2 : (BitVec.ofInt 64 (b : Int)).toNat = b := by
    rw [BitVec.ofInt_natCast, BitVec.toNat_ofNat]; exact Nat.mod_eq_of_lt hb
  show IntKind.u64.wrap ((BitVec.ofInt 64 (a : Int) &&& ~~~ BitVec.ofInt 64 (b : Int)).toNat : Int) = _
  rw [BitVec.toNat_and, BitVec.toNat_not, h1, h2]
  exact wrap_nat _ (and_lt ha)
theorem less_bits (b : Nat) (n : Int) (hb : b < lim) : bits .andNot .u64 (b : Int) (bitS n : Int) = (lessS b n : Int) := by
  rw [bits_andNot _ _ hb (bitS_lt n)]
  congr 1
  refine eq_of_bits (and_lt hb) (lessS_lt hb n) fun i hi => ?_
  rw [Nat.testBit_and, testBit_not _ _ (bitS_lt n), testBit_lessS, testBit_bitS]
  simp [hi]
theorem with_bits (b : Nat) (n : Int) (hb : b < lim) : bits .or .u64 (b : Int) (bitS n : Int) = (withS b n : Int) := bits_or_u64_nat _ _ hb (bitS_lt n)
set_option maxHeartbeats 1000000 in
theorem bit_any (n : Int) (w : World) : Calls Tryz.prog 125 #[.int .i64 n] w fun e w' => e = .returned (.int .u64 (bitS n)) ∧ w' = w := by
  by_cases h : 0 ≤ n ∧ n < 64
  · have hw := wrap_pow n ((nodeS_iff n).2 h)
    obtain ⟨h0, h1⟩ := h
    go_enter Tryz.func125, Tryz.ntmps125
    go_wp2
    go_ret
    exact ⟨rfl, rfl⟩
  · have hz : bitS n = 0 := by
      unfold bitS
      rw [if_neg (fun e => h ((nodeS_iff n).1 e))]
    rw [hz]
    clear hz
    have h : n < 0 ∨ 64 ≤ n := by omega
    go_enter Tryz.func125, Tryz.ntmps125
    go_wp2
    all_goals (go_ret; exact ⟨rfl, rfl⟩)
set_option maxHeartbeats 1000000 in
theorem with_any (b : Nat) (hb : b < lim) (n : Int) (w : World) : Calls Tryz.prog 111 #[.int .u64 b, .int .i64 n] w fun e w' => e = .returned (.int .u64 (withS b n)) ∧ w' = w := by
  have ha := with_bits b n hb
  go_enter Tryz.func111, Tryz.ntmps111
  go_wp2_with fail
  refine (bit_any n w).mono ?_
  rintro e w1 ⟨rfl, rfl⟩
  go_wp2_with fail
  go_ret
  exact ⟨rfl, rfl⟩
set_option maxHeartbeats 1000000 in
theorem node_any (n : Int) (w : World) : Calls Tryz.prog 66 #[.int .i64 n] w fun e w' => e = .returned (.bool (nodeS n)) ∧ w' = w := by
  unfold nodeS
  go_enter Tryz.func66, Tryz.ntmps66
  go_wp2
  all_goals go_ret
  all_goals (simp_all <;> omega)
set_option maxHeartbeats 1000000 in
theorem rhas_any (b : Nat) (hb : b < lim) (n : Int) (w : World) : Calls Tryz.prog 30 #[.int .u64 b, .int .i64 n] w fun e w' => e = .returned (.bool (hasS b n)) ∧ w' = w := by
  unfold hasS
  cases h : nodeS n
  · go_enter Tryz.func30, Tryz.ntmps30
    go_wp2_with fail
    refine (node_any n w).mono ?_
    rw [h]
    rintro e w1 ⟨rfl, rfl⟩
    go_wp2_with fail
    go_ret
    exact ⟨rfl, rfl⟩
  · obtain ⟨h0, h1⟩ := (nodeS_iff n).1 h
    have ha := shr_bit b n.toNat hb
    cases h2 : b.testBit n.toNat
    all_goals
      rw [h2] at ha
      simp only [Bool.false_eq_true, if_false, if_true] at ha
      go_enter Tryz.func30, Tryz.ntmps30
      go_wp2_with fail
      refine (node_any n w).mono ?_
      rw [h]
      rintro e w1 ⟨rfl, rfl⟩
      go_wp2_with fail
      go_ret
      exact ⟨rfl, rfl⟩
set_option maxHeartbeats 1000000 in
theorem less_any (b : Nat) (hb : b < lim) (n : Int) (w : World) : Calls Tryz.prog 135 #[.int .u64 b, .int .i64 n] w fun e w' => e = .returned (.int .u64 (lessS b n)) ∧ w' = w := by
  have ha := less_bits b n hb
  go_enter Tryz.func135, Tryz.ntmps135
  go_wp2_with fail
  refine (bit_any n w).mono ?_
  rintro e w1 ⟨rfl, rfl⟩
  go_wp2_with fail
  go_ret
  exact ⟨rfl, rfl⟩
set_option maxHeartbeats 1000000 in
theorem rwith_any (b : Nat) (hb : b < lim) (n : Int) (w : World) : Calls Tryz.prog 109 #[.int .u64 b, .int .i64 n] w fun e w' => e = .returned (.int .u64 (withS b n)) ∧ w' = w := by
  cases h : nodeS n
  · have hz : withS b n = b := by unfold withS bitS; rw [h]; simp
    rw [hz]
    go_enter Tryz.func109, Tryz.ntmps109
    go_wp2_with fail
    refine (node_any n w).mono ?_
    rw [h]
    rintro e w1 ⟨rfl, rfl⟩
    go_wp2_with fail
    go_ret
    exact ⟨rfl, rfl⟩
  · have hw := wrap_pow n h
    obtain ⟨h0, h1⟩ := (nodeS_iff n).1 h
    have ha := with_bits b n hb
    go_enter Tryz.func109, Tryz.ntmps109
    go_wp2_with fail
    refine (node_any n w).mono ?_
    rw [h]
    rintro e w1 ⟨rfl, rfl⟩
    go_wp2_with fail
    go_ret
    exact ⟨rfl, rfl⟩
theorem and_const (x c : Nat) (hx : x < lim) (hc : c < lim) : bits BinOp.and IntKind.u64 (x : Int) (c : Int) = ((x &&& c : Nat) : Int) := bits_and_u64_nat x c hx hc
set_option maxHeartbeats 2000000 in
theorem ones_any (x : Nat) (hx : x < lim) (w : World) : Calls Tryz.prog 200 #[.int .u64 x] w fun e w' => e = .returned (.int .i64 (manyS x)) ∧ w' = w := by
  obtain ⟨l, hl, hd, hs, x1, x2, e1, e2, e3, b1, b2⟩ := ones3 x hx
  obtain ⟨b4, b5, b6, hm⟩ := ones_end l hl hd _ _ _ rfl rfl rfl
  rw [hs] at hm
  generalize hx3 : val 8 l = x3 at *
  generalize hx4 : x3 + x3 / 256 = x4 at *
  generalize hx5 : x4 + x4 / 65536 = x5 at *
  generalize hx6 : x5 + x5 / 4294967296 = x6 at *
  have b3 : x2 / 16 + x2 < lim := by unfold lim at *; omega
  have b3' : x3 < lim := by rw [← e3]; exact and_lt b3
  have k1 : bits BinOp.and IntKind.u64 ((x : Int) / 2) 6148914691236517205 = ((x / 2 &&& 6148914691236517205 : Nat) : Int) := and_const (x / 2) 6148914691236517205 (by unfold lim at *; omega) (by decide)
  have k2 : bits BinOp.and IntKind.u64 (x : Int) 6148914691236517205 = ((x &&& 6148914691236517205 : Nat) : Int) := and_const x 6148914691236517205 hx (by decide)
  have k3 : IntKind.u64.wrap (((x / 2 &&& 6148914691236517205 : Nat) : Int) + ((x &&& 6148914691236517205 : Nat) : Int)) = (x1 : Int) := by
    rw [← e1] at b1 ⊢; exact wrap_nat _ b1
  have k4 : bits BinOp.and IntKind.u64 ((x1 : Int) / 4) 3689348814741910323 = ((x1 / 4 &&& 3689348814741910323 : Nat) : Int) := and_const (x1 / 4) 3689348814741910323 (by unfold lim at *; omega) (by decide)
  have k5 : bits BinOp.and IntKind.u64 (x1 : Int) 3689348814741910323 = ((x1 &&& 3689348814741910323 : Nat) : Int) := and_const x1 3689348814741910323 b1 (by decide)
  have k6 : IntKind.u64.wrap (((x1 / 4 &&& 3689348814741910323 : Nat) : Int) + ((x1 &&& 3689348814741910323 : Nat) : Int)) = (x2 : Int) := by
    rw [← e2] at b2 ⊢; exact wrap_nat _ (by unfold lim at *; omega)
  have k7 : IntKind.u64.wrap ((x2 : Int) / 16 + (x2 : Int)) = ((x2 / 16 + x2 : Nat) : Int) := wrap_nat (x2 / 16 + x2) b3
  have k8 : bits BinOp.and IntKind.u64 ((x2 / 16 + x2 : Nat) : Int) 1085102592571150095 = (x3 : Int) := by
    rw [← e3]; exact and_const _ 1085102592571150095 b3 (by decide)
  have k9 : IntKind.u64.wrap ((x3 : Int) + (x3 : Int) / 256) = (x4 : Int) := by rw [← hx4] at b4 ⊢; exact wrap_nat _ b4
  have k10 : IntKind.u64.wrap ((x4 : Int) + (x4 : Int) / 65536) = (x5 : Int) := by rw [← hx5] at b5 ⊢; exact wrap_nat _ b5
  have k11 : IntKind.u64.wrap ((x5 : Int) + (x5 : Int) / 4294967296) = (x6 : Int) := by rw [← hx6] at b6 ⊢; exact wrap_nat (x5 + x5 / 4294967296) (by unfold lim at *; omega)
  have k12 : wrap64 (x6 : Int) = (x6 : Int) := by unfold wrap64; unfold lim at b6; omega
  have k13 : bits BinOp.and IntKind.i64 (x6 : Int) 127 = (manyS x : Int) := by rw [i64_and127, ← hm]; omega
  clear e1 e2 e3 b1 b2 b3 b3' b4 b5 b6 hm hs hx3 hx4 hx5 hx6 hd hl
  generalize (x / 2 &&& 6148914691236517205 : Nat) = p1 at *
  generalize (x &&& 6148914691236517205 : Nat) = q1 at *
  generalize (x1 / 4 &&& 3689348814741910323 : Nat) = p2 at *
  generalize (x1 &&& 3689348814741910323 : Nat) = q2 at *
  generalize (x2 / 16 + x2 : Nat) = y3 at *
  go_enter Tryz.func200, Tryz.ntmps200
  go_wp2
  go_ret
  exact ⟨rfl, rfl⟩
set_option maxHeartbeats 1000000 in
theorem many_any (x : Nat) (hx : x < lim) (w : World) : Calls Tryz.prog 168 #[.int .u64 x] w fun e w' => e = .returned (.int .i64 (manyS x)) ∧ w' = w := by
  go_enter Tryz.func168, Tryz.ntmps168
  go_wp2_with fail
  refine (ones_any x hx w).mono ?_
  rintro e w1 ⟨rfl, rfl⟩
  go_wp2_with fail
  go_ret
  exact ⟨rfl, rfl⟩
theorem and_nat (a b : Nat) (ha : a < lim) (hb : b < lim) : bits BinOp.and IntKind.u64 (a : Int) (b : Int) = ((a &&& b : Nat) : Int) := bits_and_u64_nat a b ha hb
def Tab (w : World) : Prop := ∀ j, j < Lib.deBruijn64tab.length → w.cell? ⟨1, j, none⟩ = some (.int .u8 (Lib.deBruijn64tab.getD j 0))
theorem Tab.lt {w : World} (h : Tab w) : 1 < w.heap.size := World.block_lt_of_cell? _ _ (h 0 (by decide))
theorem Tab.keep {w w' : World} (h : Tab w) (e : w'.heap[1]? = w.heap[1]?) : Tab w' := fun j hj => (World.cell?_of_block (w := w) (a := ⟨1, j, none⟩) e).trans (h j hj)
theorem Tab.below {w w' : World} {B : Nat} (h : Tab w) (hB : 1 < B) (hb : Below B w w') : Tab w' := h.keep (hb.block 1 hB)
theorem tz_key (x a : Nat) (hx : x < lim) (hx0 : x ≠ 0) (hlow : x &&& (lim - x) = a) :
    IntKind.u64.wrap (bits BinOp.and IntKind.u64 (x : Int) (IntKind.u64.wrap (-(x : Int))) * 285870213051353865) / 288230376151711744 = ((a * 285870213051353865 % 18446744073709551616 / 288230376151711744 : Nat) : Int) := by
  have e1 : IntKind.u64.wrap (-(x : Int)) = ((lim - x : Nat) : Int) := by rw [IntKind.wrap_u64]; unfold lim at *; omega
  rw [e1, and_nat x _ hx (by unfold lim; omega), hlow, IntKind.wrap_u64]
  omega
set_option maxHeartbeats 1000000 in
theorem tz_core (x k idx : Nat) (w : World) (hx0 : ((x : Int) == 0) = false)
    (key : IntKind.u64.wrap (bits BinOp.and IntKind.u64 (x : Int) (IntKind.u64.wrap (-(x : Int))) * 285870213051353865) / 288230376151711744 = (idx : Int))
    (hi : idx < 64) (hk : k < 64) (hcell : w.cell? ⟨1, idx, none⟩ = some (.int .u8 k)) :
    Calls Tryz.prog 202 #[.int .u64 x] w fun e w' => e = .returned (.int .i64 k) ∧ w' = w := by
  go_enter Tryz.func202, Tryz.ntmps202
  go_wp2_with (simp only [key])
  go_ret
  exact ⟨rfl, rfl⟩
theorem tz_any (x : Nat) (hx : x < lim) (hx0 : x ≠ 0) (w : World) (hT : Tab w) : Calls Tryz.prog 202 #[.int .u64 x] w fun e w' => e = .returned (.int .i64 (Lib.ctz 64 x)) ∧ w' = w := by
  obtain ⟨hlow, hk⟩ := Lib.lowest_bit 64 x hx0 hx
  obtain ⟨hi, htab⟩ := Lib.deBruijn64_at _ hk
  have hcell := hT _ hi
  rw [htab] at hcell
  exact tz_core x _ _ w (by simp; omega) (tz_key x _ hx hx0 hlow) hi hk hcell
set_option maxHeartbeats 1000000 in
theorem has_any (b : Nat) (hb : b < lim) (n : Int) (w : World) : Calls Tryz.prog 82 #[.int .u64 b, .int .i64 n] w fun e w' => e = .returned (.bool (hasS b n)) ∧ w' = w := by
  have ha := and_bit b n hb
  cases h : hasS b n
  · rw [h, if_neg (by simp)] at ha
    go_enter Tryz.func82, Tryz.ntmps82
    go_wp2_with fail
    refine (bit_any n w).mono ?_
    rintro e w1 ⟨rfl, rfl⟩
    go_wp2_with fail
    go_ret
    exact ⟨rfl, rfl⟩
  · rw [h, if_pos rfl] at ha
    have hp := bitS_pos b n h
    have hp' : ((bitS n : Int) != 0) = true := by simpa using hp
    go_enter Tryz.func82, Tryz.ntmps82
    go_wp2_with fail
    refine (bit_any n w).mono ?_
    rintro e w1 ⟨rfl, rfl⟩
    go_wp2_with fail
    go_ret
    exact ⟨rfl, rfl⟩
theorem count_one (p : Nat → Bool) (k : Nat) (hk : p k = false) : ∀ l : List Nat, (l.filter (fun i => p i || decide (k = i))).length = (l.filter p).length + l.count k
  | [] => by simp
  | x :: l => by
    have ih := count_one p k hk l
    simp only [List.filter_cons, List.count_cons]
    by_cases e : k = x
    · subst e
      simp [hk, ih]; omega
    · have e2 : ¬ (x = k) := fun h => e h.symm
      cases h : p x <;> simp [e, e2, ih]
      omega
theorem many_with {b : Nat} {n : Int} (hn : nodeS n = true) (h : hasS b n = false) : manyS (withS b n) = manyS b + 1 := by
  obtain ⟨h0, h1⟩ := (nodeS_iff n).1 hn
  unfold hasS at h
  rw [hn, Bool.true_and] at h
  have hc := count_one (fun i => b.testBit i) n.toNat h (List.range 64)
  have e : (List.range 64).count n.toNat = 1 := by
    rw [List.nodup_range.count]
    rw [if_pos (List.mem_range.2 (by omega))]
  rw [e] at hc
  unfold manyS nodesS
  rw [← hc]
  congr 1
  refine List.filter_congr fun i _ => ?_
  rw [testBit_withS, hn, Bool.true_and]
end Go.Proofs.YtpoofjnfaijjjaaGreatDoor.Ro.Bnd
