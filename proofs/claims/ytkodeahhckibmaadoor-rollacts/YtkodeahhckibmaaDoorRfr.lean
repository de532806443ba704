/-
  The reference's leaves of rank, and its Refute.
-/
import Derived.Test.YtkodeahhckibmaaDoorRfu
namespace Go.Proofs.YtkodeahhckibmaaDoor
open Go.RowKit

theorem flive_any (n i s : Int) (w : World) : Calls Tryd.prog 46 #[.agg #[.int .i64 n, .int .u64 i, .int .i64 s]] w fun e w' => e = .returned (.bool (liveS s)) ∧ Below w.heap.size w w' := by
  go_enter Tryd.func46, Tryd.ntmps46
  cases h1 : (s == 0)
  case true =>
    go_wp2_with fail
    go_ret
    exact ⟨by simp [liveS, h1], (Below.refl _ _).alloc (Nat.le_refl _) _⟩
  case false =>
    cases h2 : (s == 1)
    all_goals go_wp2_with fail
    all_goals go_ret
    all_goals exact ⟨by simp [liveS, h1, h2], (Below.refl _ _).alloc (Nat.le_refl _) _⟩

theorem fup_any (i : Int) (h0 : 0 ≤ i) (h1 : i ≤ 18446744073709551615) (w : World) : Calls Tryd.prog 45 #[.int .u64 i] w fun e w' => e = .returned (if i == 18446744073709551615 then .tuple #[.int .u64 0, .int .i64 60] else .tuple #[.int .u64 (i + 1), .int .i64 0]) ∧ w' = w := by
  go_enter Tryd.func45, Tryd.ntmps45
  cases h2 : (i == 18446744073709551615)
  case true =>
    go_wp2_with fail
    go_ret2
    exact ⟨rfl, rfl⟩
  case false =>
    have : i ≠ 18446744073709551615 := by simpa using h2
    have h3 : i + 1 ≤ 18446744073709551615 := by omega
    clear this
    go_wp2_with fail
    go_ret2
    exact ⟨rfl, rfl⟩


set_option maxHeartbeats 1000000 in
theorem frefute_any (me inc n i s : Int) (h0 : 0 ≤ i) (h1 : i ≤ 18446744073709551615) (w : World) : Calls Tryd.prog 25 #[.int .i64 me, .int .u64 inc, .agg #[.int .i64 n, .int .u64 i, .int .i64 s]] w fun e w' => e = .returned (refS me inc n i s) ∧ Below w.heap.size w w' := by
  go_enter Tryd.func25, Tryd.ntmps25
  have hB := Bx.new 34 n i s w
  have hb0 : Below w.heap.size w (w.alloc (.cells #[.int .i64 n, .int .u64 i, .int .i64 s] 34)) := (Below.refl _ _).alloc (Nat.le_refl _) _
  obtain ⟨m, HM⟩ : ∃ m, Hid (mayS n s = m) := ⟨_, rfl⟩
  obtain ⟨r, HR⟩ : ∃ r, Hid (refS me inc n i s = r) := ⟨_, rfl⟩
  rw [HR.out]
  go_wp2_with fail
  refine (fmay_any _ _ _ _).mono ?_
  rw [HM.out]
  rintro e w1 ⟨rfl, hb1⟩
  have hb1' : Below w.heap.size w w1 := hb0.trans (hb1.mono hb0.size)
  have hB1 := hB.below hb1
  clear hB hb0 hb1
  have c0 := hB1.c0
  have c1 := hB1.c1
  have c2 := hB1.c2
  cases m
  case false =>
    go_wp2_with fail
    go_ret3
    refine ⟨?_, hb1'⟩
    rw [← HR.out]; simp [refS, denS, HM.out]
  case true =>
    cases hn : (n != me)
    case true =>
      go_wp2_with fail
      go_ret3
      refine ⟨?_, hb1'⟩
      have : (n == me) = false := by simpa using hn
      rw [← HR.out]; simp [refS, denS, this]
    case false =>
      obtain rfl : n = me := by simpa using hn
      clear hn
      have hs : 0 ≤ s := by
        have := HM.out
        simp [mayS] at this; omega
      by_cases h2 : i < inc
      · go_wp2_with fail
        go_ret3
        refine ⟨?_, hb1'⟩
        have : newerS i s inc 0 = false := by simp [newerS]; omega
        rw [← HR.out]; simp [refS, denS, this]
      · cases h3 : (i == inc)
        case false =>
          have h3' : i ≠ inc := by simpa using h3
          have hd : newerS i s inc 0 = true := by simp [newerS]; omega
          clear h3'
          have hR : r = if i == 18446744073709551615 then .tuple #[.int .u64 inc, .bool false, .int .i64 60] else .tuple #[.int .u64 (i + 1), .bool true, .int .i64 0] := by
            rw [← HR.out]; simp [refS, denS, HM.out, hd]
          cases hi : (i == 18446744073709551615)
          all_goals go_wp2_with fail
          all_goals refine (fup_any _ h0 h1 _).mono ?_
          all_goals rw [hi]
          all_goals rintro e w3 ⟨rfl, rfl⟩
          all_goals simp only [Bool.false_eq_true, if_true, if_false]
          all_goals go_wp2_with fail
          all_goals go_ret3
          all_goals refine ⟨?_, hb1'⟩
          all_goals rw [hR, hi]; rfl
        case true =>
          cases h4 : (s == 0)
          case true =>
            obtain rfl : s = 0 := by simpa using h4
            obtain rfl : i = inc := by simpa using h3
            clear h3 h4
            go_wp2_with fail
            go_ret3
            refine ⟨?_, hb1'⟩
            have : newerS i 0 i 0 = false := by simp [newerS]
            rw [← HR.out]; simp [refS, denS, this]
          case false =>
            have h4' : s ≠ 0 := by simpa using h4
            have h3' : i = inc := by simpa using h3
            have hd : newerS i s inc 0 = true := by simp [newerS]; omega
            clear h3' h4'
            have hR : r = if i == 18446744073709551615 then .tuple #[.int .u64 inc, .bool false, .int .i64 60] else .tuple #[.int .u64 (i + 1), .bool true, .int .i64 0] := by
              rw [← HR.out]; simp [refS, denS, HM.out, hd]
            cases hi : (i == 18446744073709551615)
            all_goals go_wp2_with fail
            all_goals refine (fup_any _ h0 h1 _).mono ?_
            all_goals rw [hi]
            all_goals rintro e w3 ⟨rfl, rfl⟩
            all_goals simp only [Bool.false_eq_true, if_true, if_false]
            all_goals go_wp2_with fail
            all_goals go_ret3
            all_goals refine ⟨?_, hb1'⟩
            all_goals rw [hR, hi]; rfl
end Go.Proofs.YtkodeahhckibmaaDoor
