/-
  The leaves of rank and of its reference: what may be, what is live, what is newer, the incarnation behind, what denies. Refute, and the reference's. The reference's leaves of rank, and its Refute.
-/
import Derived.Test.YtpoofjnfaijjjaaGreatDoorProg
import Derived.WalkKit
import Derived.WalkSpells
import Derived.WalkLawsBesides
import Derived.Deep.LoopGhost
import Derived.Deep.QuietTactic
import Derived.BigQuiet
namespace Go.Proofs.YtpoofjnfaijjjaaGreatDoor.Ro
open Go.RowKit
def mayS (n s : Int) : Bool := decide (0 ≤ n) && (decide (n < 64) && (decide (0 ≤ s) && decide (s ≤ 3)))
def newerS (i s j t : Int) : Bool := decide (j < i) || ((i == j) && decide (t < s))
def liveS (s : Int) : Bool := (s == 0) || (s == 1)
theorem upd_may (n i s : Int) (w : World) : Calls Tryz.prog 114 #[.agg #[.int .i64 n, .int .u64 i, .int .i64 s]] w fun e w' => e = .returned (.bool (mayS n s)) ∧ Below w.heap.size w w' := by
  go_enter Tryz.func114, Tryz.ntmps114
  by_cases h1 : 0 ≤ n
  · by_cases h2 : n < 64
    · by_cases h3 : 0 ≤ s
      · by_cases h4 : s ≤ 3
        · go_wp2_with fail
          go_ret
          exact ⟨by simp [mayS, h1, h2, h3, h4], (Below.refl _ _).alloc (Nat.le_refl _) _⟩
        · go_wp2_with fail
          go_ret
          exact ⟨by simp [mayS, h1, h2, h3, h4], (Below.refl _ _).alloc (Nat.le_refl _) _⟩
      · go_wp2_with fail
        go_ret
        exact ⟨by simp [mayS] <;> omega, (Below.refl _ _).alloc (Nat.le_refl _) _⟩
    · go_wp2_with fail
      go_ret
      exact ⟨by simp [mayS] <;> omega, (Below.refl _ _).alloc (Nat.le_refl _) _⟩
  · go_wp2_with fail
    go_ret
    exact ⟨by simp [mayS] <;> omega, (Below.refl _ _).alloc (Nat.le_refl _) _⟩
theorem fmay_any (n i s : Int) (w : World) : Calls Tryz.prog 72 #[.agg #[.int .i64 n, .int .u64 i, .int .i64 s]] w fun e w' => e = .returned (.bool (mayS n s)) ∧ Below w.heap.size w w' := by
  go_enter Tryz.func72, Tryz.ntmps72
  by_cases h1 : 0 ≤ n
  · by_cases h2 : n < 64
    · by_cases h3 : 0 ≤ s
      · by_cases h4 : s ≤ 3
        · go_wp2_with fail
          go_ret
          exact ⟨by simp [mayS, h1, h2, h3, h4], (Below.refl _ _).alloc (Nat.le_refl _) _⟩
        · go_wp2_with fail
          go_ret
          exact ⟨by simp [mayS, h1, h2, h3, h4], (Below.refl _ _).alloc (Nat.le_refl _) _⟩
      · go_wp2_with fail
        go_ret
        exact ⟨by simp [mayS] <;> omega, (Below.refl _ _).alloc (Nat.le_refl _) _⟩
    · go_wp2_with fail
      go_ret
      exact ⟨by simp [mayS] <;> omega, (Below.refl _ _).alloc (Nat.le_refl _) _⟩
  · go_wp2_with fail
    go_ret
    exact ⟨by simp [mayS] <;> omega, (Below.refl _ _).alloc (Nat.le_refl _) _⟩
theorem upd_newer (n i s m j t : Int) (w : World) : Calls Tryz.prog 115 #[.agg #[.int .i64 n, .int .u64 i, .int .i64 s], .agg #[.int .i64 m, .int .u64 j, .int .i64 t]] w fun e w' => e = .returned (.bool (newerS i s j t)) ∧ Below w.heap.size w w' := by
  go_enter Tryz.func115, Tryz.ntmps115
  by_cases h1 : j < i
  · go_wp2_with fail
    go_ret
    exact ⟨by simp [newerS, h1], ((Below.refl _ _).alloc (Nat.le_refl _) _).alloc (by simp) _⟩
  · by_cases h2 : i = j
    · have h2' : (i == j) = true := by simp [h2]
      by_cases h3 : t < s
      · clear h2
        go_wp2_with fail
        go_ret
        exact ⟨by simp [newerS, h2', h3], ((Below.refl _ _).alloc (Nat.le_refl _) _).alloc (by simp) _⟩
      · clear h2
        go_wp2_with fail
        go_ret
        exact ⟨by simp [newerS] <;> omega, ((Below.refl _ _).alloc (Nat.le_refl _) _).alloc (by simp) _⟩
    · have h2' : (i == j) = false := by simp [h2]
      clear h2
      go_wp2_with fail
      go_ret
      exact ⟨by simp [newerS, h2', h1], ((Below.refl _ _).alloc (Nat.le_refl _) _).alloc (by simp) _⟩
theorem fnewer_any (n i s m j t : Int) (w : World) : Calls Tryz.prog 73 #[.agg #[.int .i64 n, .int .u64 i, .int .i64 s], .agg #[.int .i64 m, .int .u64 j, .int .i64 t]] w fun e w' => e = .returned (.bool (newerS i s j t)) ∧ Below w.heap.size w w' := by
  go_enter Tryz.func73, Tryz.ntmps73
  by_cases h1 : j < i
  · go_wp2_with fail
    go_ret
    exact ⟨by simp [newerS, h1], ((Below.refl _ _).alloc (Nat.le_refl _) _).alloc (by simp) _⟩
  · by_cases h2 : i = j
    · have h2' : (i == j) = true := by simp [h2]
      by_cases h3 : t < s
      · clear h2
        go_wp2_with fail
        go_ret
        exact ⟨by simp [newerS, h2', h3], ((Below.refl _ _).alloc (Nat.le_refl _) _).alloc (by simp) _⟩
      · clear h2
        go_wp2_with fail
        go_ret
        exact ⟨by simp [newerS] <;> omega, ((Below.refl _ _).alloc (Nat.le_refl _) _).alloc (by simp) _⟩
    · have h2' : (i == j) = false := by simp [h2]
      clear h2
      go_wp2_with fail
      go_ret
      exact ⟨by simp [newerS, h2', h1], ((Below.refl _ _).alloc (Nat.le_refl _) _).alloc (by simp) _⟩
theorem live_any (n i s : Int) (w : World) : Calls Tryz.prog 110 #[.agg #[.int .i64 n, .int .u64 i, .int .i64 s]] w fun e w' => e = .returned (.bool (liveS s)) ∧ Below w.heap.size w w' := by
  go_enter Tryz.func110, Tryz.ntmps110
  cases h1 : (s == 0)
  case true =>
    go_wp2_with fail
    go_ret
    exact ⟨by simp [liveS, h1], (Below.refl _ _).alloc (Nat.le_refl _) _⟩
  case false =>
    cases h2 : (s == 1)
    all_goals go_wp2_with fail
    all_goals go_ret
    all_goals exact ⟨by simp [liveS, h1, h2], (Below.refl _ _).alloc (Nat.le_refl _) _⟩
theorem up_any (i : Int) (h0 : 0 ≤ i) (h1 : i ≤ 18446744073709551615) (w : World) : Calls Tryz.prog 193 #[.int .u64 i] w fun e w' => e = .returned (if i == 18446744073709551615 then .tuple #[.int .u64 0, .int .i64 60] else .tuple #[.int .u64 (i + 1), .int .i64 0]) ∧ w' = w := by
  go_enter Tryz.func193, Tryz.ntmps193
  cases h2 : (i == 18446744073709551615)
  case true =>
    go_wp2_with fail
    go_ret2
    exact ⟨rfl, rfl⟩
  case false =>
    have : i ≠ 18446744073709551615 := by simpa using h2
    have h3 : i + 1 ≤ 18446744073709551615 := by omega
    clear this
    go_wp2_with fail
    go_ret2
    exact ⟨rfl, rfl⟩
theorem may_any (n i s : Int) (w : World) : Calls Tryz.prog 67 #[.agg #[.int .i64 n, .int .u64 i, .int .i64 s]] w fun e w' => e = .returned (.bool (mayS n s)) ∧ Below w.heap.size w w' := by
  go_enter Tryz.func67, Tryz.ntmps67
  go_wp2_with (go_at_call 114; refine (upd_may _ _ _ _).mono ?_; rintro e w1 ⟨rfl, hb⟩)
  go_ret
  exact ⟨rfl, ((Below.refl _ _).alloc (Nat.le_refl _) _).trans (hb.mono (by simp))⟩
theorem newer_any (n i s m j t : Int) (w : World) : Calls Tryz.prog 69 #[.agg #[.int .i64 n, .int .u64 i, .int .i64 s], .agg #[.int .i64 m, .int .u64 j, .int .i64 t]] w fun e w' => e = .returned (.bool (newerS i s j t)) ∧ Below w.heap.size w w' := by
  go_enter Tryz.func69, Tryz.ntmps69
  go_wp2_with (go_at_call 115; refine (upd_newer _ _ _ _ _ _ _).mono ?_; rintro e w1 ⟨rfl, hb⟩)
  go_ret
  exact ⟨rfl, (((Below.refl _ _).alloc (Nat.le_refl _) _).alloc (by simp) _).trans (hb.mono (by simp; omega))⟩
theorem denies_any (n i s j : Int) (w : World) : Calls Tryz.prog 192 #[.agg #[.int .i64 n, .int .u64 i, .int .i64 s], .int .u64 j] w fun e w' => e = .returned (.bool (newerS i s j 0)) ∧ Below w.heap.size w w' := by
  go_enter Tryz.func192, Tryz.ntmps192
  go_wp2_with (go_at_call 115; refine (upd_newer _ _ _ _ _ _ _).mono ?_; rintro e w1 ⟨rfl, hb⟩)
  go_ret
  exact ⟨rfl, ((Below.refl _ _).alloc (Nat.le_refl _) _).trans (hb.mono (by simp))⟩
structure Bx (T : TypeId) (g : Nat) (n i s : Int) (w : World) : Prop where
  heap : w.heap[g]? = some (.cells #[.int .i64 n, .int .u64 i, .int .i64 s] T (0, 0))
section
variable {T : TypeId} {g : Nat} {n i s : Int} {w w' : World}
theorem Bx.c0 (h : Bx T g n i s w) : w.cell? ⟨g, 0, none⟩ = some (.int .i64 n) := by simp [World.cell?, h.heap]
theorem Bx.c1 (h : Bx T g n i s w) : w.cell? ⟨g, 1, none⟩ = some (.int .u64 i) := by simp [World.cell?, h.heap]
theorem Bx.c2 (h : Bx T g n i s w) : w.cell? ⟨g, 2, none⟩ = some (.int .i64 s) := by simp [World.cell?, h.heap]
theorem Bx.lt (h : Bx T g n i s w) : g < w.heap.size := (Array.getElem?_eq_some_iff.1 h.heap).1
theorem Bx.keep (h : Bx T g n i s w) (e : w'.heap[g]? = w.heap[g]?) : Bx T g n i s w' := ⟨e.trans h.heap⟩
theorem Bx.below (h : Bx T g n i s w) (b : Below w.heap.size w w') : Bx T g n i s w' := h.keep (b.block g h.lt)
theorem Bx.new (T : TypeId) (n i s : Int) (w : World) : Bx T w.heap.size n i s (w.alloc (.cells #[.int .i64 n, .int .u64 i, .int .i64 s] T)) := ⟨heap_alloc_new w _⟩
end
def denS (me inc n i s : Int) : Bool := (n == me) && (mayS n s && newerS i s inc 0)
def refS (me inc n i s : Int) : Value := if denS me inc n i s then (if i == 18446744073709551615 then .tuple #[.int .u64 inc, .bool false, .int .i64 60] else .tuple #[.int .u64 (i + 1), .bool true, .int .i64 0]) else .tuple #[.int .u64 inc, .bool false, .int .i64 0]
set_option maxHeartbeats 1000000 in
theorem refute_any (me inc n i s : Int) (h0 : 0 ≤ i) (h1 : i ≤ 18446744073709551615) (w : World) : Calls Tryz.prog 160 #[.int .i64 me, .int .u64 inc, .agg #[.int .i64 n, .int .u64 i, .int .i64 s]] w fun e w' => e = .returned (refS me inc n i s) ∧ Below w.heap.size w w' := by
  go_enter Tryz.func160, Tryz.ntmps160
  have hB := Bx.new 39 n i s w
  have hb0 : Below w.heap.size w (w.alloc (.cells #[.int .i64 n, .int .u64 i, .int .i64 s] 39)) := (Below.refl _ _).alloc (Nat.le_refl _) _
  cases hn : (n != me)
  case true =>
    go_wp2_with fail
    go_ret3
    exact ⟨by have : (n == me) = false := by simpa using hn
              simp [refS, denS, this], hb0⟩
  case false =>
    obtain rfl : n = me := by simpa using hn
    clear hn
    obtain ⟨m, HM⟩ : ∃ m, Hid (mayS n s = m) := ⟨_, rfl⟩
    obtain ⟨d, HD⟩ : ∃ d, Hid (newerS i s inc 0 = d) := ⟨_, rfl⟩
    obtain ⟨r, HR⟩ : ∃ r, Hid (refS n inc n i s = r) := ⟨_, rfl⟩
    rw [HR.out]
    go_wp2_with fail
    refine (may_any _ _ _ _).mono ?_
    rw [HM.out]
    rintro e w1 ⟨rfl, hb1⟩
    have hb1' : Below w.heap.size w w1 := hb0.trans (hb1.mono hb0.size)
    have hB1 := hB.below hb1
    clear hB hb0 hb1
    have c0 := hB1.c0
    have c1 := hB1.c1
    have c2 := hB1.c2
    cases m
    case false =>
      go_wp2_with fail
      go_ret3
      refine ⟨?_, hb1'⟩
      rw [← HR.out]; simp [refS, denS, HM.out]
    case true =>
      go_wp2_with fail
      refine (denies_any _ _ _ _ _).mono ?_
      rw [HD.out]
      rintro e w2 ⟨rfl, hb2⟩
      have hb2' := hb1'.trans (hb2.mono hb1'.size)
      have hB2 := hB1.below hb2
      clear hB1 hb1' hb2 c0 c1 c2
      have c0 := hB2.c0
      have c1 := hB2.c1
      have c2 := hB2.c2
      cases d
      case false =>
        go_wp2_with fail
        go_ret3
        refine ⟨?_, hb2'⟩
        rw [← HR.out]; simp [refS, denS, HD.out]
      case true =>
        have hR : r = if i == 18446744073709551615 then .tuple #[.int .u64 inc, .bool false, .int .i64 60] else .tuple #[.int .u64 (i + 1), .bool true, .int .i64 0] := by
          rw [← HR.out]; simp [refS, denS, HM.out, HD.out]
        cases hi : (i == 18446744073709551615)
        all_goals go_wp2_with fail
        all_goals refine (up_any _ h0 h1 _).mono ?_
        all_goals rw [hi]
        all_goals rintro e w3 ⟨rfl, rfl⟩
        all_goals simp only [Bool.false_eq_true, if_true, if_false]
        all_goals go_wp2_with fail
        all_goals go_ret3
        all_goals refine ⟨?_, hb2'⟩
        all_goals rw [hR, hi]; rfl
theorem flive_any (n i s : Int) (w : World) : Calls Tryz.prog 108 #[.agg #[.int .i64 n, .int .u64 i, .int .i64 s]] w fun e w' => e = .returned (.bool (liveS s)) ∧ Below w.heap.size w w' := by
  go_enter Tryz.func108, Tryz.ntmps108
  cases h1 : (s == 0)
  case true =>
    go_wp2_with fail
    go_ret
    exact ⟨by simp [liveS, h1], (Below.refl _ _).alloc (Nat.le_refl _) _⟩
  case false =>
    cases h2 : (s == 1)
    all_goals go_wp2_with fail
    all_goals go_ret
    all_goals exact ⟨by simp [liveS, h1, h2], (Below.refl _ _).alloc (Nat.le_refl _) _⟩
theorem fup_any (i : Int) (h0 : 0 ≤ i) (h1 : i ≤ 18446744073709551615) (w : World) : Calls Tryz.prog 172 #[.int .u64 i] w fun e w' => e = .returned (if i == 18446744073709551615 then .tuple #[.int .u64 0, .int .i64 60] else .tuple #[.int .u64 (i + 1), .int .i64 0]) ∧ w' = w := by
  go_enter Tryz.func172, Tryz.ntmps172
  cases h2 : (i == 18446744073709551615)
  case true =>
    go_wp2_with fail
    go_ret2
    exact ⟨rfl, rfl⟩
  case false =>
    have : i ≠ 18446744073709551615 := by simpa using h2
    have h3 : i + 1 ≤ 18446744073709551615 := by omega
    clear this
    go_wp2_with fail
    go_ret2
    exact ⟨rfl, rfl⟩
set_option maxHeartbeats 1000000 in
theorem frefute_any (me inc n i s : Int) (h0 : 0 ≤ i) (h1 : i ≤ 18446744073709551615) (w : World) : Calls Tryz.prog 137 #[.int .i64 me, .int .u64 inc, .agg #[.int .i64 n, .int .u64 i, .int .i64 s]] w fun e w' => e = .returned (refS me inc n i s) ∧ Below w.heap.size w w' := by
  go_enter Tryz.func137, Tryz.ntmps137
  have hB := Bx.new 39 n i s w
  have hb0 : Below w.heap.size w (w.alloc (.cells #[.int .i64 n, .int .u64 i, .int .i64 s] 39)) := (Below.refl _ _).alloc (Nat.le_refl _) _
  obtain ⟨m, HM⟩ : ∃ m, Hid (mayS n s = m) := ⟨_, rfl⟩
  obtain ⟨r, HR⟩ : ∃ r, Hid (refS me inc n i s = r) := ⟨_, rfl⟩
  rw [HR.out]
  go_wp2_with fail
  refine (fmay_any _ _ _ _).mono ?_
  rw [HM.out]
  rintro e w1 ⟨rfl, hb1⟩
  have hb1' : Below w.heap.size w w1 := hb0.trans (hb1.mono hb0.size)
  have hB1 := hB.below hb1
  clear hB hb0 hb1
  have c0 := hB1.c0
  have c1 := hB1.c1
  have c2 := hB1.c2
  cases m
  case false =>
    go_wp2_with fail
    go_ret3
    refine ⟨?_, hb1'⟩
    rw [← HR.out]; simp [refS, denS, HM.out]
  case true =>
    cases hn : (n != me)
    case true =>
      go_wp2_with fail
      go_ret3
      refine ⟨?_, hb1'⟩
      have : (n == me) = false := by simpa using hn
      rw [← HR.out]; simp [refS, denS, this]
    case false =>
      obtain rfl : n = me := by simpa using hn
      clear hn
      have hs : 0 ≤ s := by
        have := HM.out
        simp [mayS] at this; omega
      by_cases h2 : i < inc
      · go_wp2_with fail
        go_ret3
        refine ⟨?_, hb1'⟩
        have : newerS i s inc 0 = false := by simp [newerS]; omega
        rw [← HR.out]; simp [refS, denS, this]
      · cases h3 : (i == inc)
        case false =>
          have h3' : i ≠ inc := by simpa using h3
          have hd : newerS i s inc 0 = true := by simp [newerS]; omega
          clear h3'
          have hR : r = if i == 18446744073709551615 then .tuple #[.int .u64 inc, .bool false, .int .i64 60] else .tuple #[.int .u64 (i + 1), .bool true, .int .i64 0] := by
            rw [← HR.out]; simp [refS, denS, HM.out, hd]
          cases hi : (i == 18446744073709551615)
          all_goals go_wp2_with fail
          all_goals refine (fup_any _ h0 h1 _).mono ?_
          all_goals rw [hi]
          all_goals rintro e w3 ⟨rfl, rfl⟩
          all_goals simp only [Bool.false_eq_true, if_true, if_false]
          all_goals go_wp2_with fail
          all_goals go_ret3
          all_goals refine ⟨?_, hb1'⟩
          all_goals rw [hR, hi]; rfl
        case true =>
          cases h4 : (s == 0)
          case true =>
            obtain rfl : s = 0 := by simpa using h4
            obtain rfl : i = inc := by simpa using h3
            clear h3 h4
            go_wp2_with fail
            go_ret3
            refine ⟨?_, hb1'⟩
            have : newerS i 0 i 0 = false := by simp [newerS]
            rw [← HR.out]; simp [refS, denS, this]
          case false =>
            have h4' : s ≠ 0 := by simpa using h4
            have h3' : i = inc := by simpa using h3
            have hd : newerS i s inc 0 = true := by simp [newerS]; omega
            clear h3' h4'
            have hR : r = if i == 18446744073709551615 then .tuple #[.int .u64 inc, .bool false, .int .i64 60] else .tuple #[.int .u64 (i + 1), .bool true, .int .i64 0] := by
              rw [← HR.out]; simp [refS, denS, HM.out, hd]
            cases hi : (i == 18446744073709551615)
            all_goals go_wp2_with fail
            all_goals refine (fup_any _ h0 h1 _).mono ?_
            all_goals rw [hi]
            all_goals rintro e w3 ⟨rfl, rfl⟩
            all_goals simp only [Bool.false_eq_true, if_true, if_false]
            all_goals go_wp2_with fail
            all_goals go_ret3
            all_goals refine ⟨?_, hb1'⟩
            all_goals rw [hR, hi]; rfl
end Go.Proofs.YtpoofjnfaijjjaaGreatDoor.Ro
