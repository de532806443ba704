/-
  at, has, Low, Put, Get.
-/
import Derived.Test.YtlbeincgknmijaaTbl
namespace Go.Proofs.Ytlbeincgknmijaa
open Go.RowKit

theorem slot_of (n : Int) (n0 : 0 ≤ n) : ∃ j : Nat, j = (n % 64).toNat ∧ j < 64 ∧ n % 64 = j ∧ n.tmod 64 = j := by
  have h : 0 ≤ n % 64 := by omega
  refine ⟨(n % 64).toNat, rfl, by omega, by omega, ?_⟩
  rw [Int.tmod_eq_emod_of_nonneg n0]; omega

set_option maxHeartbeats 1000000 in
theorem sat_any (p : Nat) (n : Int) (n0 : 0 ≤ n) (w : World) :
    Calls Try.prog 44 #[.pointer (some ⟨p, 0, none⟩), .int .u64 n] w fun e w' => e = .returned (.pointer (some ⟨p, (n % 64).toNat * 4, none⟩)) ∧ w' = w := by
  obtain ⟨j, hj, hj', e1, e2⟩ := slot_of n n0
  rw [← hj]
  clear hj
  have k0 : (0 : Int) ≤ j := by omega
  have k1 : (j : Int) < 64 := by omega
  go_enter Try.func44, Try.ntmps44
  go_wp2_with fail
  go_ret
  exact ⟨rfl, rfl⟩

set_option maxHeartbeats 1000000 in
theorem shas_any (p : Nat) (low : Int) (R : Rng) (n : Int) (n0 : 0 ≤ n) (w : World) (hS : Sf p low R w) :
    Calls Try.prog 43 #[.pointer (some ⟨p, 0, none⟩), .int .u64 n] w fun e w' => e = .returned (.bool (hasR low R n)) ∧ w' = w := by
  have hl := hS.clow
  have c0 := hS.c0 (j := (n % 64).toNat) (by omega)
  have ha := sat_any p n n0 w
  unfold hasR
  generalize (n % 64).toNat = j at *
  generalize (R j).n = m at *
  by_cases h1 : low < n
  · have z1 : decide (low < n) = true := decide_eq_true h1
    by_cases h2 : m = n
    · have z2 : decide (m = n) = true := decide_eq_true h2
      go_enter Try.func43, Try.ntmps43
      go_wp2_with (go_at_call 44; refine ha.mono ?_; rintro e w1 ⟨rfl, rfl⟩)
      go_ret
      exact ⟨by simp [h1, h2], rfl⟩
    · have z2 : decide (m = n) = false := decide_eq_false h2
      go_enter Try.func43, Try.ntmps43
      go_wp2_with (go_at_call 44; refine ha.mono ?_; rintro e w1 ⟨rfl, rfl⟩)
      go_ret
      exact ⟨by simp [h1, h2], rfl⟩
  · have z1 : decide (low < n) = false := decide_eq_false h1
    go_enter Try.func43, Try.ntmps43
    go_wp2_with fail
    go_ret
    exact ⟨by simp, rfl⟩

theorem slow_any (p : Nat) (low : Int) (R : Rng) (w : World) (hS : Sf p low R w) :
    Calls Try.prog 53 #[.pointer (some ⟨p, 0, none⟩)] w fun e w' => e = .returned (.int .u64 low) ∧ w' = w := by
  have hl := hS.clow
  go_enter Try.func53, Try.ntmps53
  go_wp2_with fail
  go_ret
  exact ⟨rfl, rfl⟩

/-- What Put answers; what is there behind it. -/
def putE (low : Int) (has : Bool) (n : Int) (g : Ms) : Int :=
  if n = 0 ∨ n = 18446744073709551615 ∨ 64 < (g.x.size : Int) then 1 else if n ≤ low then 70 else if has then 4 else if 64 < n - low then 2 else 0
def putR (low : Int) (R : Rng) (n : Int) (g : Ms) : Rng := if putE low (hasR low R n) n g = 0 then R.set (n % 64).toNat ⟨n, g⟩ else R

set_option maxRecDepth 100000 in
set_option maxHeartbeats 4000000 in
theorem sput_any (p : Nat) (low : Int) (R : Rng) (n : Int) (g : Ms) (n0 : 0 ≤ n) (n1 : n ≤ 18446744073709551615) (l0 : 0 ≤ low) (l1 : low ≤ 1000000) (w : World) (hS : Sf p low R w) :
    Calls Try.prog 26 #[.pointer (some ⟨p, 0, none⟩), .int .u64 n, .agg #[.int .i64 g.s, .int .u64 g.m, .string g.x]] w fun e w' =>
      e = .returned (.int .i64 (putE low (hasR low R n) n g)) ∧ Sf p low (putR low R n g) w' ∧ But w.heap.size p w w' := by
  have hM := Bm.new g w
  have b1 := below_alloc w (.cells #[.int .i64 g.s, .int .u64 g.m, .string g.x] 28)
  have hS1 := hS.below b1
  have hl := hS1.clow
  have m0 := hM.c0
  have m1 := hM.c1
  have m2 := hM.c2
  have hh := shas_any p low R n n0 _ hS1
  have ha := fun w => sat_any p n n0 w
  obtain ⟨j, hj, hj', e1, e2⟩ := slot_of n n0
  obtain ⟨W, hW⟩ : ∃ W, Hid (w.alloc (.cells #[.int .i64 g.s, .int .u64 g.m, .string g.x] 28) = W) := ⟨_, rfl⟩
  by_cases h1 : n = 0 ∨ n = 18446744073709551615 ∨ 64 < (g.x.size : Int)
  · have e : putE low (hasR low R n) n g = 1 := by unfold putE; rw [if_pos h1]
    unfold putR
    rw [e]
    have hend : Sf p low (if (1 : Int) = 0 then R.set (n % 64).toNat ⟨n, g⟩ else R) (w.alloc (.cells #[.int .i64 g.s, .int .u64 g.m, .string g.x] 28)) := hS1
    clear e hW ha hh hj e1 e2
    by_cases q1 : n = 0
    · have z1 : (n == 0) = true := by simp [q1]
      clear h1 q1
      go_enter Try.func26, Try.ntmps26
      go_wp2_with fail
      go_ret
      exact ⟨rfl, hend, But.of b1⟩
    · have z1 : (n == 0) = false := by simp [q1]
      by_cases q2 : n = 18446744073709551615
      · have z2 : (n == 18446744073709551615) = true := by simp [q2]
        clear h1 q1 q2
        go_enter Try.func26, Try.ntmps26
        go_wp2_with fail
        go_ret
        exact ⟨rfl, hend, But.of b1⟩
      · have z2 : (n == 18446744073709551615) = false := by simp [q2]
        have z3 : decide (64 < (g.x.size : Int)) = true := decide_eq_true (by omega)
        clear h1 q1 q2
        go_enter Try.func26, Try.ntmps26
        go_wp2_with fail
        go_ret
        exact ⟨rfl, hend, But.of b1⟩
  · have z1 : (n == 0) = false := by simp; omega
    have z2 : (n == 18446744073709551615) = false := by simp; omega
    have z3 : decide (64 < (g.x.size : Int)) = false := decide_eq_false (by omega)
    by_cases h2 : n ≤ low
    · have z4 : decide (n ≤ low) = true := decide_eq_true h2
      have e : putE low (hasR low R n) n g = 70 := by unfold putE; rw [if_neg h1, if_pos h2]
      unfold putR
      rw [e]
      have hend : Sf p low (if (70 : Int) = 0 then R.set (n % 64).toNat ⟨n, g⟩ else R) (w.alloc (.cells #[.int .i64 g.s, .int .u64 g.m, .string g.x] 28)) := hS1
      clear e hW ha hh hj e1 e2 h1
      go_enter Try.func26, Try.ntmps26
      go_wp2_with fail
      go_ret
      exact ⟨rfl, hend, But.of b1⟩
    · have z4 : decide (n ≤ low) = false := decide_eq_false h2
      cases h3 : hasR low R n
      case true =>
        have e : putE low true n g = 4 := by unfold putE; rw [if_neg h1, if_neg h2]; rfl
        unfold putR
        rw [h3, e]
        rw [h3] at hh
        have hend : Sf p low (if (4 : Int) = 0 then R.set (n % 64).toNat ⟨n, g⟩ else R) (w.alloc (.cells #[.int .i64 g.s, .int .u64 g.m, .string g.x] 28)) := hS1
        clear e hW ha hj e1 e2 h1 h3
        go_enter Try.func26, Try.ntmps26
        go_wp2_with (go_at_call 43; refine hh.mono ?_; rintro e w1 ⟨rfl, rfl⟩)
        go_ret
        exact ⟨rfl, hend, But.of b1⟩
      case false =>
        rw [h3] at hh
        by_cases h4 : 64 < n - low
        · have z5 : decide (64 < n - low) = true := decide_eq_true h4
          have e : putE low false n g = 2 := by unfold putE; rw [if_neg h1, if_neg h2, if_neg (by simp), if_pos h4]
          unfold putR
          rw [h3, e]
          have hend : Sf p low (if (2 : Int) = 0 then R.set (n % 64).toNat ⟨n, g⟩ else R) (w.alloc (.cells #[.int .i64 g.s, .int .u64 g.m, .string g.x] 28)) := hS1
          clear e hW ha hj e1 e2 h1 h3
          go_enter Try.func26, Try.ntmps26
          go_wp2_with (go_at_call 43; refine hh.mono ?_; rintro e w1 ⟨rfl, rfl⟩)
          go_ret
          exact ⟨rfl, hend, But.of b1⟩
        · have z5 : decide (64 < n - low) = false := decide_eq_false h4
          have e : putE low false n g = 0 := by unfold putE; rw [if_neg h1, if_neg h2, if_neg (by simp), if_neg h4]
          unfold putR
          rw [h3, e, if_pos rfl]
          have hend := (hS1.put hj' ⟨n, g⟩).drewN
          have hbl := fun k => (But.set4 (p := p) (But.of b1) (j * 4) (j * 4 + 1) (j * 4 + 2) (j * 4 + 3) (.int .u64 n) (.int .i64 g.s) (.int .u64 g.m) (.string g.x)).drewN k
          rw [← hj] at ha ⊢
          have x0 := hS1.c0 hj'
          have x1 := hS1.c1 hj'
          have x2 := hS1.c2 hj'
          have x3 := hS1.c3 hj'
          have y0 := hS1.free (j * 4)
          have y1 := hS1.free (j * 4 + 1)
          have y2 := hS1.free (j * 4 + 2)
          have y3 := hS1.free (j * 4 + 3)
          clear e hW hj e1 e2 h1 h3
          go_enter Try.func26, Try.ntmps26
          go_wp2_with (go_at_call 43; refine hh.mono ?_; rintro e w1 ⟨rfl, rfl⟩)
          go_region_with (go_at_call 44; refine (ha _).mono ?_; rintro e w1 ⟨rfl, rfl⟩)
          all_goals
            go_wp2_with fail
            go_ret
            exact ⟨rfl, hend _, hbl _⟩
end Go.Proofs.Ytlbeincgknmijaa
