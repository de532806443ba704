/-
  May, of the code and of the reference.
-/
import Derived.Test.YtlbeincgknmijaaBas
namespace Go.Proofs.Ytlbeincgknmijaa
open Go.RowKit

theorem ok1_succ {l : List Sn} {k : Nat} (h : ∀ i, i < k → Ok1 l i) (hk : Ok1 l k) : ∀ i, i < k + 1 → Ok1 l i := by
  intro i hi
  rcases Nat.lt_or_ge i k with h' | h'
  · exact h i h'
  · obtain rfl : i = k := by omega
    exact hk

set_option maxRecDepth 100000 in
set_option maxHeartbeats 1000000 in
theorem may_any (v : Value) (l : List Sn) (w : World) (hR : Rs v l w) (hl : l.length ≤ 1000000) :
    Calls Try.prog 48 #[v] w fun e w' => e = .returned (.bool (mayS l)) ∧ Below w.heap.size w w' := by
  obtain ⟨⟨a, cap, rfl, h1, h2, h3⟩, hok⟩ := id hR
  have hlen : (l.length : Int) ≤ 1000000 := by omega
  obtain ⟨R, HR⟩ : ∃ R, Hid (mayS l = R) := ⟨_, rfl⟩
  rw [HR.out]
  go_enter Try.func48, Try.ntmps48
  go_wp2_with fail
  go_loopg [7] l.length (fun gk t7 wr => ∃ k : Nat, k + gk = l.length ∧ t7 = .int .i64 k ∧ Hid (∀ i, i < k → Ok1 l i) ∧ Below w.heap.size w wr)
  case atStart => exact ⟨0, by omega, rfl, fun i hi => absurd hi (Nat.not_lt_zero _), Below.refl _ _⟩
  case round =>
    obtain ⟨k, hk, rfl, hI, hB⟩ := hrel
    by_cases hlt : (k : Int) < l.length
    · have hk' : k < l.length := by omega
      have k0 : (0 : Int) ≤ k := by omega
      rcases h3 with h3 | ⟨g, off, rfl, h3⟩
      · omega
      have hR1 := hR.below hB
      obtain ⟨c0, c1⟩ := hR1.at hk'
      have ho := hok _ (el_mem hk')
      have b1 := below_alloc wr (.cells #[.int .u64 (el l k).f, .int .u64 (el l k).t] 51)
      have hbx := Bx.new 51 (el l k).f (el l k).t wr
      have hR2 := hR1.below b1
      have hB2 := hB.trans (b1.mono hB.size)
      have hgo : Ok1 l k → Hid (∀ i, i < k + 1 → Ok1 l i) := fun h => ok1_succ hI.out h
      have hno : ¬ Ok1 l k → R = false := fun h => HR.out.symm.trans (mayS_not hok hk' h)
      have x0 := hbx.c0
      have x1 := hbx.c1
      obtain ⟨f0, f1, t0, t1⟩ := ho
      by_cases q1 : (el l k).f ≤ (el l k).t
      · cases q2 : ((el l k).t == 18446744073709551615)
        case true =>
          obtain rfl := hno (fun h => h.2.1 (by simpa using q2))
          generalize (el l k).f = f at *
          generalize (el l k).t = t at *
          go_wp2_with fail
          go_ret
          exact ⟨rfl, hB2⟩
        case false =>
          cases k with
          | zero =>
            have hgo := hgo ⟨q1, by simpa using q2, fun h => absurd h (Nat.lt_irrefl 0)⟩
            simp only [Nat.zero_mul, Nat.add_zero] at c0 c1
            generalize (el l 0).f = f at *
            generalize (el l 0).t = t at *
            go_wp2_with fail
            generalize World.alloc _ _ = w4 at *
            go_quiet (fail)
            go_wp2_with fail
            go_roundg (gk - 1)
            case rel => exact ⟨1, by omega, by go_num, hgo, hB2.trans (below_drewN _ _ _)⟩
            case measure => omega
          | succ j =>
            have hj : j < l.length := by omega
            obtain ⟨_, y1⟩ := hR2.at hj
            have hoj := hok _ (el_mem hj)
            have hpj := (hI.out j (by omega)).2.1
            obtain ⟨_, _, p0, p1⟩ := hoj
            have hpb : (el l j).t + 1 ≤ 18446744073709551615 := by omega
            have q3 : Ok1 l (j + 1) ↔ (el l j).t + 1 < (el l (j + 1)).f := ⟨fun h => h.2.2 (by omega), fun h => ⟨q1, by simpa using q2, fun _ => h⟩⟩
            clear hpj
            by_cases q4 : (el l j).t + 1 < (el l (j + 1)).f
            · have hgo := hgo (q3.2 q4)
              clear q3 hno
              generalize (el l (j + 1)).f = f at *
              generalize (el l (j + 1)).t = t at *
              generalize (el l j).t = p at *
              go_wp2_with fail
              generalize World.alloc _ _ = w4 at *
              go_quiet (fail)
              go_wp2_with fail
              go_roundg (gk - 1)
              case rel => exact ⟨j + 1 + 1, by omega, by go_num, hgo, hB2.trans (below_drewN _ _ _)⟩
              case measure => omega
            · obtain rfl := hno (fun h => q4 (q3.1 h))
              clear q3 hgo
              generalize (el l (j + 1)).f = f at *
              generalize (el l (j + 1)).t = t at *
              generalize (el l j).t = p at *
              go_wp2_with fail
              generalize World.alloc _ _ = w4 at *
              go_quiet (fail)
              go_wp2_with fail
              go_ret
              exact ⟨rfl, hB2.trans (below_drewN _ _ _)⟩
      · obtain rfl := hno (fun h => q1 h.1)
        generalize (el l k).f = f at *
        generalize (el l k).t = t at *
        go_wp2_with fail
        go_ret
        exact ⟨rfl, hB2⟩
    · have ek : l.length ≤ k := by omega
      obtain rfl : R = true := by rw [← HR.out, mayS_ok1 hok]; exact fun i hi => hI.out i (by omega)
      go_wp2_with fail
      go_ret
      exact ⟨rfl, hB⟩

set_option maxRecDepth 100000 in
set_option maxHeartbeats 1000000 in
theorem fmay_any (v : Value) (l : List Sn) (w : World) (hR : Rs v l w) (hl : l.length ≤ 1000000) :
    Calls Try.prog 25 #[v] w fun e w' => e = .returned (.bool (mayS l)) ∧ Below w.heap.size w w' := by
  obtain ⟨⟨a, cap, rfl, h1, h2, h3⟩, hok⟩ := id hR
  have hlen : (l.length : Int) ≤ 1000000 := by omega
  obtain ⟨R, HR⟩ : ∃ R, Hid (mayS l = R) := ⟨_, rfl⟩
  rw [HR.out]
  go_enter Try.func25, Try.ntmps25
  go_wp2_with fail
  go_loopg [3] l.length (fun gk t7 wr => ∃ k : Nat, k + gk = l.length ∧ t7 = .int .i64 k ∧ Hid (∀ i, i < k → Ok1 l i) ∧ Below w.heap.size w wr)
  case atStart => exact ⟨0, by omega, rfl, fun i hi => absurd hi (Nat.not_lt_zero _), Below.refl _ _⟩
  case round =>
    obtain ⟨k, hk, rfl, hI, hB⟩ := hrel
    by_cases hlt : (k : Int) < l.length
    · have hk' : k < l.length := by omega
      have k0 : (0 : Int) ≤ k := by omega
      rcases h3 with h3 | ⟨g, off, rfl, h3⟩
      · omega
      have hR1 := hR.below hB
      obtain ⟨c0, c1⟩ := hR1.at hk'
      have ho := hok _ (el_mem hk')
      have hgo : Ok1 l k → Hid (∀ i, i < k + 1 → Ok1 l i) := fun h => ok1_succ hI.out h
      have hno : ¬ Ok1 l k → R = false := fun h => HR.out.symm.trans (mayS_not hok hk' h)
      obtain ⟨f0, f1, t0, t1⟩ := ho
      by_cases q1 : (el l k).f ≤ (el l k).t
      · have z1 : decide ((el l k).t < (el l k).f) = false := decide_eq_false (by omega)
        cases q2 : ((el l k).t == 18446744073709551615)
        case true =>
          obtain rfl := hno (fun h => h.2.1 (by simpa using q2))
          clear hgo
          generalize (el l k).f = f at *
          generalize (el l k).t = t at *
          go_wp2_with fail
          go_quiet (fail)
          go_wp2_with fail
          go_ret
          exact ⟨rfl, hB.trans (below_drewN _ _ _)⟩
        case false =>
          cases k with
          | zero =>
            have hgo := hgo ⟨q1, by simpa using q2, fun h => absurd h (Nat.lt_irrefl 0)⟩
            simp only [Nat.zero_mul, Nat.add_zero] at c0 c1
            clear hno
            generalize (el l 0).f = f at *
            generalize (el l 0).t = t at *
            go_wp2_with fail
            go_quiet (fail)
            go_wp2_with fail
            go_roundg (gk - 1)
            case rel => exact ⟨1, by omega, by go_num, hgo, hB.trans (below_drewN _ _ _)⟩
            case measure => omega
          | succ j =>
            have hj : j < l.length := by omega
            obtain ⟨_, y1⟩ := hR1.at hj
            have hoj := hok _ (el_mem hj)
            have hpj := (hI.out j (by omega)).2.1
            obtain ⟨_, _, p0, p1⟩ := hoj
            have hpb : (el l j).t + 1 ≤ 18446744073709551615 := by omega
            have z2 : decide ((0 : Int) < (j : Int) + 1) = true := decide_eq_true (by omega)
            have q3 : Ok1 l (j + 1) ↔ (el l j).t + 1 < (el l (j + 1)).f := ⟨fun h => h.2.2 (by omega), fun h => ⟨q1, by simpa using q2, fun _ => h⟩⟩
            clear hpj
            by_cases q4 : (el l j).t + 1 < (el l (j + 1)).f
            · have hgo := hgo (q3.2 q4)
              clear q3 hno
              have z3 : decide ((el l (j + 1)).f ≤ (el l j).t) = false := decide_eq_false (by omega)
              have q6 : ((el l (j + 1)).f == (el l j).t + 1) = false := by rw [beq_eq_false_iff_ne]; omega
              generalize (el l (j + 1)).f = f at *
              generalize (el l (j + 1)).t = t at *
              generalize (el l j).t = p at *
              go_wp2_with fail
              go_quiet (fail)
              go_wp2_with fail
              go_roundg (gk - 1)
              case rel => exact ⟨j + 1 + 1, by omega, by go_num, hgo, hB.trans (below_drewN _ _ _)⟩
              case measure => omega
            · obtain rfl := hno (fun h => q4 (q3.1 h))
              clear q3 hgo
              by_cases q5 : (el l (j + 1)).f ≤ (el l j).t
              · have z3 : decide ((el l (j + 1)).f ≤ (el l j).t) = true := decide_eq_true q5
                generalize (el l (j + 1)).f = f at *
                generalize (el l (j + 1)).t = t at *
                generalize (el l j).t = p at *
                go_wp2_with fail
                go_quiet (fail)
                go_wp2_with fail
                go_ret
                exact ⟨rfl, hB.trans (below_drewN _ _ _)⟩
              · have q6 : ((el l (j + 1)).f == (el l j).t + 1) = true := by rw [beq_iff_eq]; omega
                have z3 : decide ((el l (j + 1)).f ≤ (el l j).t) = false := decide_eq_false (by omega)
                clear q4 q5
                generalize (el l (j + 1)).f = f at *
                generalize (el l (j + 1)).t = t at *
                generalize (el l j).t = p at *
                go_wp2_with fail
                go_quiet (fail)
                go_wp2_with fail
                go_ret
                exact ⟨rfl, hB.trans (below_drewN _ _ _)⟩
      · obtain rfl := hno (fun h => q1 h.1)
        have z1 : decide ((el l k).t < (el l k).f) = true := decide_eq_true (by omega)
        clear hgo
        generalize (el l k).f = f at *
        generalize (el l k).t = t at *
        go_wp2_with fail
        go_quiet (fail)
        go_wp2_with fail
        go_ret
        exact ⟨rfl, hB.trans (below_drewN _ _ _)⟩
    · have ek : l.length ≤ k := by omega
      obtain rfl : R = true := by rw [← HR.out, mayS_ok1 hok]; exact fun i hi => hI.out i (by omega)
      go_wp2_with fail
      go_ret
      exact ⟨rfl, hB⟩
end Go.Proofs.Ytlbeincgknmijaa
