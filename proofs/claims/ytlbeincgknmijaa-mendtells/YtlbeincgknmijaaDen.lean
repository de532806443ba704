/-
  The ends of a list; the closures of Join and Minus.
-/
import Derived.Test.YtlbeincgknmijaaDma
namespace Go.Proofs.Ytlbeincgknmijaa
open Go.RowKit

set_option maxRecDepth 100000 in
set_option maxHeartbeats 1000000 in
theorem end_none (v : Value) (l : List Sn) (i : Nat) (w : World) (hR : Rs v l w) (hl : l.length ≤ 1000000) (hi : 2 * l.length ≤ i) (hi2 : i ≤ 2000000) :
    Calls Try.prog 59 #[v, .int .i64 i] w fun e w' => e = .returned (.tuple #[.int .u64 0, .bool false]) ∧ w' = w := by
  obtain ⟨⟨a, cap, rfl, h1, h2, h3⟩, hok⟩ := id hR
  have hlen : (l.length : Int) ≤ 1000000 := by omega
  have h0 : (i : Int) ≤ 2000000 := by omega
  have z1 : decide (2 * (l.length : Int) ≤ (i : Int)) = true := decide_eq_true (by omega)
  go_enter Try.func59, Try.ntmps59
  go_wp2_with fail
  go_ret2
  exact ⟨rfl, rfl⟩

set_option maxRecDepth 100000 in
set_option maxHeartbeats 1000000 in
theorem end_some (v : Value) (l : List Sn) (i : Nat) (w : World) (hR : Rs v l w) (hl : l.length ≤ 1000000) (hm : Up 0 l) (hi : i < 2 * l.length) :
    Calls Try.prog 59 #[v, .int .i64 i] w fun e w' => e = .returned (.tuple #[.int .u64 (E l i), .bool true]) ∧ w' = w := by
  obtain ⟨⟨a, cap, rfl, h1, h2, h3⟩, hok⟩ := id hR
  have hlen : (l.length : Int) ≤ 1000000 := by omega
  have h0 : (i : Int) ≤ 2000000 := by omega
  have z0 : (0 : Int) ≤ i := by omega
  have z1 : decide (2 * (l.length : Int) ≤ (i : Int)) = false := decide_eq_false (by omega)
  rcases h3 with h3 | ⟨g, off, rfl, h3⟩
  · omega
  have hEb := E_bound hm hi
  have hb := hm.at (m := i / 2) (by omega)
  rcases Nat.mod_two_eq_zero_or_one i with hp | hp
  · obtain ⟨m, rfl⟩ : ∃ m, i = 2 * m := ⟨i / 2, by omega⟩
    obtain ⟨c0, c1⟩ := hR.at (show m < l.length by omega)
    rw [E_even]
    have y0 : (0 : Int) ≤ m := by omega
    have y1 : (m : Int) < l.length := by omega
    have y2 : (2 * (m : Int)).tmod 2 = 0 := by rw [Int.tmod_eq_emod_of_nonneg (by omega)]; omega
    have y3 : (2 * (m : Int)).tdiv 2 = m := by rw [Int.tdiv_eq_ediv_of_nonneg (by omega)]; omega
    have y4 : (2 * (m : Int)) % 2 = 0 := by omega
    have y5 : (2 * (m : Int)) / 2 = m := by omega
    clear h3 hb hEb hi hp
    push_cast at z1
    go_enter Try.func59, Try.ntmps59
    go_wp2_with fail
    go_ret2
    exact ⟨rfl, rfl⟩
  · obtain ⟨m, rfl⟩ : ∃ m, i = 2 * m + 1 := ⟨i / 2, by omega⟩
    obtain ⟨c0, c1⟩ := hR.at (show m < l.length by omega)
    rw [E_odd] at hEb ⊢
    have y0 : (0 : Int) ≤ m := by omega
    have y1 : (m : Int) < l.length := by omega
    have y2 : (2 * (m : Int) + 1).tmod 2 = 1 := by rw [Int.tmod_eq_emod_of_nonneg (by omega)]; omega
    have y3 : (2 * (m : Int) + 1).tdiv 2 = m := by rw [Int.tdiv_eq_ediv_of_nonneg (by omega)]; omega
    have y4 : (2 * (m : Int) + 1) % 2 = 1 := by omega
    have y5 : (2 * (m : Int) + 1) / 2 = m := by omega
    clear h3 hb hi hp
    push_cast at z1
    go_enter Try.func59, Try.ntmps59
    go_wp2_with fail
    go_ret2
    exact ⟨rfl, rfl⟩

theorem orc_any (x y : Bool) (w : World) : Calls Try.prog 62 #[.bool x, .bool y] w fun e w' => e = .returned (.bool (orB x y)) ∧ w' = w := by
  cases x <;> cases y <;> (go_enter Try.func62, Try.ntmps62; go_wp2_with fail; go_ret; exact ⟨rfl, rfl⟩)
theorem butc_any (x y : Bool) (w : World) : Calls Try.prog 50 #[.bool x, .bool y] w fun e w' => e = .returned (.bool (butB x y)) ∧ w' = w := by
  cases x <;> cases y <;> (go_enter Try.func50, Try.ntmps50; go_wp2_with fail; go_ret; exact ⟨rfl, rfl⟩)
end Go.Proofs.Ytlbeincgknmijaa
