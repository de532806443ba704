/-
  Many and Reach, of the code and of the reference.
-/
import Derived.Test.YtlbeincgknmijaaDma
namespace Go.Proofs.Ytlbeincgknmijaa
open Go.RowKit

def manyM (l : List Sn) : Int := if mayS l then manyS l else 0
def reachM (l : List Sn) (n : Int) : Int := if mayS l then reachS l n else 0

theorem many_step {l : List Sn} (hm : Up 0 l) {k : Nat} (hk : k < l.length) :
    manyS (l.take (k + 1)) = manyS (l.take k) + ((el l k).t - (el l k).f + 1) ∧ 0 ≤ manyS (l.take k) ∧ manyS (l.take k) + ((el l k).t - (el l k).f + 1) ≤ 18446744073709551615 := by
  have h := manyS_take_succ hk
  have h0 := (hm.take k).many0
  have h1 := (hm.take (k + 1)).many1
  have h2 := hm.at hk
  exact ⟨h, h0, by omega⟩

theorem reach_step {l : List Sn} {k : Nat} {n : Int} (hk : k < l.length) : reachS (l.drop k) n = if n < (el l k).t ∧ (el l k).f ≤ n + 1 then (el l k).t else reachS (l.drop (k + 1)) n := by
  rw [drop_el hk]; rfl

set_option maxRecDepth 100000 in
set_option maxHeartbeats 1000000 in
theorem freach_any (v : Value) (l : List Sn) (n : Int) (w : World) (hR : Rs v l w) (hl : l.length ≤ 1000000) (n0 : 0 ≤ n) (n1 : n ≤ 18446744073709551615) :
    Calls Try.prog 58 #[v, .int .u64 n] w fun e w' => e = .returned (.int .u64 (reachM l n)) ∧ Below w.heap.size w w' := by
  obtain ⟨⟨a, cap, rfl, h1, h2, h3⟩, hok⟩ := id hR
  have hlen : (l.length : Int) ≤ 1000000 := by omega
  unfold reachM
  cases hm : mayS l
  case false =>
    go_enter Try.func58, Try.ntmps58
    go_wp2_with fail
    refine (fmay_any _ l _ hR hl).mono ?_
    rw [hm]
    rintro e w2 ⟨rfl, hb⟩
    go_wp2_with fail
    go_ret
    exact ⟨rfl, hb⟩
  case true =>
    have hu := (mayS_iff l).1 hm
    obtain ⟨R, HR⟩ : ∃ R, Hid (reachS l n = R) := ⟨_, rfl⟩
    rw [if_pos rfl, HR.out]
    go_enter Try.func58, Try.ntmps58
    go_wp2_with fail
    refine (fmay_any _ l _ hR hl).mono ?_
    rw [hm]
    rintro e w2 ⟨rfl, hb2⟩
    clear hm
    go_wp2_with fail
    go_loopg [5] l.length (fun gk t12 wr => ∃ k : Nat, k + gk = l.length ∧ t12 = .int .i64 k ∧ Hid (reachS (l.drop k) n = R) ∧ Below w.heap.size w wr)
    case atStart => exact ⟨0, by omega, rfl, HR, hb2⟩
    case round =>
      obtain ⟨k, hk, rfl, hI, hB⟩ := hrel
      by_cases hlt : (k : Int) < l.length
      · have hk' : k < l.length := by omega
        have k0 : (0 : Int) ≤ k := by omega
        rcases h3 with h3 | ⟨g, off, rfl, h3⟩
        · omega
        obtain ⟨c0, c1⟩ := (hR.below hB).at hk'
        obtain ⟨v1, v2, v3⟩ := hu.at hk'
        have s1 := hI.out
        rw [reach_step hk'] at s1
        clear h3 hb2 hI
        by_cases q0 : n < 18446744073709551615
        · have z0 : decide (n < 18446744073709551615) = true := decide_eq_true q0
          by_cases q2 : (el l k).f ≤ n + 1
          · have z2 : decide ((el l k).f ≤ n + 1) = true := decide_eq_true q2
            by_cases q1 : n < (el l k).t
            · have z1 : decide (n + 1 ≤ (el l k).t) = true := decide_eq_true (by omega)
              rw [if_pos ⟨q1, q2⟩] at s1
              generalize (el l k).f = f at *
              generalize (el l k).t = t at *
              subst s1
              go_wp2_with fail
              go_ret
              exact ⟨rfl, hB⟩
            · have z1 : decide (n + 1 ≤ (el l k).t) = false := decide_eq_false (by omega)
              rw [if_neg (fun h => q1 h.1)] at s1
              have s1 : Hid (reachS (l.drop (k + 1)) n = R) := s1
              generalize (el l k).f = f at *
              generalize (el l k).t = t at *
              go_wp2_with fail
              go_roundg (gk - 1)
              case rel => exact ⟨k + 1, by omega, by go_num, s1, hB⟩
              case measure => omega
          · have z2 : decide ((el l k).f ≤ n + 1) = false := decide_eq_false q2
            rw [if_neg (fun h => q2 h.2)] at s1
            have s1 : Hid (reachS (l.drop (k + 1)) n = R) := s1
            generalize (el l k).f = f at *
            generalize (el l k).t = t at *
            go_wp2_with fail
            go_roundg (gk - 1)
            case rel => exact ⟨k + 1, by omega, by go_num, s1, hB⟩
            case measure => omega
        · have z0 : decide (n < 18446744073709551615) = false := decide_eq_false q0
          rw [if_neg (fun h => by omega)] at s1
          have s1 : Hid (reachS (l.drop (k + 1)) n = R) := s1
          generalize (el l k).f = f at *
          generalize (el l k).t = t at *
          go_wp2_with fail
          go_roundg (gk - 1)
          case rel => exact ⟨k + 1, by omega, by go_num, s1, hB⟩
          case measure => omega
      · have ek : l.length ≤ k := by omega
        have hI' := hI.out
        rw [List.drop_eq_nil_of_le ek] at hI'
        have hI' : n = R := hI'
        subst hI'
        clear hI
        go_wp2_with fail
        go_ret
        exact ⟨rfl, hB⟩
end Go.Proofs.Ytlbeincgknmijaa
