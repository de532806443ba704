/-
  each, with any closure.
-/
import Derived.Test.YtlbeincgknmijaaSat
namespace Go.Proofs.Ytlbeincgknmijaa
open Go.RowKit

set_option maxRecDepth 100000 in
set_option maxHeartbeats 4000000 in
theorem each_any (p : Nat) (low : Int) (fc : FuncId) (caps : Array Value) (I : Nat → World → Prop) (Q : World → Prop) (w : World) (l0 : 0 ≤ low) (l1 : low ≤ 1000000)
    (hF : ∀ args w', (callFunc fc args).run Try.prog w' = .ok (.enter fc args) w')
    (hI : ∀ (i : Nat) w, i < 64 → I i w → ∃ R, Sf p low R w ∧ (hasR low R (low + 1 + i) = true → Calls Try.prog fc (#[.int .u64 (low + 1 + i)] ++ caps) w fun e w' => (e = .returned (.bool true) ∧ I (i + 1) w') ∨ (e = .returned (.bool false) ∧ Q w')) ∧ (hasR low R (low + 1 + i) = false → I (i + 1) w))
    (hQ : ∀ w, I 64 w → Q w) (h0 : I 0 w) :
    Calls Try.prog 37 #[.pointer (some ⟨p, 0, none⟩), .func (.func fc) #[] caps] w fun e w' => e = .returned (.tuple #[]) ∧ Q w' := by
  go_enter Try.func37, Try.ntmps37
  go_wp2_with fail
  go_loopg [6] 64 (fun gk t6 wr => ∃ i : Nat, i + gk = 64 ∧ t6 = .int .u64 i ∧ I i wr)
  case atStart => exact ⟨0, rfl, rfl, h0⟩
  case round =>
    obtain ⟨i, hi, rfl, hIi⟩ := hrel
    by_cases hlt : (i : Int) < 64
    · have i0 : (0 : Int) ≤ i := by omega
      obtain ⟨R, hS, hyes, hno⟩ := hI i wr (by omega) hIi
      have hl := hS.clow
      have hh := shas_any p low R (low + 1 + i) (by omega) wr hS
      cases hz : hasR low R (low + 1 + i)
      case false =>
        rw [hz] at hh
        have hn := hno hz
        clear hI hyes hno hz
        go_wp2_with (go_at_call 43; refine hh.mono ?_; rintro e w1 ⟨rfl, rfl⟩)
        go_roundg (gk - 1)
        case rel => exact ⟨i + 1, by omega, by go_num, hn⟩
        case measure => omega
      case true =>
        rw [hz] at hh
        have hy := hyes hz
        clear hI hyes hno hz
        go_wp2_with (go_at_call 43; refine hh.mono ?_; rintro e w1 ⟨rfl, rfl⟩)
        refine hy.mono ?_
        rintro e w2 (⟨rfl, hn⟩ | ⟨rfl, hq⟩)
        · go_wp2_with fail
          go_roundg (gk - 1)
          case rel => exact ⟨i + 1, by omega, by go_num, hn⟩
          case measure => omega
        · go_wp2_with fail
          refine bodyPost_ret (results_none rfl _ _ _) rfl ?_
          exact ⟨rfl, hq⟩
    · obtain rfl : i = 64 := by omega
      go_wp2_with fail
      go_end0
      exact ⟨rfl, hQ _ hIi⟩
end Go.Proofs.Ytlbeincgknmijaa
