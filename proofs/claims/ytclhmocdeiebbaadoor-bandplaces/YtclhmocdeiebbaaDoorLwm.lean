/-
  BandMeets, walked: it tells true of any three bands.
-/
import Derived.Test.YtclhmocdeiebbaaDoorRef
import Derived.Test.YtclhmocdeiebbaaDoorMta
namespace Go.Proofs.YtclhmocdeiebbaaDoor
open Go.RowKit

theorem not_nat (a : Nat) (ha : a < lim) : bits BinOp.xor IntKind.u64 IntKind.u64.max (a : Int) = ((lim - 1 - a : Nat) : Int) := by
  have h1 : (BitVec.ofInt 64 (a : Int)).toNat = a := by
    rw [BitVec.ofInt_natCast, BitVec.toNat_ofNat]; exact Nat.mod_eq_of_lt ha
  have e : BitVec.ofInt 64 IntKind.u64.max ^^^ BitVec.ofInt 64 (a : Int) = ~~~ BitVec.ofInt 64 (a : Int) := by
    rw [show BitVec.ofInt 64 IntKind.u64.max = BitVec.allOnes 64 by decide, BitVec.allOnes_xor]
  show IntKind.u64.wrap ((BitVec.ofInt 64 IntKind.u64.max ^^^ BitVec.ofInt 64 (a : Int)).toNat : Int) = _
  rw [e, BitVec.toNat_not, h1]
  exact wrap_nat _ (by unfold lim; omega)

set_option maxHeartbeats 1000000 in
theorem meets_any (a b o : Nat) (ha : a < lim) (hb : b < lim) (ho : o < lim) (w : World) (hT : Tab w) :
    Calls Tryd.prog 4 #[.int .u64 a, .int .u64 b, .int .u64 o] w fun e w' => e = .returned (.bool true) ∧ Below w.heap.size w w' := by
  have hn := not_nat a ha
  have hc : lim - 1 - a < lim := by unfold lim; omega
  have hm1 := fun w => major_any a o ha ho w
  have hm2 := fun w => major_any b o hb ho w
  have hm3 := fun w => major_any (lim - 1 - a) o hc ho w
  have hmn := fun h => major_not (o := o) (c := lim - 1 - a) (fun i hi => by rw [testBit_not _ _ ha]; cases a.testBit i <;> simp [hi]) ha h
  generalize lim - 1 - a = c at *
  cases e1 : majorS a o
  · rw [e1] at hm1
    go_enter Tryd.func4, Tryd.ntmps4
    go_wp2_with fail
    refine (shown_any w hT).mono ?_
    rintro e w1 ⟨rfl, hB⟩
    go_wp2_with fail
    refine (hm1 _).mono ?_
    rintro e w2 ⟨rfl, hw⟩
    subst hw
    go_wp2_with fail
    refine (hm1 _).mono ?_
    rintro e w2 ⟨rfl, hw⟩
    subst hw
    go_wp2_with fail
    go_ret
    exact ⟨rfl, hB⟩
  · have e3 := hmn e1
    rw [e1] at hm1
    rw [e3] at hm3
    cases e2 : majorS b o
    · rw [e2] at hm2
      go_enter Tryd.func4, Tryd.ntmps4
      go_wp2_with fail
      refine (shown_any w hT).mono ?_
      rintro e w1 ⟨rfl, hB⟩
      go_wp2_with fail
      refine (hm1 _).mono ?_
      rintro e w2 ⟨rfl, hw⟩
      subst hw
      go_wp2_with fail
      refine (hm2 _).mono ?_
      rintro e w2 ⟨rfl, hw⟩
      subst hw
      go_wp2_with fail
      refine (hm1 _).mono ?_
      rintro e w2 ⟨rfl, hw⟩
      subst hw
      go_wp2_with fail
      refine (hm3 _).mono ?_
      rintro e w2 ⟨rfl, hw⟩
      subst hw
      go_wp2_with fail
      go_ret
      exact ⟨rfl, hB⟩
    · rw [e2] at hm2
      have hne := major_meet e1 e2
      have hb1 := fun w => both_any a b ha hb w
      have hb2 := fun w => both_any (a &&& b) o (and_lt ha) ho w
      have hq : (((a &&& b &&& o : Nat) : Int) != 0) = true := by simp; omega
      generalize a &&& b &&& o = d at *
      generalize a &&& b = c2 at *
      go_enter Tryd.func4, Tryd.ntmps4
      go_wp2_with fail
      refine (shown_any w hT).mono ?_
      rintro e w1 ⟨rfl, hB⟩
      go_wp2_with fail
      refine (hm1 _).mono ?_
      rintro e w2 ⟨rfl, hw⟩
      subst hw
      go_wp2_with fail
      refine (hm2 _).mono ?_
      rintro e w2 ⟨rfl, hw⟩
      subst hw
      go_wp2_with fail
      refine (hb1 _).mono ?_
      rintro e w2 ⟨rfl, hw⟩
      subst hw
      go_wp2_with fail
      refine (hb2 _).mono ?_
      rintro e w2 ⟨rfl, hw⟩
      subst hw
      go_wp2_with fail
      go_ret
      exact ⟨rfl, hB⟩

end Go.Proofs.YtclhmocdeiebbaaDoor
