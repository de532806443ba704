/-
  BandHalf, walked: it tells true of any band.
-/
import Derived.Test.YtclhmocdeiebbaaDoorRef
import Derived.Test.YtclhmocdeiebbaaDoorMta
namespace Go.Proofs.YtclhmocdeiebbaaDoor
open Go.RowKit

set_option maxRecDepth 100000 in
set_option maxHeartbeats 2000000 in
theorem half_any (o : Nat) (ho : o < lim) (w : World) (hT : Tab w) :
    Calls Tryd.prog 8 #[.int .u64 o] w fun e w' => e = .returned (.bool true) ∧ Below w.heap.size w w' := by
  have h0 := hT.lt
  have hlen : (lst o).length ≤ 64 := by rw [lst_length]; exact many_le o
  obtain ⟨k, hk1, hk2⟩ : ∃ k : Nat, 2 * k ≤ (lst o).length ∧ (lst o).length < 2 * k + 2 := ⟨(lst o).length / 2, by omega, by omega⟩
  have hm1 := fun w => major_any (ofS ((lst o).take k)) o (ofS_lt _) ho w
  rw [major_take _ _ (by omega), decide_eq_false (by omega)] at hm1
  have hm2 : 0 < (lst o).length → ∀ w, Calls Tryd.prog 28 #[.int .u64 (ofS ((lst o).take (k + 1))), .int .u64 o] w fun e w' => e = .returned (.bool true) ∧ w' = w := by
    intro h w
    have := major_any (ofS ((lst o).take (k + 1))) o (ofS_lt _) ho w
    rwa [major_take _ _ (by omega), decide_eq_true (by omega)] at this
  have hm3 := fun w => major_any o o ho ho w
  rw [major_self] at hm3
  go_enter Tryd.func8, Tryd.ntmps8
  go_wp2_with fail
  refine (rlist_any o ho w).mono ?_
  rintro e w1 ⟨v, rfl, hR, hB⟩
  obtain ⟨a, cap, rfl, hl⟩ := hR
  generalize lst o = l at *
  have hq : (l.length : Int) / 2 = (k : Int) := by omega
  have T1 := hT.below h0 hB
  go_wp2_with fail
  go_loopg [4, 5] k (fun gk t4 t5 wr => ∃ i : Nat, i + gk = k ∧ t5 = .int .i64 i ∧ t4 = .int .u64 (ofS (l.take i)) ∧ wr = w1)
  case atStart => exact ⟨0, by omega, rfl, by rw [List.take_zero]; rfl, rfl⟩
  case round =>
    obtain ⟨i, hi, rfl, rfl, rfl⟩ := hrel
    have hlt' := ofS_lt (l.take i)
    by_cases hlt : (i : Int) < (k : Int)
    · have hil : i < l.length := by omega
      have hs := ofS_take hil
      rcases hl with hl | ⟨g, of, rfl, hl⟩
      · omega
      have c := hl i hil
      clear hl hm1 hm2 hm3
      generalize l[i] = x at c hs
      have hw := rwith_any (ofS (l.take i)) hlt' x wr
      rw [← hs] at hw
      clear hs
      generalize ofS (l.take i) = c0 at *
      generalize hc1 : ofS (l.take (i + 1)) = c1 at *
      go_wp2_with fail
      refine hw.mono ?_
      rintro e w2 ⟨rfl, hw2⟩
      subst hw2
      go_wp2_with fail
      go_roundg (gk - 1)
      case rel => exact ⟨i + 1, by omega, by go_num, by rw [hc1], rfl⟩
      case measure => omega
    · obtain rfl : i = k := by omega
      rcases Nat.eq_zero_or_pos l.length with hz | hp
      · rw [hz] at hm3
        have hm3 : ∀ w, Calls Tryd.prog 28 #[.int .u64 o, .int .u64 o] w fun e w' => e = .returned (.bool false) ∧ w' = w := hm3
        have hzi : (l.length : Int) = 0 := by omega
        clear hm2 hl
        generalize ofS (l.take i) = c0 at *
        go_wp2_with fail
        refine (hm1 _).mono ?_
        rintro e w2 ⟨rfl, hw2⟩
        subst hw2
        go_wp2_with fail
        refine (hm1 _).mono ?_
        rintro e w2 ⟨rfl, hw2⟩
        subst hw2
        go_wp2_with fail
        refine (hm3 _).mono ?_
        rintro e w2 ⟨rfl, hw2⟩
        subst hw2
        go_wp2_with fail
        refine (shown_any _ T1).mono ?_
        rintro e w3 ⟨rfl, hB3⟩
        go_wp2_with fail
        go_ret
        exact ⟨rfl, hB.trans (hB3.mono hB.size)⟩
      · rw [decide_eq_true hp] at hm3
        have hm2 := hm2 hp
        have hil : i < l.length := by omega
        have hs := ofS_take hil
        rcases hl with hl | ⟨g, of, rfl, hl⟩
        · omega
        have c := hl i hil
        clear hl
        generalize l[i] = x at c hs
        have hw := rwith_any (ofS (l.take i)) hlt' x wr
        rw [← hs] at hw
        clear hs
        generalize ofS (l.take i) = c0 at *
        generalize ofS (l.take (i + 1)) = c1 at *
        have hpi : (0 : Int) < (l.length : Int) := by omega
        have hlti : (i : Int) < (l.length : Int) := by omega
        go_wp2_with fail
        refine hw.mono ?_
        rintro e w2 ⟨rfl, hw2⟩
        subst hw2
        go_wp2_with fail
        refine (hm1 _).mono ?_
        rintro e w2 ⟨rfl, hw2⟩
        subst hw2
        go_wp2_with fail
        refine (hm2 _).mono ?_
        rintro e w2 ⟨rfl, hw2⟩
        subst hw2
        go_wp2_with fail
        refine (hm3 _).mono ?_
        rintro e w2 ⟨rfl, hw2⟩
        subst hw2
        go_wp2_with fail
        refine (shown_any _ T1).mono ?_
        rintro e w3 ⟨rfl, hB3⟩
        go_wp2_with fail
        go_ret
        exact ⟨rfl, hB.trans (hB3.mono hB.size)⟩

end Go.Proofs.YtclhmocdeiebbaaDoor
