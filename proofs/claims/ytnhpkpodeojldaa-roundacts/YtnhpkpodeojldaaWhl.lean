/-
  RoundHelps: who helps, walked.
-/
import Derived.Test.YtnhpkpodeojldaaRsh
import Derived.Test.YtnhpkpodeojldaaRmt
import Derived.Test.YtnhpkpodeojldaaLop
namespace Go.Proofs.Ytnhpkpodeojldaa
open Go.RowKit

theorem Rd.len {k : IntKind} {a : Option Addr} {len cap : Nat} {l : List Int} {w : World} (h : Rd k (.slice a len cap) l w) : len = l.length := by
  obtain ⟨a', cap', e, _⟩ := h
  cases e; rfl

set_option maxRecDepth 100000 in
set_option maxHeartbeats 1000000 in
theorem helps_walk (o : Int) (no n : Int) (a : Option Addr) (len cap : Nat) (l : List Int) (ho : (Lit.int .u64 o).wf = true) (hno : (Lit.int .u8 no).wf = true) (hn : (Lit.int .u8 n).wf = true) (w : World) (hl : Lots w a len cap l) :
    Calls Try.prog 5 #[.int .u64 o, .int .u8 no, .int .u8 n, .slice a len cap] w fun e w' => e = .returned (.bool true) ∧ Below w.heap.size w w' := by
  replace ho := bounds_u64 ho
  replace hno := bounds_u8 hno
  replace hn := bounds_u8 hn
  obtain ⟨hR, hok⟩ := hl
  obtain rfl := hR.len
  obtain ⟨b, rfl⟩ : ∃ b : Nat, o = b := ⟨o.toNat, by omega⟩
  have hb : b < lim := by unfold lim; omega
  by_cases hlen : (500 : Int) < l.length
  · go_enter Try.func5, Try.ntmps5
    go_wp2_with fail
    refine (shown_any w).mono ?_
    rintro e w1 ⟨rfl, hb1⟩
    go_wp2_with fail
    go_ret
    exact ⟨rfl, hb1⟩
  · have hx : nodeS (no % 64) = true := (nodeS_iff _).2 ⟨by omega, by omega⟩
    have hm : 0 ≤ n % 70 := by omega
    have hm2 : n % 70 < 9223372036854775808 := by omega
    have t1 : no.tmod 64 = no % 64 := Int.tmod_eq_emod_of_nonneg hno.1
    have t2 : n.tmod 70 = n % 70 := Int.tmod_eq_emod_of_nonneg hn.1
    have hol : (lst b).length ≤ 1000000 := by rw [lst_length]; have := many_le b; omega
    have f1 := help_length b hx hm l
    have f2 := help_many b hx hm l
    have f3 := help_both b hx hm l
    have f4 : (helpS (lst b) (no % 64) (n % 70) l).1.length ≤ 1000000 := by
      rw [help_take b hx hm, List.length_take, shufS_length, lst_length]
      have := many_le (lessS b (no % 64)); omega
    have hl2 : (l.length : Int) ≤ 500 := by omega
    have hless := fun w' => rless_any b hb (no % 64) w'
    have hmany := fun w' => rmany_any (lessS b (no % 64)) (lessS_lt hb _) w'
    have hof := fun v w' hR' => rof_any v (helpS (lst b) (no % 64) (n % 70) l).1 w' f4 hR'
    have hmany2 := fun w' => rmany_any (ofS (helpS (lst b) (no % 64) (n % 70) l).1) (ofS_lt _) w'
    have hboth := fun w' => both_any (ofS (helpS (lst b) (no % 64) (n % 70) l).1) (lessS b (no % 64)) (ofS_lt _) (lessS_lt hb _) w'
    rw [f2] at hmany2
    rw [f3] at hboth
    have hhelp := fun p Bp v w' hv hL => help_any Bp p v (lst b) l (no % 64) (n % 70) w' hol hm2 hv hL hok
    generalize (helpS (lst b) (no % 64) (n % 70) l).2 = l' at *
    generalize (helpS (lst b) (no % 64) (n % 70) l).1 = H at *
    have hz : 0 ≤ (ofS H : Int) ∧ (ofS H : Int) < 18446744073709551616 := by have := ofS_lt H; unfold lim at this; omega
    generalize ofS H = O at *
    generalize lessS b (no % 64) = L at *
    generalize manyS L = M at *
    generalize no % 64 = x at *
    generalize n % 70 = m at *
    clear f2 f3
    go_enter Try.func5, Try.ntmps5
    go_wp2_with fail
    refine (shown_any w).mono ?_
    rintro e w1 ⟨rfl, hb1⟩
    have hR1 := hR.below hb1
    go_wp2_with fail
    refine (rlist_any b hb w1).mono ?_
    rintro e w2 ⟨v2, rfl, ho2, hb2⟩
    have hR2 := hR1.below hb2
    go_wp2_with fail
    refine (new_any _ l w2 (by omega) hR2).mono ?_
    rintro e w3 ⟨⟨p, rfl, hL3⟩, hb3⟩
    go_wp2_with fail
    refine (hhelp p _ v2 w3 ((Rd.of ho2).below hb3) hL3).mono ?_
    rintro e w4 ⟨⟨v4, rfl, hR4, hg4⟩, hL4, hB4⟩
    have e3 : Below w.heap.size w w3 := (hb1.trans (hb2.mono hb1.size)).trans (hb3.mono (Nat.le_trans hb1.size hb2.size))
    have e4 : Below w.heap.size w w4 := e3.trans (hB4.belowAt (by have := hL3.le; have := hb1.size; have := hb2.size; omega) e3.size)
    obtain ⟨a4, cap4, e', _⟩ := id hR4
    subst e'
    go_wp2_with fail
    refine (hof _ w4 hR4).mono ?_
    rintro e w5 ⟨rfl, hw5⟩
    subst hw5
    go_wp2_with fail
    refine (hless _).mono ?_
    rintro e w5 ⟨rfl, hw5⟩
    subst hw5
    go_wp2_with fail
    refine (hmany _).mono ?_
    rintro e w6 ⟨rfl, hb6⟩
    have e6 := e4.trans (hb6.mono e4.size)
    have hcase : (m ≤ M ∧ (H.length : Int) = m) ∨ (M < m ∧ (H.length : Int) = M) := by omega
    clear f1
    rcases hcase with ⟨h1, h2⟩ | ⟨h1, h2⟩
    all_goals
      go_wp2_with fail
      refine (hmany2 _).mono ?_
      rintro e w7 ⟨rfl, hb7⟩
      have e7 := e6.trans (hb7.mono e6.size)
      go_wp2_with fail
      refine (hboth _).mono ?_
      rintro e w8 ⟨rfl, hw8⟩
      subst hw8
      go_wp2_with fail
      go_ret
      exact ⟨rfl, e7⟩
end Go.Proofs.Ytnhpkpodeojldaa
