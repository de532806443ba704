/-
  What is wanted, and what is given: mathematics; wanted, walked.
-/
import Derived.Test.YtlbeincgknmijaaNmb
import Derived.Test.YtlbeincgknmijaaLck
import Derived.Test.YtlbeincgknmijaaCpl
namespace Go.Proofs.Ytlbeincgknmijaa
open Go.RowKit

/-- Of want's numbers those that are there. -/
def wantS (low : Int) (R : Rng) (l : List Sn) : List Sn := minusS l (minusS l (minusS (haveR low R) [⟨0, low⟩]))
theorem up_low {low : Int} (l0 : 0 ≤ low) (l1 : low ≤ 1000000) : Up 0 [⟨0, low⟩] := ⟨by simp, l0, by show low < _; omega, trivial⟩
theorem wantS_up {low : Int} {R : Rng} (l0 : 0 ≤ low) (l1 : low ≤ 1000000) (l : List Sn) : Up 0 (wantS low R l) := by
  cases h : mayS l
  · unfold wantS minusS
    rw [h]
    simp only [Bool.false_and, Bool.false_eq_true, if_false]
    trivial
  · have hu := (mayS_iff l).1 h
    exact minusS_up hu (minusS_up hu (minusS_up (haveR_up l0 l1) (up_low l0 l1)))
theorem wantS_has {low : Int} {R : Rng} (hI : RI low R) (l0 : 0 ≤ low) (l1 : low ≤ 1000000) (l : List Sn) (n : Int) : hasS (wantS low R l) n = (hasM l n && hasR low R n) := by
  unfold hasM
  cases h : mayS l
  · unfold wantS minusS
    rw [h]
    simp only [Bool.false_and, Bool.false_eq_true, if_false]
    rfl
  · have hu := (mayS_iff l).1 h
    unfold wantS
    rw [minusS_has hu (minusS_up hu (minusS_up (haveR_up l0 l1) (up_low l0 l1))), minusS_has hu (minusS_up (haveR_up l0 l1) (up_low l0 l1)), minusS_has (haveR_up l0 l1) (up_low l0 l1), haveR_has hI l0 l1]
    have e : hasS [⟨0, low⟩] n = (decide (0 ≤ n) && decide (n ≤ low)) := by simp [hasS]
    rw [e, Bool.true_and]
    cases hn : hasR low R n
    · by_cases h1 : 1 ≤ n ∧ n ≤ low
      · rw [decide_eq_true h1, decide_eq_true (show 0 ≤ n by omega), decide_eq_true h1.2]
        cases hasS l n <;> rfl
      · rw [decide_eq_false h1]
        cases hasS l n <;> rfl
    · have h2 := hI.has l0 hn
      rw [decide_eq_false (show ¬ n ≤ low by omega)]
      cases hasS l n <;> cases decide (0 ≤ n) <;> cases decide (1 ≤ n ∧ n ≤ low) <;> rfl
theorem wantS_len (low : Int) (R : Rng) (l0 : 0 ≤ low) (l1 : low ≤ 1000000) (l : List Sn) : (wantS low R l).length ≤ l.length + (l.length + 66) := by
  unfold wantS
  have h1 := minusM_le l (minusS l (minusS (haveR low R) [⟨0, low⟩]))
  have h2 := minusM_le l (minusS (haveR low R) [⟨0, low⟩])
  have h3 := minusM_le (haveR low R) [⟨0, low⟩]
  have h4 := haveR_len (R := R) l0 l1
  simp only [List.length_cons, List.length_nil] at h3
  omega

/-- The message of number n, with it. -/
def pkS (R : Rng) (n : Int) : Pl := ⟨n, (R (n % 64).toNat).g⟩
def giveS (low : Int) (R : Rng) (l : List Sn) (most : Int) : List Pl := ((numS (wantS low R l)).take most.toNat).map (pkS R)
theorem take_all {most : Int} {l : List Int} (h : (l.length : Int) ≤ most) : l.take most.toNat = l := List.take_of_length_le (by omega)
theorem take_pre {most : Int} {p l : List Int} (h : p <+: l) (e : p.length = most.toNat) : l.take most.toNat = p := by
  obtain ⟨r, rfl⟩ := h
  rw [← e, List.take_left]
theorem get_has {low : Int} {R : Rng} (hI : RI low R) (l0 : 0 ≤ low) {n : Int} (h : hasR low R n = true) : getE low (hasR low R n) n = 0 ∧ getM low R n = (R (n % 64).toNat).g := by
  have h1 := (hI.has l0 h).1
  have e : getE low (hasR low R n) n = 0 := by unfold getE; rw [if_neg (by omega), h, if_pos rfl]
  exact ⟨e, by unfold getM; rw [if_pos e]⟩
/-- At most as many numbers as there are places. -/
theorem numS_few {low : Int} {l : List Int} (hs : l.Pairwise (· < ·)) (h : ∀ x ∈ l, low < x ∧ x ≤ low + 64) : l.length ≤ 64 := by
  have key : ∀ (l : List Int) (a : Int), l.Pairwise (· < ·) → (∀ x ∈ l, a < x ∧ x ≤ low + 64) → (l.length : Int) ≤ max 0 (low + 64 - a) := by
    intro l
    induction l with
    | nil => intro a _ _; simp; omega
    | cons x l ih =>
      intro a hp hx
      have hp' := List.pairwise_cons.1 hp
      have h1 := hx x List.mem_cons_self
      have h2 := ih x hp'.2 fun y hy => ⟨hp'.1 y hy, (hx y (List.mem_cons_of_mem _ hy)).2⟩
      simp only [List.length_cons]
      omega
  have := key l low hs h
  omega
theorem want_few {low : Int} {R : Rng} (hI : RI low R) (l0 : 0 ≤ low) (l1 : low ≤ 1000000) (l : List Sn) : (numS (wantS low R l)).length ≤ 64 :=
  numS_few (numS_sorted (wantS_up l0 l1 l)) fun x hx => by
    have := mem_numS.1 hx
    rw [wantS_has hI l0 l1, Bool.and_eq_true] at this
    exact hI.has l0 this.2

set_option maxRecDepth 100000 in
set_option maxHeartbeats 1000000 in
theorem wanted_any (p : Nat) (low : Int) (R : Rng) (l0 : 0 ≤ low) (l1 : low ≤ 1000000) (v : Value) (l : List Sn) (w : World) (hS : Sf p low R w) (hR : Rs v l w) (hl : l.length ≤ 10000) :
    Calls Try.prog 35 #[.pointer (some ⟨p, 0, none⟩), v] w fun e w' => (∃ v', e = .returned v' ∧ Ow w.heap.size v' (wantS low R l) w') ∧ Below w.heap.size w w' := by
  have h3 := minusM_le (haveR low R) [⟨0, low⟩]
  have h4 := haveR_len (R := R) l0 l1
  have h2 := minusM_le l (minusS (haveR low R) [⟨0, low⟩])
  simp only [List.length_cons, List.length_nil] at h3
  have ok3 := minusM_ok (haveR low R) [⟨0, low⟩]
  have ok2 := minusM_ok l (minusS (haveR low R) [⟨0, low⟩])
  have hH := shave_any p low R l0 l1 w hS
  have oklow : SnOk ⟨0, low⟩ := ⟨by simp, by simp, l0, by show low ≤ _; omega⟩
  unfold wantS
  generalize haveR low R = H at *
  obtain ⟨G, HG⟩ : ∃ G, Hid (minusS H [⟨0, low⟩] = G) := ⟨_, rfl⟩
  rw [HG.out] at h3 ok3 h2 ok2 ⊢
  obtain ⟨K, HK⟩ : ∃ K, Hid (minusS l G = K) := ⟨_, rfl⟩
  rw [HK.out] at h2 ok2 ⊢
  go_enter Try.func35, Try.ntmps35
  go_wp2_with fail
  refine hH.mono ?_
  rintro e w1 ⟨⟨v1, rfl, hR1⟩, hb1⟩
  clear hH
  go_wp2_with fail
  refine (slow_any p low R _ (hS.below hb1)).mono ?_
  rintro e w2 ⟨rfl, rfl⟩
  have b2 := below_alloc w2 (.cells #[.int .u64 0, .int .u64 low] 51)
  have hU := Rs.one (Bx.new 51 0 low w2) oklow
  have hR1 := hR1.below b2
  have hB2 := hb1.trans (b2.mono hb1.size)
  clear b2
  go_wp2_with fail
  refine (minus_any _ _ H _ _ hR1 hU (by omega) (by simp)).mono ?_
  rintro e w3 ⟨⟨v3, rfl, hO3⟩, hb3⟩
  have hB3 := hB2.trans (hb3.mono hB2.size)
  rw [HG.out] at hO3
  have hR3 := hO3.rs ok3
  clear hU hR1 hB2 hO3 hb3
  go_wp2_with fail
  refine (minus_any _ _ l G _ (hR.below hB3) hR3 (by omega) (by omega)).mono ?_
  rintro e w4 ⟨⟨v4, rfl, hO4⟩, hb4⟩
  have hB4 := hB3.trans (hb4.mono hB3.size)
  rw [HK.out] at hO4
  have hR4 := hO4.rs ok2
  clear hO4 hb4 hR3
  go_wp2_with fail
  refine (minus_any _ _ l K _ (hR.below hB4) hR4 (by omega) (by omega)).mono ?_
  rintro e w5 ⟨⟨v5, rfl, hO5⟩, hb5⟩
  go_wp2_with fail
  go_ret
  exact ⟨⟨v5, rfl, hO5.mono hB4.size⟩, hB4.trans (hb5.mono hB4.size)⟩
end Go.Proofs.Ytlbeincgknmijaa
