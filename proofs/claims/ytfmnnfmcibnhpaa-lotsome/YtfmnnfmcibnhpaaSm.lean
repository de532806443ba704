/-
  The walk of LotSome.
-/
import Derived.Test.YtfmnnfmcibnhpaaSme
namespace Go.Proofs.Ytfmnnfmcibnhpaa
open Go.RowKit

theorem below_left (l : List Int) (n : Int) (hn : 2 ≤ n) : (belowS l n).2.length = l.length - 1 := by
  unfold belowS; rw [if_neg (by omega)]; simp
theorem shufGo_left (i : Nat) : ∀ s l, (shufGo i s l).2.length = l.length - i := by
  induction i with
  | zero => intro s l; rfl
  | succ i ih => intro s l; rw [shufGo, ih, below_left _ _ (by omega)]; omega
theorem shufS_left (s l : List Int) : (shufS s l).2.length = l.length - (s.length - 1) := shufGo_left _ _ _

set_option maxHeartbeats 1000000 in
theorem some_walk (a : Option Addr) (len cap : Nat) (l : List Int) (a' : Option Addr) (len' cap' : Nat) (s : List Int) (n : Int) (wn : (Lit.int .u8 n).wf = true) (w : World) (h : Lots w a len cap l) (h' : List_ w a' len' cap' s) :
    Calls Try.prog 8 #[.slice a len cap, .slice a' len' cap', .int .u8 n] w fun e w' => e = .returned (.bool true) ∧ Below w.heap.size w w' := by
  obtain ⟨n0, n1⟩ := bounds_u8 wn
  clear wn
  obtain ⟨hR, hok⟩ := h
  obtain ⟨hS, _⟩ := h'
  obtain rfl := hR.len
  obtain rfl := hS.len
  by_cases hl : (300 : Int) < l.length
  · go_enter Try.func8, Try.ntmps8
    go_wp2_with (go_at_call 9; refine (shown_any _).mono ?_; rintro e w1 ⟨rfl, hb1⟩)
    go_ret
    exact ⟨rfl, hb1⟩
  by_cases hs : (100 : Int) < s.length
  · go_enter Try.func8, Try.ntmps8
    go_wp2_with (go_at_call 9; refine (shown_any _).mono ?_; rintro e w1 ⟨rfl, hb1⟩)
    go_ret
    exact ⟨rfl, hb1⟩
  go_enter Try.func8, Try.ntmps8
  go_wp2_with fail
  refine (shown_any _).mono ?_
  rintro e w1 ⟨rfl, hb1⟩
  go_wp2_with fail
  refine (new_any _ l _ (by omega) (hR.below hb1)).mono ?_
  rintro e w2 ⟨⟨p, rfl, hL2⟩, hb2⟩
  have z1 := hb1.size
  have z2 := hb2.size
  have hp := hL2.le
  have b2 : Below w.heap.size w w2 := hb1.trans (hb2.mono z1)
  go_wp2_with fail
  refine (some_any _ p _ s l n _ (by omega) (by omega) (hS.below b2) hL2 hok).mono ?_
  rintro e w3 ⟨⟨v, rfl, hV, _⟩, hL3, hb3⟩
  have b3 : Below w.heap.size w w3 := b2.trans (hb3.belowAt (by omega) (by omega))
  obtain ⟨va, vcap, rfl, _⟩ := hV
  by_cases hn : n = 0
  · have e1 : (someS s l n).1.length = 0 := by unfold someS; rw [if_pos (by omega)]; rfl
    have e2 : (someS s l n).2.length = l.length := by unfold someS; rw [if_pos (by omega)]
    have hn' : (n == 0) = true := by simp [hn]
    rw [e1]
    clear hn e1
    have HE : Hid _ := e2
    clear e2
    go_wp2_with (go_at_call 20; refine (left_any _ p _ _ hL3).mono ?_; rw [HE.out]; rintro e w' ⟨rfl, rfl⟩)
    go_ret
    exact ⟨rfl, b3⟩
  · have e1 : (someS s l n).1.length = min n.toNat s.length := by unfold someS; rw [if_neg (by omega)]; simp [List.length_take, shufS_length]
    have e2 : (someS s l n).2.length = l.length - (s.length - 1) := by unfold someS; rw [if_neg (by omega)]; exact shufS_left s l
    obtain ⟨M, hM⟩ : ∃ M : Nat, M = min n.toNat s.length := ⟨_, rfl⟩
    obtain ⟨D, hD⟩ : ∃ D : Nat, D = l.length - (s.length - 1) := ⟨_, rfl⟩
    rw [e1, ← hM]
    rw [← hD] at e2
    have HE : Hid _ := e2
    have hn' : (n == 0) = false := by simp [hn]
    clear hn e1 e2
    by_cases hm : n ≤ s.length
    · have hM' : (M : Int) = n := by omega
      clear hM
      by_cases h0 : (0 : Int) ≤ (s.length : Int) - 1
      · by_cases h1 : (l.length : Int) ≤ (s.length : Int) - 1
        · have hd : (l.length : Int) - D = l.length := by omega
          clear hD
          go_wp2_with (go_at_call 20; refine (left_any _ p _ _ hL3).mono ?_; rw [HE.out]; rintro e w' ⟨rfl, rfl⟩)
          go_ret
          exact ⟨rfl, b3⟩
        · have hd : (l.length : Int) - D = (s.length : Int) - 1 := by omega
          clear hD
          go_wp2_with (go_at_call 20; refine (left_any _ p _ _ hL3).mono ?_; rw [HE.out]; rintro e w' ⟨rfl, rfl⟩)
          go_ret
          exact ⟨rfl, b3⟩
      · have hd : (l.length : Int) - D = 0 := by omega
        clear hD
        by_cases hz : (l.length : Int) ≤ 0
        · have hzz : ((0 : Int) == (l.length : Int)) = true := by rw [beq_iff_eq]; omega
          go_wp2_with (go_at_call 20; refine (left_any _ p _ _ hL3).mono ?_; rw [HE.out]; rintro e w' ⟨rfl, rfl⟩)
          go_ret
          exact ⟨rfl, b3⟩
        · go_wp2_with (go_at_call 20; refine (left_any _ p _ _ hL3).mono ?_; rw [HE.out]; rintro e w' ⟨rfl, rfl⟩)
          go_ret
          exact ⟨rfl, b3⟩
    · have hM' : (M : Int) = s.length := by omega
      clear hM
      by_cases h0 : (0 : Int) ≤ (s.length : Int) - 1
      · by_cases h1 : (l.length : Int) ≤ (s.length : Int) - 1
        · have hd : (l.length : Int) - D = l.length := by omega
          clear hD
          go_wp2_with (go_at_call 20; refine (left_any _ p _ _ hL3).mono ?_; rw [HE.out]; rintro e w' ⟨rfl, rfl⟩)
          go_ret
          exact ⟨rfl, b3⟩
        · have hd : (l.length : Int) - D = (s.length : Int) - 1 := by omega
          clear hD
          go_wp2_with (go_at_call 20; refine (left_any _ p _ _ hL3).mono ?_; rw [HE.out]; rintro e w' ⟨rfl, rfl⟩)
          go_ret
          exact ⟨rfl, b3⟩
      · have hd : (l.length : Int) - D = 0 := by omega
        clear hD
        by_cases hz : (l.length : Int) ≤ 0
        · have hzz : ((0 : Int) == (l.length : Int)) = true := by rw [beq_iff_eq]; omega
          go_wp2_with (go_at_call 20; refine (left_any _ p _ _ hL3).mono ?_; rw [HE.out]; rintro e w' ⟨rfl, rfl⟩)
          go_ret
          exact ⟨rfl, b3⟩
        · go_wp2_with (go_at_call 20; refine (left_any _ p _ _ hL3).mono ?_; rw [HE.out]; rintro e w' ⟨rfl, rfl⟩)
          go_ret
          exact ⟨rfl, b3⟩
end Go.Proofs.Ytfmnnfmcibnhpaa
