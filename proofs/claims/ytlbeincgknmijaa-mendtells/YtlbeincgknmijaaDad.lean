/-
  Clones; Add, of the code.
-/
import Derived.Test.YtlbeincgknmijaaDwa
import Derived.Test.YtlbeincgknmijaaDha
namespace Go.Proofs.Ytlbeincgknmijaa
open Go.RowKit

set_option maxHeartbeats 400000 in
theorem clone_some (g off cap : Nat) (l : List Sn) (w : World) (hl : l.length ≤ 1000000) (h : Rs (.slice (some ⟨g, off, none⟩) l.length cap) l w) :
    Calls Try.prog 55 #[.slice (some ⟨g, off, none⟩) l.length cap] w fun e w' => ∃ v, e = .returned v ∧ Rs v l w' ∧ Below w.heap.size w w' := by
  have hq : ∀ (w : World) (a : Option Addr) (n c n' c' : Nat), (binOp .eql 23 (.slice a n c) (.slice none n' c')).run Try.prog w = .ok (.bool a.isNone) w := fun w a n c n' c' => Lib.run_eql_slice_nil w _ _ a n c n' c' Try.underlying23
  have b1 := below_alloc w (.cells #[] 51)
  have hO : Ow w.heap.size (.slice (some ⟨w.heap.size, 0, none⟩) 0 0) [] (w.alloc (.cells #[] 51)) := World.ownsRow_made w #[] 0 (Nat.le_refl _) (Nat.zero_le _) rfl
  have hU := h.below b1
  have hz := b1.size
  go_enter Try.func55, Try.ntmps55
  go_wp2_with (at_builtin; refine wpList_appS rfl (.tmp 5) (.tmp 6) rfl _ w.heap.size [] rfl hO hz g off l.length cap l rfl rfl hU (by simp; omega) ?_; intro v w1 hown hgr)
  go_ret
  exact ⟨v, rfl, hown.rs h.2, below_grown b1 hO hgr hz⟩

set_option maxHeartbeats 400000 in
theorem clone_none (cap : Nat) (w : World) :
    Calls Try.prog 55 #[.slice none 0 cap] w fun e w' => ∃ v, e = .returned v ∧ Rs v [] w' ∧ Below w.heap.size w w' := by
  have hq : ∀ (w : World) (a : Option Addr) (n c n' c' : Nat), (binOp .eql 23 (.slice a n c) (.slice none n' c')).run Try.prog w = .ok (.bool a.isNone) w := fun w a n c n' c' => Lib.run_eql_slice_nil w _ _ a n c n' c' Try.underlying23
  go_enter Try.func55, Try.ntmps55
  go_wp2_with fail
  go_ret
  exact ⟨_, rfl, Rs.nil _, Below.refl _ _⟩

set_option maxHeartbeats 400000 in
theorem clone_empty (ad : Addr) (cap : Nat) (w : World) :
    Calls Try.prog 55 #[.slice (some ad) 0 cap] w fun e w' => ∃ v, e = .returned v ∧ Rs v [] w' ∧ Below w.heap.size w w' := by
  obtain ⟨i0, hi, hz0, hz1, hz2⟩ := info_parts infoSpan
  have hq : ∀ (w : World) (a : Option Addr) (n c n' c' : Nat), (binOp .eql 23 (.slice a n c) (.slice none n' c')).run Try.prog w = .ok (.bool a.isNone) w := fun w a n c n' c' => Lib.run_eql_slice_nil w _ _ a n c n' c' Try.underlying23
  have b1 := below_alloc w (.cells #[] 51)
  have hO : Ow w.heap.size (.slice (some ⟨w.heap.size, 0, none⟩) 0 0) [] (w.alloc (.cells #[] 51)) := World.ownsRow_made w #[] 0 (Nat.le_refl _) (Nat.zero_le _) rfl
  have hz := b1.size
  go_enter Try.func55, Try.ntmps55
  go_wp2_with (at_builtin; refine wpList_append_own _ rfl (.tmp 5) (.tmp 6) 23 rfl w.heap.size 51 i0 (.agg #[.int .u64 0, .int .u64 0]) 2 16 Try.underlying23 hi hz0 hz1 hz2 rfl (by decide) _ 0 [] rfl hO ad 0 cap [] rfl rfl (fun j u h => by cases h) (fun u h => by cases h) (by unfold maxLen; omega) (by omega) hz ?_; intro v w1 hown hgr _)
  go_ret
  have hown' : Ow w.heap.size v [] w1 := hown
  exact ⟨v, rfl, hown'.rs (fun s hs => by cases hs), below_grown b1 hO hgr hz⟩

theorem clone_any (v : Value) (l : List Sn) (w : World) (hl : l.length ≤ 1000000) (h : Rs v l w) :
    Calls Try.prog 55 #[v] w fun e w' => ∃ v', e = .returned v' ∧ Rs v' l w' ∧ Below w.heap.size w w' := by
  rcases h.shape with ⟨rfl, a, cap, rfl⟩ | ⟨g, off, cap, rfl⟩
  · cases a with
    | none => exact clone_none cap w
    | some ad => exact clone_empty ad cap w
  · exact clone_some g off cap l w hl h

theorem joinS_nil_one {n : Int} (h0 : 0 ≤ n) (h1 : n < 18446744073709551615) : joinS [] [⟨n, n⟩] = walkS orB [] [⟨n, n⟩] := joinS_of trivial (one_up h0 h1)

set_option maxRecDepth 100000 in
set_option maxHeartbeats 1000000 in
theorem add_any (v : Value) (l : List Sn) (n : Int) (w : World) (hR : Rs v l w) (hl : l.length ≤ 100000) (n0 : 0 ≤ n) (n1 : n ≤ 18446744073709551615) :
    Calls Try.prog 39 #[v, .int .u64 n] w fun e w' => (∃ v', e = .returned (.tuple #[v', .bool (addS l n).2]) ∧ Rs v' (addS l n).1 w') ∧ Below w.heap.size w w' := by
  cases hm : mayS l
  case false =>
    have e : addS l n = if n = 18446744073709551615 then ([], false) else (walkS orB [] [⟨n, n⟩], true) := by
      unfold addS; rw [hm]; simp
    have hh : hasM [] n = false := by simp [hasM, hasS_nil]
    rw [e]
    clear e
    cases hn : (n == 18446744073709551615)
    case true =>
      have hn' : n = 18446744073709551615 := by simpa using hn
      rw [if_pos hn']
      clear hn'
      go_enter Try.func39, Try.ntmps39
      go_wp2_with fail
      refine (may_any _ l _ hR (by omega)).mono ?_
      rw [hm]
      rintro e w2 ⟨rfl, hb⟩
      go_wp2_with fail
      refine (clone_none 0 w2).mono ?_
      rintro e w3 ⟨v3, rfl, hR3, hb3⟩
      go_wp2_with fail
      go_ret2
      exact ⟨⟨_, rfl, hR3⟩, hb.trans (hb3.mono hb.size)⟩
    case false =>
      have hn' : n ≠ 18446744073709551615 := by simpa using hn
      have hn1 : n < 18446744073709551615 := by omega
      rw [if_neg hn', ← joinS_nil_one n0 hn1]
      go_enter Try.func39, Try.ntmps39
      go_wp2_with fail
      refine (may_any _ l _ hR (by omega)).mono ?_
      rw [hm]
      rintro e w2 ⟨rfl, hb⟩
      have b3 := fun w' => below_alloc w' (.cells #[.int .u64 n, .int .u64 n] 51)
      clear hn'
      go_wp2_with fail
      refine (has_any _ [] n w2 (Rs.nil w2) (by simp)).mono ?_
      rw [hh]
      rintro e w3 ⟨rfl, hb3⟩
      have hB3 := hb.trans (hb3.mono hb.size)
      have hU := Rs.one (Bx.new 51 n n w3) ⟨n0, n1, n0, n1⟩
      have hB4 := hB3.trans ((b3 w3).mono hB3.size)
      go_wp2_with fail
      refine (join_any _ _ [] [⟨n, n⟩] _ (Rs.nil _) hU (by simp) (by simp)).mono ?_
      rintro e w5 ⟨⟨v5, rfl, hO5⟩, hb5⟩
      have hR5 := hO5.rs (joinS_up (by trivial : Up 0 []) (one_up n0 hn1)).ok
      go_wp2_with fail
      go_ret2
      exact ⟨⟨_, rfl, hR5⟩, hB4.trans (hb5.mono hB4.size)⟩
  case true =>
    have hu := (mayS_iff l).1 hm
    have e : addS l n = if n = 18446744073709551615 ∨ hasS l n = true then (l, false) else (walkS orB l [⟨n, n⟩], true) := by
      unfold addS; rw [hm]; simp
    have hh : hasM l n = hasS l n := by unfold hasM; rw [hm]; rfl
    rw [e]
    clear e
    cases hn : (n == 18446744073709551615)
    case true =>
      have hn' : n = 18446744073709551615 := by simpa using hn
      rw [if_pos (Or.inl hn')]
      clear hn'
      go_enter Try.func39, Try.ntmps39
      go_wp2_with fail
      refine (may_any _ l _ hR (by omega)).mono ?_
      rw [hm]
      rintro e w2 ⟨rfl, hb⟩
      go_wp2_with fail
      refine (clone_any v l w2 (by omega) (hR.below hb)).mono ?_
      rintro e w3 ⟨v3, rfl, hR3, hb3⟩
      go_wp2_with fail
      go_ret2
      exact ⟨⟨_, rfl, hR3⟩, hb.trans (hb3.mono hb.size)⟩
    case false =>
      have hn' : n ≠ 18446744073709551615 := by simpa using hn
      cases hs : hasS l n
      case true =>
        rw [if_pos (Or.inr rfl)]
        rw [hs] at hh
        clear hn'
        go_enter Try.func39, Try.ntmps39
        go_wp2_with fail
        refine (may_any _ l _ hR (by omega)).mono ?_
        rw [hm]
        rintro e w2 ⟨rfl, hb⟩
        go_wp2_with fail
        refine (has_any _ l n w2 (hR.below hb) (by omega)).mono ?_
        rw [hh]
        rintro e w3 ⟨rfl, hb3⟩
        have hB3 := hb.trans (hb3.mono hb.size)
        go_wp2_with fail
        refine (clone_any v l w3 (by omega) (hR.below hB3)).mono ?_
        rintro e w4 ⟨v4, rfl, hR4, hb4⟩
        go_wp2_with fail
        go_ret2
        exact ⟨⟨_, rfl, hR4⟩, hB3.trans (hb4.mono hB3.size)⟩
      case false =>
        rw [if_neg (by rintro (h | h); exact hn' h; cases h), ← joinS_of hu (one_up n0 (by omega))]
        rw [hs] at hh
        have hn1 : n < 18446744073709551615 := by omega
        clear hn'
        have b3 := fun w' => below_alloc w' (.cells #[.int .u64 n, .int .u64 n] 51)
        go_enter Try.func39, Try.ntmps39
        go_wp2_with fail
        refine (may_any _ l _ hR (by omega)).mono ?_
        rw [hm]
        rintro e w2 ⟨rfl, hb⟩
        go_wp2_with fail
        refine (has_any _ l n w2 (hR.below hb) (by omega)).mono ?_
        rw [hh]
        rintro e w3 ⟨rfl, hb3⟩
        have hB3 := hb.trans (hb3.mono hb.size)
        have hU := Rs.one (Bx.new 51 n n w3) ⟨n0, n1, n0, n1⟩
        have hB4 := hB3.trans ((b3 w3).mono hB3.size)
        have hR4 := hR.below hB4
        go_wp2_with fail
        refine (join_any _ _ l [⟨n, n⟩] _ hR4 hU (by omega) (by simp)).mono ?_
        rintro e w5 ⟨⟨v5, rfl, hO5⟩, hb5⟩
        have hR5 := hO5.rs (joinS_up hu (one_up n0 hn1)).ok
        go_wp2_with fail
        go_ret2
        exact ⟨⟨_, rfl, hR5⟩, hB4.trans (hb5.mono hB4.size)⟩
end Go.Proofs.Ytlbeincgknmijaa
