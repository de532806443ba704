/-
  The walk of GuardShort.
-/
import Derived.Test.YtlklobapdljpkaaSea
import Derived.OpenShut
namespace Go.Proofs.Ytlklobapdljpkaa
open Go.RowKit

theorem back_seal (s : ByteArray) (x : B32) : back (s ++ fourS x) = fourS x := by
  unfold back
  rw [ByteArray.size_append, fourS_size, Nat.add_sub_cancel]
  apply ByteArray.ext
  apply Array.toList_inj.1
  simp [fourS, four, ByteArray.data_extract, ByteArray.data_append]
theorem front_seal (s : ByteArray) (x : B32) : front (s ++ fourS x) = s := by
  unfold front
  rw [ByteArray.size_append, fourS_size, Nat.add_sub_cancel]
  apply ByteArray.ext
  apply Array.toList_inj.1
  simp [fourS, four, ByteArray.data_extract, ByteArray.data_append]
  exact List.take_of_length_le (Nat.le_refl _)
theorem open_seal (s : ByteArray) : openS (s ++ fourS (crc s.data.toList)) = (s, 0) := by
  rw [openS_good, front_seal]
  · rw [ByteArray.size_append, fourS_size]; omega
  · unfold goodB; rw [back_seal, front_seal]; simp

theorem seal_none_any (w : World) : Calls Try.prog 14 #[.string ⟨#[]⟩] w fun e w' => e = .returned (.string (fourS (crc []))) ∧ Below w.heap.size w w' := by
  refine (seal_any ⟨#[]⟩ w (by decide)).mono ?_
  rintro e w' ⟨rfl, hb⟩
  refine ⟨?_, hb⟩
  rw [show (⟨#[]⟩ : ByteArray) ++ fourS (crc (⟨#[]⟩ : ByteArray).data.toList) = fourS (crc []) from rfl]
theorem open_none_any (w : World) : Calls Try.prog 10 #[.string (fourS (crc []))] w fun e w' => e = .returned (.tuple #[.string ⟨#[]⟩, .int .i64 0]) ∧ Below w.heap.size w w' := by
  have h := open_any (fourS (crc [])) w (by rw [fourS_size]; omega)
  have e : openS (fourS (crc [])) = (⟨#[]⟩, 0) := open_seal ⟨#[]⟩
  rw [e] at h
  exact h
theorem seal_len_any (s : ByteArray) (w : World) (hs : s.size ≤ 1000000000) : Calls Try.prog 14 #[.string s] w fun e w' => (∃ t : ByteArray, e = .returned (.string t) ∧ t.size = s.size + 4) ∧ Below w.heap.size w w' := by
  refine (seal_any s w hs).mono ?_
  rintro e w' ⟨rfl, hb⟩
  exact ⟨⟨_, rfl, by rw [ByteArray.size_append, fourS_size]⟩, hb⟩

set_option maxHeartbeats 1000000 in
theorem short_walk (s : ByteArray) (_wf : s.size ≤ maxLen) (w : World) :
    Calls Try.prog 8 #[.string s] w fun e w' => e = .returned (.bool true) ∧ Below w.heap.size w w' := by
  clear _wf
  by_cases hl : (300 : Int) < s.size
  · go_enter Try.func8, Try.ntmps8
    go_wp2_with (go_at_call 9; refine (shown_any _).mono ?_; rintro e w1 ⟨rfl, hb1⟩)
    go_ret
    exact ⟨rfl, hb1⟩
  · have hs : s.size ≤ 1000000000 := by omega
    by_cases h4 : (s.size : Int) < 4
    · go_enter Try.func8, Try.ntmps8
      go_wp2_with (first | (go_at_call 9; refine (shown_any _).mono ?_; rintro e w1 ⟨rfl, hb1⟩))
      refine (open_short s _ (by omega)).mono ?_
      rintro e w2 ⟨rfl, rfl⟩
      go_wp2_with fail
      refine (seal_none_any _).mono ?_
      rintro e w3 ⟨rfl, hb3⟩
      go_wp2_with fail
      refine (open_none_any _).mono ?_
      rintro e w4 ⟨rfl, hb4⟩
      go_wp2_with fail
      refine (seal_len_any s _ hs).mono ?_
      rintro e w5 ⟨⟨t, rfl, ht⟩, hb5⟩
      have ht' : (t.size : Int) = s.size + 4 := by omega
      clear ht
      go_wp2_with fail
      go_ret
      have z1 := hb1.size
      have z3 := hb3.size
      have z4 := hb4.size
      exact ⟨rfl, ((hb1.trans (hb3.mono z1)).trans (hb4.mono (by omega))).trans (hb5.mono (by omega))⟩
    · have hd4 : decide ((s.size : Int) < 4) = false := decide_eq_false h4
      cases hg : goodB s
      · go_enter Try.func8, Try.ntmps8
        go_wp2_with (first | (go_at_call 9; refine (shown_any _).mono ?_; rintro e w1 ⟨rfl, hb1⟩))
        refine (open_bad s _ (by omega) hs hg).mono ?_
        rintro e w2 ⟨rfl, hb2⟩
        go_wp2_with fail
        refine (seal_none_any _).mono ?_
        rintro e w3 ⟨rfl, hb3⟩
        go_wp2_with fail
        refine (open_none_any _).mono ?_
        rintro e w4 ⟨rfl, hb4⟩
        go_wp2_with fail
        refine (seal_len_any s _ hs).mono ?_
        rintro e w5 ⟨⟨t, rfl, ht⟩, hb5⟩
        have ht' : (t.size : Int) = s.size + 4 := by omega
        clear ht
        go_wp2_with fail
        go_ret
        have z1 := hb1.size
        have z2 := hb2.size
        have z3 := hb3.size
        have z4 := hb4.size
        exact ⟨rfl, (((hb1.trans (hb2.mono z1)).trans (hb3.mono (by omega))).trans (hb4.mono (by omega))).trans (hb5.mono (by omega))⟩
      · go_enter Try.func8, Try.ntmps8
        go_wp2_with (first | (go_at_call 9; refine (shown_any _).mono ?_; rintro e w1 ⟨rfl, hb1⟩))
        refine (open_good s _ (by omega) hs hg).mono ?_
        rintro e w2 ⟨rfl, hb2⟩
        go_wp2_with fail
        refine (seal_none_any _).mono ?_
        rintro e w3 ⟨rfl, hb3⟩
        go_wp2_with fail
        refine (open_none_any _).mono ?_
        rintro e w4 ⟨rfl, hb4⟩
        go_wp2_with fail
        refine (seal_len_any s _ hs).mono ?_
        rintro e w5 ⟨⟨t, rfl, ht⟩, hb5⟩
        have ht' : (t.size : Int) = s.size + 4 := by omega
        clear ht
        go_wp2_with fail
        go_ret
        have z1 := hb1.size
        have z2 := hb2.size
        have z3 := hb3.size
        have z4 := hb4.size
        exact ⟨rfl, (((hb1.trans (hb2.mono z1)).trans (hb3.mono (by omega))).trans (hb4.mono (by omega))).trans (hb5.mono (by omega))⟩
end Go.Proofs.Ytlklobapdljpkaa
