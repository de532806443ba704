/-
  The walk of OctetReads.
-/
import Derived.Test.YtglpdchdkabajaaRfr
import Derived.Test.YtglpdchdkabajaaWts
namespace Go.Proofs.Ytglpdchdkabajaa
open Go.RowKit

theorem Rd.keptBut {T : TypeId} {p : Nat} {s : ByteArray} {k : Nat} {w w' : World} {B q : Nat} (h : Rd T p s k w) (hb : But B q w w') (hB : p < B) (hq : p ≠ q) : Rd T p s k w' := (hb.block p hB hq).trans h

set_option maxRecDepth 100000 in
set_option maxHeartbeats 2000000 in
theorem reads_core (s : ByteArray) (b off len cap : Nat) (I : Nat → Itm) (w : World) (hs : s.size ≤ 1000) (hlen : len ≤ 100) (hb : b < w.heap.size) (hat : Hid (∀ i, i < len → ItmAt w b (off + i * 6) (I i))) :
    Calls Try.prog 4 #[.string s, .slice (some ⟨b, off, none⟩) len cap] w fun e w' => e = .returned (.bool true) ∧ Below w.heap.size w w' := by
  have hs9 : s.size ≤ 1000000000 := by omega
  go_enter Try.func4, Try.ntmps4
  go_wp2_with (first | (go_at_call 9; refine (shown_any _).mono ?_; rintro e w1 ⟨rfl, hB1⟩) | (go_at_call 17; refine (new_any _ _).mono ?_; rintro e w' ⟨rfl, rfl⟩))
  have hz1 := hB1.size
  go_loopg [7] len (fun gk i wr => ∃ k : Nat, k + gk = len ∧ i = .int .i64 k ∧ ∃ pl, pl ≤ s.size ∧ Rd 63 w1.heap.size s pl wr ∧ Rd 45 (w1.heap.size + 1) s pl wr ∧ Below w.heap.size w wr)
  case atStart =>
    refine ⟨0, by omega, rfl, 0, Nat.zero_le _, ?_, ?_, (hB1.alloc hz1 _).alloc (by simp; omega) _⟩
    · exact (Below.heap_alloc _ _ _ (by simp)).trans (Rd.new 63 s w1)
    · have := Rd.new 45 s (w1.alloc (.cells #[.string s, .int .i64 0] 63))
      simpa using this
  case round =>
    obtain ⟨k, hk, rfl, pl, hpl, hR, hT, hB⟩ := hrel
    by_cases hlt : k < len
    · have hI := (hat.out k hlt).below hB hb
      generalize I k = J at hI
      have c0 := hI.c0
      have c1 := hI.c1
      have c2 := hI.c2
      by_cases hk0 : J.kind = 0
      · have hk0' : (J.kind == 0) = true := by simp [hk0]
        clear hk0
        have hple := numS_le s pl J.width hpl
        generalize hQ : numS s pl J.width = Q at hple
        have HQ : Hid (numS s pl J.width = Q) := hQ
        clear hQ
        obtain ⟨q1, q2, q3⟩ := Q
        have hple' : q3 ≤ s.size := hple
        clear hple
        go_wp2_with fail
        refine (rnum_any w1.heap.size s pl J.width _ hR hpl hs9).mono ?_
        rw [HQ.out]
        rintro e w2 ⟨rfl, hR2, hB2⟩
        have hI2 := hI.below (hB2.belowAt (B' := w.heap.size) hz1 hB.size) hb
        have hT2 := hT.keptBut hB2 hT.lt (by omega)
        have d0 := hI2.c0
        have d1 := hI2.c1
        have d2 := hI2.c2
        clear c0 c1 c2
        go_wp2_with fail
        refine (frnum_any (w1.heap.size + 1) s pl J.width _ hT2 hpl hs9).mono ?_
        rw [HQ.out]
        rintro e w3 ⟨rfl, hT3, hB3⟩
        have hR3 := hR2.keptBut hB3 hR2.lt (by omega)
        have hz2 := hB2.size
        have hB9 : Below w.heap.size w w3 := (hB.trans (hB2.belowAt hz1 hB.size)).trans (hB3.belowAt (by omega) (Nat.le_trans hB.size hz2))
        obtain ⟨E, HE⟩ : ∃ E : Int, Hid ((if q3 < s.size then (11 : Int) else 0) = E) := ⟨_, rfl⟩
        clear hR hT hR2 hT2 hI hI2 hB hB2 hB3
        go_wp2_with (first | (go_at_call 25; refine (left_any w1.heap.size s q3 _ (by exact hR3) hple' hs9).mono ?_; rintro e w' ⟨rfl, rfl⟩) | (go_at_call 26; refine (fleft_any (w1.heap.size + 1) s q3 _ (by exact hT3) hple' hs9).mono ?_; rintro e w' ⟨rfl, rfl⟩) | (go_at_call 27; refine (end_any w1.heap.size s q3 _ (by exact hR3) hple' hs9).mono ?_; rintro e w' ⟨rfl, rfl⟩; rw [HE.out]) | (go_at_call 28; refine (fend_any (w1.heap.size + 1) s q3 _ (by exact hT3) hple' hs9).mono ?_; rintro e w' ⟨rfl, rfl⟩; rw [HE.out]))
        go_roundg (gk - 1)
        case measure => omega
        case rel => exact ⟨k + 1, by omega, by go_num, q3, hple', hR3, hT3, hB9.drew.drew.drew.drew⟩
      · have hk0' : (J.kind == 0) = false := by simp [hk0]
        clear hk0
        by_cases hk1 : J.kind = 1
        · have hk1' : (J.kind == 1) = true := by simp [hk1]
          clear hk1
          have hple := realS_le s pl hpl
          generalize hQ : realS s pl = Q at hple
          have HQ : Hid (realS s pl = Q) := hQ
          clear hQ
          obtain ⟨q1, q2, q3⟩ := Q
          have hple' : q3 ≤ s.size := hple
          clear hple
          go_wp2_with fail
          refine (rreal_any w1.heap.size s pl _ hR hpl hs9).mono ?_
          rw [HQ.out]
          rintro e w2 ⟨rfl, hR2, hB2⟩
          have hI2 := hI.below (hB2.belowAt (B' := w.heap.size) hz1 hB.size) hb
          have hT2 := hT.keptBut hB2 hT.lt (by omega)
          have d0 := hI2.c0
          have d1 := hI2.c1
          have d2 := hI2.c2
          clear c0 c1 c2
          go_wp2_with fail
          refine (frreal_any (w1.heap.size + 1) s pl _ hT2 hpl hs9).mono ?_
          rw [HQ.out]
          rintro e w3 ⟨rfl, hT3, hB3⟩
          have hR3 := hR2.keptBut hB3 hR2.lt (by omega)
          have hz2 := hB2.size
          have hB9 : Below w.heap.size w w3 := (hB.trans (hB2.belowAt hz1 hB.size)).trans (hB3.belowAt (by omega) (Nat.le_trans hB.size hz2))
          obtain ⟨E, HE⟩ : ∃ E : Int, Hid ((if q3 < s.size then (11 : Int) else 0) = E) := ⟨_, rfl⟩
          clear hR hT hR2 hT2 hI hI2 hB hB2 hB3
          go_wp2_with (first | (go_at_call 22; refine (alike_any _ _ _).mono ?_; rintro e w' ⟨rfl, rfl⟩; rw [beq_self_eq_true]) | (go_at_call 25; refine (left_any w1.heap.size s q3 _ (by exact hR3) hple' hs9).mono ?_; rintro e w' ⟨rfl, rfl⟩) | (go_at_call 26; refine (fleft_any (w1.heap.size + 1) s q3 _ (by exact hT3) hple' hs9).mono ?_; rintro e w' ⟨rfl, rfl⟩) | (go_at_call 27; refine (end_any w1.heap.size s q3 _ (by exact hR3) hple' hs9).mono ?_; rintro e w' ⟨rfl, rfl⟩; rw [HE.out]) | (go_at_call 28; refine (fend_any (w1.heap.size + 1) s q3 _ (by exact hT3) hple' hs9).mono ?_; rintro e w' ⟨rfl, rfl⟩; rw [HE.out]))
          go_roundg (gk - 1)
          case measure => omega
          case rel => exact ⟨k + 1, by omega, by go_num, q3, hple', hR3, hT3, hB9.drew.drew.drew.drew⟩
        · have hk1' : (J.kind == 1) = false := by simp [hk1]
          clear hk1
          by_cases hk2 : J.kind = 2
          · have hk2' : (J.kind == 2) = true := by simp [hk2]
            clear hk2
            have hple := textS_le s pl J.most hpl
            generalize hQ : textS s pl J.most = Q at hple
            have HQ : Hid (textS s pl J.most = Q) := hQ
            clear hQ
            obtain ⟨q1, q2, q3⟩ := Q
            have hple' : q3 ≤ s.size := hple
            clear hple
            go_wp2_with fail
            refine (rtext_any w1.heap.size s pl J.most _ hR hpl hs9).mono ?_
            rw [HQ.out]
            rintro e w2 ⟨rfl, hR2, hB2⟩
            have hI2 := hI.below (hB2.belowAt (B' := w.heap.size) hz1 hB.size) hb
            have hT2 := hT.keptBut hB2 hT.lt (by omega)
            have d0 := hI2.c0
            have d1 := hI2.c1
            have d2 := hI2.c2
            clear c0 c1 c2
            go_wp2_with fail
            refine (frtext_any (w1.heap.size + 1) s pl J.most _ hT2 hpl hs9).mono ?_
            rw [HQ.out]
            rintro e w3 ⟨rfl, hT3, hB3⟩
            have hR3 := hR2.keptBut hB3 hR2.lt (by omega)
            have hz2 := hB2.size
            have hB9 : Below w.heap.size w w3 := (hB.trans (hB2.belowAt hz1 hB.size)).trans (hB3.belowAt (by omega) (Nat.le_trans hB.size hz2))
            obtain ⟨E, HE⟩ : ∃ E : Int, Hid ((if q3 < s.size then (11 : Int) else 0) = E) := ⟨_, rfl⟩
            clear hR hT hR2 hT2 hI hI2 hB hB2 hB3
            go_wp2_with (first | (go_at_call 25; refine (left_any w1.heap.size s q3 _ (by exact hR3) hple' hs9).mono ?_; rintro e w' ⟨rfl, rfl⟩) | (go_at_call 26; refine (fleft_any (w1.heap.size + 1) s q3 _ (by exact hT3) hple' hs9).mono ?_; rintro e w' ⟨rfl, rfl⟩) | (go_at_call 27; refine (end_any w1.heap.size s q3 _ (by exact hR3) hple' hs9).mono ?_; rintro e w' ⟨rfl, rfl⟩; rw [HE.out]) | (go_at_call 28; refine (fend_any (w1.heap.size + 1) s q3 _ (by exact hT3) hple' hs9).mono ?_; rintro e w' ⟨rfl, rfl⟩; rw [HE.out]))
            go_roundg (gk - 1)
            case measure => omega
            case rel => exact ⟨k + 1, by omega, by go_num, q3, hple', hR3, hT3, hB9.drew.drew.drew.drew⟩
          · have hk2' : (J.kind == 2) = false := by simp [hk2]
            clear hk2 hI
            obtain ⟨E, HE⟩ : ∃ E : Int, Hid ((if pl < s.size then (11 : Int) else 0) = E) := ⟨_, rfl⟩
            go_wp2_with (first | (go_at_call 25; refine (left_any w1.heap.size s pl _ (by exact hR) hpl hs9).mono ?_; rintro e w' ⟨rfl, rfl⟩) | (go_at_call 26; refine (fleft_any (w1.heap.size + 1) s pl _ (by exact hT) hpl hs9).mono ?_; rintro e w' ⟨rfl, rfl⟩) | (go_at_call 27; refine (end_any w1.heap.size s pl _ (by exact hR) hpl hs9).mono ?_; rintro e w' ⟨rfl, rfl⟩; rw [HE.out]) | (go_at_call 28; refine (fend_any (w1.heap.size + 1) s pl _ (by exact hT) hpl hs9).mono ?_; rintro e w' ⟨rfl, rfl⟩; rw [HE.out]))
            go_roundg (gk - 1)
            case measure => omega
            case rel => exact ⟨k + 1, by omega, by go_num, pl, hpl, hR, hT, hB.drew.drew.drew.drew⟩
    · obtain ⟨E, HE⟩ : ∃ E : Int, Hid ((if pl < s.size then (11 : Int) else 0) = E) := ⟨_, rfl⟩
      go_wp2_with (first | (go_at_call 25; refine (left_any w1.heap.size s pl _ (by exact hR) hpl hs9).mono ?_; rintro e w' ⟨rfl, rfl⟩) | (go_at_call 26; refine (fleft_any (w1.heap.size + 1) s pl _ (by exact hT) hpl hs9).mono ?_; rintro e w' ⟨rfl, rfl⟩) | (go_at_call 27; refine (end_any w1.heap.size s pl _ (by exact hR) hpl hs9).mono ?_; rintro e w' ⟨rfl, rfl⟩; rw [HE.out]) | (go_at_call 28; refine (fend_any (w1.heap.size + 1) s pl _ (by exact hT) hpl hs9).mono ?_; rintro e w' ⟨rfl, rfl⟩; rw [HE.out]))
      go_ret
      exact ⟨rfl, hB.drew.drew.drew.drew⟩

set_option maxHeartbeats 400000 in
theorem reads_long (s : ByteArray) (a : Option Addr) (len cap : Nat) (w : World) (h : 1000 < s.size ∨ (s.size ≤ 1000 ∧ 100 < len)) :
    Calls Try.prog 4 #[.string s, .slice a len cap] w fun e w' => e = .returned (.bool true) ∧ Below w.heap.size w w' := by
  rcases h with h | ⟨h, h'⟩
  all_goals
    go_enter Try.func4, Try.ntmps4
    go_wp2_with (go_at_call 9; refine (shown_any _).mono ?_; rintro e w1 ⟨rfl, hB1⟩)
    go_ret
    exact ⟨rfl, hB1⟩
set_option maxRecDepth 100000 in
set_option maxHeartbeats 1000000 in
theorem reads_none (s : ByteArray) (a : Option Addr) (cap : Nat) (w : World) (hs : s.size ≤ 1000) :
    Calls Try.prog 4 #[.string s, .slice a 0 cap] w fun e w' => e = .returned (.bool true) ∧ Below w.heap.size w w' := by
  have hs9 : s.size ≤ 1000000000 := by omega
  have hpl : 0 ≤ s.size := Nat.zero_le _
  obtain ⟨E, HE⟩ : ∃ E : Int, Hid ((if 0 < s.size then (11 : Int) else 0) = E) := ⟨_, rfl⟩
  go_enter Try.func4, Try.ntmps4
  go_wp2_with (first | (go_at_call 9; refine (shown_any _).mono ?_; rintro e w1 ⟨rfl, hB1⟩) | (go_at_call 17; refine (new_any _ _).mono ?_; rintro e w' ⟨rfl, rfl⟩))
  have hz1 := hB1.size
  obtain ⟨hR, hT⟩ : Rd 63 w1.heap.size s 0 ((w1.alloc (.cells #[.string s, .int .i64 0] 63)).alloc (.cells #[.string s, .int .i64 0] 45)) ∧ Rd 45 (w1.heap.size + 1) s 0 ((w1.alloc (.cells #[.string s, .int .i64 0] 63)).alloc (.cells #[.string s, .int .i64 0] 45)) := by
    refine ⟨(Below.heap_alloc _ _ _ (by simp)).trans (Rd.new 63 s w1), ?_⟩
    have := Rd.new 45 s (w1.alloc (.cells #[.string s, .int .i64 0] 63))
    simpa using this
  refine wp_loop_rounds 1 ?_
  rw [rounds_succ]
  go_wp2_with (first | (go_at_call 25; refine (left_any w1.heap.size s 0 _ (by exact hR) hpl hs9).mono ?_; rintro e w' ⟨rfl, rfl⟩) | (go_at_call 26; refine (fleft_any (w1.heap.size + 1) s 0 _ (by exact hT) hpl hs9).mono ?_; rintro e w' ⟨rfl, rfl⟩) | (go_at_call 27; refine (end_any w1.heap.size s 0 _ (by exact hR) hpl hs9).mono ?_; rintro e w' ⟨rfl, rfl⟩; rw [HE.out]) | (go_at_call 28; refine (fend_any (w1.heap.size + 1) s 0 _ (by exact hT) hpl hs9).mono ?_; rintro e w' ⟨rfl, rfl⟩; rw [HE.out]))
  go_ret
  exact ⟨rfl, ((hB1.alloc hz1 _).alloc (by simp; omega) _).drew.drew.drew.drew⟩

theorem reads_walk (s : ByteArray) (a : Option Addr) (len cap : Nat) (I : Nat → Itm) (_hs : s.size ≤ maxLen) (w : World) (h : IsItems w a len cap I) :
    Calls Try.prog 4 #[.string s, .slice a len cap] w fun e w' => e = .returned (.bool true) ∧ Below w.heap.size w w' := by
  obtain ⟨_, _, _, h4⟩ := h
  by_cases hs : 1000 < s.size
  · exact reads_long s a len cap w (Or.inl hs)
  · by_cases hl : 100 < len
    · exact reads_long s a len cap w (Or.inr ⟨by omega, hl⟩)
    · rcases h4 with rfl | ⟨b, off, rfl, hb, hc⟩
      · exact reads_none s a cap w (by omega)
      · refine reads_core s b off len cap I w (by omega) (by omega) hb (fun i hi => ?_)
        obtain ⟨c0, c1, c2, c3, c4, c5⟩ := hc i hi
        exact ⟨by simpa using c0, by simpa [Nat.add_assoc] using c1, by simpa [Nat.add_assoc] using c2, by simpa [Nat.add_assoc] using c3, by simpa [Nat.add_assoc] using c4, by simpa [Nat.add_assoc] using c5⟩
end Go.Proofs.Ytglpdchdkabajaa
