/-
  The walk of OctetStays.
-/
import Derived.Test.YtglpdchdkabajaaAll
namespace Go.Proofs.Ytglpdchdkabajaa
open Go.RowKit

theorem Rd.keptBut {T : TypeId} {p : Nat} {s : ByteArray} {k : Nat} {w w' : World} {B q : Nat} (h : Rd T p s k w) (hb : But B q w w') (hB : p < B) (hq : p ≠ q) : Rd T p s k w' := (hb.block p hB hq).trans h

set_option maxHeartbeats 1000000 in
theorem stays_long (s : ByteArray) (n width : Int) (w : World) (hs : 300 < s.size) :
    Calls Try.prog 7 #[.string s, .int .u64 n, .int .i64 width] w fun e w' => e = .returned (.bool true) ∧ Below w.heap.size w w' := by
  go_enter Try.func7, Try.ntmps7
  go_wp2_with (go_at_call 9; refine (shown_any _).mono ?_; rintro e w1 ⟨rfl, hB1⟩)
  go_ret
  exact ⟨rfl, hB1⟩

set_option maxHeartbeats 2000000 in
/-- Of each outcome of the three calls. -/
theorem stays_core (s : ByteArray) (n width : Int) (w : World) (hs : s.size ≤ 300) (n1 n2 : Int) (n3 : Nat) (t1 : ByteArray) (t2 : Int) (t3 : Nat) (e1 : Int) (l1 : List Int) (HN : Hid (numS s 0 width = (n1, n2, n3))) (HT : Hid (textS s 0 3 = (t1, t2, t3))) (HW : Hid (wnumS n width = (e1, l1)))
    (hn : (n2 = 0 ∧ ((s.size : Int) - n3 != s.size - width) = false ∧ n3 ≤ s.size ∧ 1 ≤ width ∧ width ≤ 8) ∨ ((n2 = 1 ∨ n2 = 10) ∧ n3 = 0)) (ht : (t2 = 0 ∧ t3 ≤ s.size) ∨ ((t2 = 10 ∨ t2 = 12) ∧ t3 = 0)) (hw : (e1 = 0 ∧ 0 < l1.length ∧ l1.length ≤ 8) ∨ (e1 = 1 ∧ l1 = [])) :
    Calls Try.prog 7 #[.string s, .int .u64 n, .int .i64 width] w fun e w' => e = .returned (.bool true) ∧ Below w.heap.size w w' := by
  have hk0 : 0 ≤ s.size := Nat.zero_le _
  have hk9 : s.size ≤ 1000000000 := by omega
  have hsl : (strOfNums ([] ++ l1)).size = l1.length := by rw [strOfNums_size]; simp
  generalize hS : strOfNums ([] ++ l1) = S at hsl
  have HS : Hid (strOfNums ([] ++ l1) = S) := hS
  clear hS
  rcases hw with ⟨rfl, hl0, hl8⟩ | ⟨rfl, hl⟩
  case' inl => have hlen : (0 : Int) < S.size := by omega
  case' inr =>
    obtain rfl : S = ByteArray.empty := by rw [← HS.out, hl]; rfl
    have hlen : ¬ (0 : Int) < ((ByteArray.empty.size : Nat) : Int) := by decide
  all_goals clear hsl
  all_goals rcases hn with ⟨rfl, hn1, hn2, hn4, hn5⟩ | ⟨rfl | rfl, rfl⟩ <;> rcases ht with ⟨rfl, ht1⟩ | ⟨rfl | rfl, rfl⟩
  all_goals
    go_enter Try.func7, Try.ntmps7
    go_wp2_with (first
      | (go_at_call 9; refine (shown_any _).mono ?_; rintro e w1 ⟨rfl, hB1⟩)
      | (go_at_call 17; refine (new_any _ _).mono ?_; rintro e w' ⟨rfl, rfl⟩)
      | (go_at_call 18; refine (rnum_any w1.heap.size s 0 width _ (Rd.new 63 s w1) hk0 hk9).mono ?_; rw [HN.out]; rintro e w2 ⟨rfl, hR2, hB2⟩))
    refine (left_any w1.heap.size s _ _ hR2 (by omega) hk9).mono ?_
    rintro e w3 ⟨rfl, rfl⟩
    have hz1 := hB1.size
    have hz2 := hB2.size
    rw [World.size_alloc] at hz2
    go_wp2_with (first
      | (go_at_call 17; refine (new_any _ _).mono ?_; rintro e w' ⟨rfl, rfl⟩)
      | (go_at_call 23; refine (rtext_any w2.heap.size s 0 3 _ (by exact Rd.new 63 s w2) hk0 hk9).mono ?_; rw [HT.out]; rintro e w4 ⟨rfl, hR4, hB4⟩)
      | (go_at_call 25; refine (left_any w2.heap.size s _ _ hR4 (by omega) hk9).mono ?_; rintro e w5 ⟨rfl, rfl⟩)
      | (go_at_call 10; refine (wnum_all (w4.heap.size + 1) w4.heap.size _ [] n width _ (by first | exact Wr.new 27 5 w4 | exact (Wr.new 27 5 w4).drew) (by decide)).mono ?_; rw [HW.out]; rintro e w6 ⟨rfl, ⟨v6, hW6⟩, hB6⟩)
      | (go_at_call 16; refine (bytes_any _ _ _ _ _ hW6).mono ?_; rintro e w7 ⟨rfl, rfl⟩; rw [HS.out]))
    go_ret
    have a1 : Below w.heap.size w w2 := (hB1.alloc hz1 _).trans (hB2.belowAt hz1 (by rw [World.size_alloc]; omega))
    have a2 : Below w.heap.size w w4 := ((a1.alloc (by omega) _).drew).trans (hB4.belowAt (by omega) (by show _ ≤ (w2.alloc _).heap.size; rw [World.size_alloc]; omega))
    have hz4 := a2.size
    first
      | exact ⟨rfl, (a2.alloc hz4 _).trans (hB6.belowAt hz4 (by omega))⟩
      | exact ⟨rfl, (a2.alloc hz4 _).drew.trans (hB6.belowAt hz4 (by omega))⟩

theorem stays_walk (s : ByteArray) (n width : Int) (_hs : s.size ≤ maxLen) (_wn : (Lit.int .u64 n).wf = true) (_ww : (Lit.int .i64 width).wf = true) (w : World) :
    Calls Try.prog 7 #[.string s, .int .u64 n, .int .i64 width] w fun e w' => e = .returned (.bool true) ∧ Below w.heap.size w w' := by
  by_cases hs : 300 < s.size
  · exact stays_long s n width w hs
  · refine stays_core s n width w (by omega) (numS s 0 width).1 (numS s 0 width).2.1 (numS s 0 width).2.2 (textS s 0 3).1 (textS s 0 3).2.1 (textS s 0 3).2.2 (wnumS n width).1 (wnumS n width).2 rfl rfl rfl ?_ ?_ (wnumS_cases n width)
    · rcases numS_cases s 0 width with h | h
      · refine Or.inl ⟨h.1, ?_, by omega, h.2.1, h.2.2.1⟩
        rw [bne_eq_false_iff_eq]; omega
      · exact Or.inr ⟨h.1, h.2.1⟩
    · exact textS_cases s 0 3
end Go.Proofs.Ytglpdchdkabajaa
