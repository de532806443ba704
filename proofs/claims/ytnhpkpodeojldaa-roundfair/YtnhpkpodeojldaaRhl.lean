/-
  Helpers; shown.
-/
import Derived.Test.YtnhpkpodeojldaaRdl
import Derived.Test.YtnhpkpodeojldaaRjn
namespace Go.Proofs.Ytnhpkpodeojldaa
open Go.RowKit

set_option maxHeartbeats 400000 in
theorem deln_any (cap : Nat) (F : FuncId) (caps : Array Value) (w : World) :
    Calls Try.prog 38 #[.slice none 0 cap, .func (.func F) #[] caps] w fun e w' => e = .returned (.slice none 0 cap) ∧ w' = w := by
  have hI : Calls Try.prog 49 #[.slice none 0 cap, .func (.func F) #[] caps] w fun e w' => e = .returned (.int .i64 (-1)) ∧ w' = w := by
    go_enter Try.func49, Try.ntmps49
    go_wp2_with fail
    go_loopg [8] 0 (fun gk t8 wr => t8 = .int .i64 0 ∧ wr = w)
    case atStart => exact ⟨rfl, rfl⟩
    case round =>
      obtain ⟨rfl, rfl⟩ := hrel
      go_wp2_with fail
      go_ret
      exact ⟨rfl, rfl⟩
  go_enter Try.func38, Try.ntmps38
  go_wp2_with fail
  refine hI.mono ?_
  rintro e w1 ⟨rfl, rfl⟩
  go_wp2_with fail
  go_ret
  exact ⟨rfl, rfl⟩

/-- A copy, and what is deleted of it. -/
theorem delc_any (B : Nat) (v : Value) (s : List Int) (x : Int) (bx : Nat) (w : World) (hs : s.length ≤ 1000000) (hv : w.ownsRow B 3 1 v s.length (s.map (Value.int .i64))) (hbx : w.heap[bx]? = some (.cells #[.int .i64 x] 3 (0, 0))) (hlt : bx < B) :
    Calls Try.prog 38 #[v, .func (.func 40) #[] #[.pointer (some ⟨bx, 0, none⟩)]] w fun e w' => (∃ a c, e = .returned (.slice a (s.filter (fun y => !decide (y = x))).length c) ∧ Rd .i64 (.slice a (s.filter (fun y => !decide (y = x))).length c) (s.filter (fun y => !decide (y = x))) w' ∧ ∀ g, (Value.slice a 0 0).ownBlock = some g → B ≤ g ∧ g < w'.heap.size) ∧ Below B w w' := by
  rcases Wn.of hv with ⟨rfl, rfl⟩ | ⟨g, cap, rfl, hg, hgz, h1, h2, hW⟩
  · refine (deln_any 0 _ _ w).mono ?_
    rintro e w1 ⟨rfl, rfl⟩
    exact ⟨⟨none, 0, rfl, Rd.nil _ _, fun g hg => by cases hg⟩, Below.refl _ _⟩
  · refine (delete_any g cap s 40 #[.pointer (some ⟨bx, 0, none⟩)] (fun y => decide (y = x)) w hs h1 h2 hW (enter_of Try.func40 (by kernel_rfl) rfl) (fun y w' hb => isnot_any bx y x w' ((hb.block bx (by omega)).trans hbx))).mono ?_
    rintro e w1 ⟨⟨a, c, rfl, hR, rfl⟩, hb⟩
    exact ⟨⟨_, c, rfl, hR, fun g' hg' => by cases hg'; exact ⟨hg, Nat.lt_of_lt_of_le hgz hb.size⟩⟩, hb.mono hg⟩

theorem helpS_ok (o : List Int) (x n : Int) {l : List Int} (h : Ok l) : Ok (helpS o x n l).2 := someS_ok _ _ h

set_option maxHeartbeats 1000000 in
theorem help_any (Bp p : Nat) (v : Value) (o l : List Int) (x n : Int) (w : World) (hol : o.length ≤ 1000000) (hn : n < 9223372036854775808) (hv : Rd .i64 v o w) (hL : Lt Bp p l w) (hok : Ok l) :
    Calls Try.prog 16 #[v, .int .i64 x, .int .i64 n, .pointer (some ⟨p, 0, none⟩)] w fun e w' => (∃ v', e = .returned v' ∧ Rd .i64 v' (helpS o x n l).1 w' ∧ ∀ g, v'.ownBlock = some g → w.heap.size ≤ g ∧ g < w'.heap.size) ∧ Lt Bp p (helpS o x n l).2 w' ∧ But w.heap.size p w w' := by
  have ba := below_alloc w (.cells #[.int .i64 x] 3)
  have hbx := heap_alloc_new w (.cells #[.int .i64 x] 3)
  have hL1 := hL.below ba
  have hv1 := hv.below ba
  obtain ⟨w1, HW1⟩ : ∃ w1, Hid (w1 = w.alloc (.cells #[.int .i64 x] 3)) := ⟨_, rfl⟩
  rw [← HW1.out] at ba hbx hL1 hv1
  have hlt : w.heap.size < w1.heap.size := (Array.getElem?_eq_some_iff.1 hbx).1
  have hfl : (o.filter (fun y => !decide (y = x))).length ≤ 1000000 := Nat.le_trans (List.length_filter_le _ _) hol
  unfold helpS
  have hdel := fun w' v' h1 h2 => delc_any w1.heap.size v' o x w.heap.size w' hol h1 h2 hlt
  have hv' := hv
  obtain ⟨va, vcap, rfl, _⟩ := hv'
  generalize o.filter (fun y => !decide (y = x)) = f at *
  go_enter Try.func16, Try.ntmps16
  go_upto_region 1 with fail
  rw [← HW1.out]
  go_wp2_with fail
  refine (cloneI_any _ o w1 hol hv1).mono ?_
  rintro e w2 ⟨v2, rfl, hown, hb2⟩
  have hbx2 := (hb2.block _ hlt).trans hbx
  have hL2 := hL1.below hb2
  go_wp2_with fail
  refine (hdel w2 v2 hown hbx2).mono ?_
  rintro e w3 ⟨⟨a3, c3, rfl, hR3, hg3⟩, hb3⟩
  have hz2 := hb2.size
  have hz3 := hb3.size
  have hL3 : Lt Bp p l w3 := hL2.keep fun g _ hg => hb3.block g (by have := hL1.lt; omega)
  go_wp2_with fail
  refine (some_any Bp p _ f l n w3 hfl hn hR3 hL3 hok).mono ?_
  rintro e w4 ⟨⟨v4, rfl, hR4, hg4⟩, hL4, hB4⟩
  obtain ⟨a4, cap4, e4, _⟩ := id hR4
  subst e4
  go_wp2_with fail
  go_ret
  have hb13 : Below w.heap.size w w3 := (ba.trans (hb2.mono (Nat.le_of_lt hlt))).trans (hb3.mono (Nat.le_of_lt hlt))
  exact ⟨⟨_, rfl, hR4, fun g hg => ⟨by have := (hg4 g hg).1; omega, (hg4 g hg).2⟩⟩, hL4, (But.of hb13).trans (hB4.mono hb13.size)⟩

theorem rnext_any (Bp B q p : Nat) (v : Value) (s o l : List Int) (w : World) (hs : s.length ≤ 1000000) (hol : o.length ≤ 1000000) (hv : Rd .i64 v o w) (hvo : ∀ g, v.ownBlock = some g → g ≠ q) (hR : Rn 28 B q s w) (hL : Lt Bp p l w) (hok : Ok l) (hq : q < Bp ∨ p < q) (hp : p < B) :
    Calls Try.prog 11 #[.pointer (some ⟨q, 0, none⟩), v, .pointer (some ⟨p, 0, none⟩)] w fun e w' => e = .returned (.tuple #[.int .i64 (nxtS s o l).1.1, .bool (nxtS s o l).1.2]) ∧ Rn 28 B q (nxtS s o l).2.1 w' ∧ Lt Bp p (nxtS s o l).2.2 w' ∧ Mv q p w w' := by
  by_cases ho : o = []
  · subst ho
    rw [nxtS_nil]
    exact rnext_none Bp B q p v s l w hv hR hL
  · exact rnext_some Bp B q p v s o l w ho hs hol hv hvo hR hL hok hq hp

/-- A round in which nobody is left. -/
theorem Rn.new (T : TypeId) (B q : Nat) (w : World) (h : w.heap[q]? = some (.cells #[.slice none 0 0] T (0, 0))) (hq : q < B) (hB : B ≤ w.heap.size) : Rn T B q [] w :=
  ⟨⟨_, h, Rd.nil _ _, fun g hg => by cases hg⟩, hq, hB⟩
end Go.Proofs.Ytnhpkpodeojldaa
