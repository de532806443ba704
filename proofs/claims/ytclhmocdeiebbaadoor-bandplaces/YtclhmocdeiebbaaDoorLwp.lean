/-
  BandPlaces, walked: it tells true of any band and any two numbers.
-/
import Derived.Test.YtclhmocdeiebbaaDoorRef
import Derived.Test.YtclhmocdeiebbaaDoorMta
namespace Go.Proofs.YtclhmocdeiebbaaDoor
open Go.RowKit

theorem below_chain {B : Nat} {a b c : World} (h : Below B a b) (hB : B ≤ a.heap.size) (k : Below b.heap.size b c) : Below B a c := h.trans (k.mono (Nat.le_trans hB h.size))

set_option maxHeartbeats 2000000 in
theorem places_at (b : Nat) (hb : b < lim) (n m : Int) (hnm : n ≤ m) (w : World) (hT : Tab w) (x y : Int) (hxy : (x ≤ y ∧ x = n ∧ y = m) ∨ (y < x ∧ x = m ∧ y = n)) (ho : m < 0 ∨ 63 < m) :
    Calls Tryd.prog 9 #[.int .u64 b, .int .i64 x, .int .i64 y] w fun e w' => e = .returned (.bool true) ∧ Below w.heap.size w w' := by
  have h0 := hT.lt
  have hno : nodeS m = false := by
    cases h : nodeS m
    · rfl
    · have := (nodeS_iff m).1 h; omega
  have hle : (placeS b n : Int) ≤ (placeS b m : Int) := by have := place_mono b hnm; omega
  have hw := fun w => with_any b hb m w
  rw [with_out b hno] at hw
  have hl := fun w => less_any b hb m w
  rw [less_out b hno] at hl
  have hh := fun w => has_any b hb m w
  rw [has_out b hno] at hh
  have p1 := fun w hT => place_any b hb n w hT
  have p2 := fun w hT => place_any b hb m w hT
  have p3 := fun w hT => place_any b hb 64 w hT
  have p4 := fun w hT => place_any b hb 0 w hT
  rw [place_64] at p3
  rw [place_0] at p4
  clear hno
  generalize placeS b n = pn at *
  generalize placeS b m = pm at *
  have hm := many_le b
  have hrm := fun w => rmany_any b hb w
  generalize manyS b = mb at *
  rcases hxy with ⟨hc, rfl, rfl⟩ | ⟨hc, rfl, rfl⟩
  all_goals rcases ho with ho | ho
  all_goals
    go_enter Tryd.func9, Tryd.ntmps9
    go_wp2_with fail
    refine (p1 _ hT).mono ?_
    rintro e w1 ⟨rfl, B1⟩
    have T1 := hT.below h0 B1
    go_wp2_with fail
    refine (p2 _ T1).mono ?_
    rintro e w2 ⟨rfl, B2⟩
    have B2 := below_chain B1 (Nat.le_refl _) B2
    have T2 := hT.below h0 B2
    go_wp2_with fail
    refine (hw _).mono ?_
    rintro e w3 ⟨rfl, hw3⟩
    subst hw3
    go_wp2_with fail
    refine (hl _).mono ?_
    rintro e w3 ⟨rfl, hw3⟩
    subst hw3
    go_wp2_with fail
    refine (hh _).mono ?_
    rintro e w3 ⟨rfl, hw3⟩
    subst hw3
    go_wp2_with fail
    refine (p3 _ T2).mono ?_
    rintro e w4 ⟨rfl, B4⟩
    have B4 := below_chain B2 (Nat.le_refl _) B4
    have T4 := hT.below h0 B4
    go_wp2_with fail
    refine (hrm _).mono ?_
    rintro e w5 ⟨rfl, B5⟩
    have B5 := below_chain B4 (Nat.le_refl _) B5
    have T5 := hT.below h0 B5
    go_wp2_with fail
    refine (p4 _ T5).mono ?_
    rintro e w6 ⟨rfl, B6⟩
    have B6 := below_chain B5 (Nat.le_refl _) B6
    have T6 := hT.below h0 B6
    go_wp2_with fail
    refine (shown_any _ T6).mono ?_
    rintro e w7 ⟨rfl, B7⟩
    have B7 := below_chain B6 (Nat.le_refl _) B7
    go_wp2_with fail
    go_ret
    exact ⟨rfl, B7⟩

set_option maxHeartbeats 2000000 in
theorem places_in (b : Nat) (hb : b < lim) (n m : Int) (hnm : n ≤ m) (w : World) (hT : Tab w) (x y : Int) (hxy : (x ≤ y ∧ x = n ∧ y = m) ∨ (y < x ∧ x = m ∧ y = n)) (h1 : 0 ≤ m) (h2 : m ≤ 63) :
    Calls Tryd.prog 9 #[.int .u64 b, .int .i64 x, .int .i64 y] w fun e w' => e = .returned (.bool true) ∧ Below w.heap.size w w' := by
  have h0 := hT.lt
  have hle : (placeS b n : Int) ≤ (placeS b m : Int) := by have := place_mono b hnm; omega
  have p1 := fun w hT => place_any b hb n w hT
  have p2 := fun w hT => place_any b hb m w hT
  have p3 := fun w hT => place_any b hb 64 w hT
  have p4 := fun w hT => place_any b hb 0 w hT
  rw [place_64] at p3
  rw [place_0] at p4
  generalize placeS b n = pn at *
  generalize placeS b m = pm at *
  have hm := many_le b
  have hrm := fun w => rmany_any b hb w
  generalize manyS b = mb at *
  rcases hxy with ⟨hc, rfl, rfl⟩ | ⟨hc, rfl, rfl⟩
  all_goals
    go_enter Tryd.func9, Tryd.ntmps9
    go_wp2_with fail
    refine (p1 _ hT).mono ?_
    rintro e w1 ⟨rfl, B1⟩
    have T1 := hT.below h0 B1
    go_wp2_with fail
    refine (p2 _ T1).mono ?_
    rintro e w2 ⟨rfl, B2⟩
    have B2 := below_chain B1 (Nat.le_refl _) B2
    have T2 := hT.below h0 B2
    go_wp2_with fail
    refine (p3 _ T2).mono ?_
    rintro e w4 ⟨rfl, B4⟩
    have B4 := below_chain B2 (Nat.le_refl _) B4
    have T4 := hT.below h0 B4
    go_wp2_with fail
    refine (hrm _).mono ?_
    rintro e w5 ⟨rfl, B5⟩
    have B5 := below_chain B4 (Nat.le_refl _) B5
    have T5 := hT.below h0 B5
    go_wp2_with fail
    refine (p4 _ T5).mono ?_
    rintro e w6 ⟨rfl, B6⟩
    have B6 := below_chain B5 (Nat.le_refl _) B6
    have T6 := hT.below h0 B6
    go_wp2_with fail
    refine (shown_any _ T6).mono ?_
    rintro e w7 ⟨rfl, B7⟩
    have B7 := below_chain B6 (Nat.le_refl _) B7
    go_wp2_with fail
    go_ret
    exact ⟨rfl, B7⟩

theorem places_any (b : Nat) (hb : b < lim) (x y : Int) (w : World) (hT : Tab w) :
    Calls Tryd.prog 9 #[.int .u64 b, .int .i64 x, .int .i64 y] w fun e w' => e = .returned (.bool true) ∧ Below w.heap.size w w' := by
  have key : ∀ n m : Int, n ≤ m → ((x ≤ y ∧ x = n ∧ y = m) ∨ (y < x ∧ x = m ∧ y = n)) → Calls Tryd.prog 9 #[.int .u64 b, .int .i64 x, .int .i64 y] w fun e w' => e = .returned (.bool true) ∧ Below w.heap.size w w' := by
    intro n m hnm hxy
    by_cases ho : m < 0 ∨ 63 < m
    · exact places_at b hb n m hnm w hT x y hxy ho
    · exact places_in b hb n m hnm w hT x y hxy (by omega) (by omega)
  by_cases h : x ≤ y
  · exact key x y h (Or.inl ⟨h, rfl, rfl⟩)
  · exact key y x (by omega) (Or.inr ⟨by omega, rfl, rfl⟩)

end Go.Proofs.YtclhmocdeiebbaaDoor
