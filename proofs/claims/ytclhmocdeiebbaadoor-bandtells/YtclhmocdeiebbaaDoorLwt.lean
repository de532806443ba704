/-
  BandTells, walked: it tells true of any two bands, any number, and any list.
-/
import Derived.Test.YtclhmocdeiebbaaDoorRef
import Derived.Test.YtclhmocdeiebbaaDoorMta
namespace Go.Proofs.YtclhmocdeiebbaaDoor
open Go.RowKit

theorem chain {B : Nat} {a b c : World} (h : Below B a b) (hB : B ≤ a.heap.size) (k : Below b.heap.size b c) : Below B a c := h.trans (k.mono (Nat.le_trans hB h.size))

set_option maxRecDepth 100000 in
set_option maxHeartbeats 2000000 in
theorem tells_long (b o n : Int) (v : Value) (l : List Int) (w : World) (hT : Tab w) (hR : Rd v l w) (hl : 200 < l.length) :
    Calls Tryd.prog 3 #[.int .u64 b, .int .u64 o, .int .i64 n, v] w fun e w' => e = .returned (.bool true) ∧ Below w.heap.size w w' := by
  obtain ⟨a, cap, rfl, _⟩ := hR
  have hli : (200 : Int) < (l.length : Int) := by omega
  go_enter Tryd.func3, Tryd.ntmps3
  go_wp2_with fail
  refine (shown_any _ hT).mono ?_
  rintro e w1 ⟨rfl, hB⟩
  go_wp2_with fail
  go_ret
  exact ⟨rfl, hB⟩

set_option maxRecDepth 100000 in
set_option maxHeartbeats 4000000 in
theorem tells_short (b o : Nat) (hb : b < lim) (ho : o < lim) (n : Int) (v : Value) (l : List Int) (w : World) (hT : Tab w) (hR : Rd v l w) (hl : l.length ≤ 200) :
    Calls Tryd.prog 3 #[.int .u64 b, .int .u64 o, .int .i64 n, v] w fun e w' => e = .returned (.bool true) ∧ Below w.heap.size w w' := by
  have h0 := hT.lt
  have hlen : (lst b).length ≤ 1000000 := by have := many_le b; rw [lst_length]; omega
  have f1 := fun w hT => first_any b hb w hT
  have f2 := fun w => rfirst_any b hb w
  have n1 := fun w hT => next_any b hb n w hT
  have n2 := fun w => rnext_any b hb n w
  have o1 := fun w h => of_any v l w (by omega) h
  have o2 := fun w h => rof_any v l w (by omega) h
  have l1 := fun w hT => list_rd b hb w hT
  have l2 := fun w => rlist_any b hb w
  have ls := fun v u w h1 h2 => same_any v u (lst b) w hlen h1 h2
  have h1 := fun w => has_any b hb n w
  have h2 := fun w => rhas_any b hb n w
  have w1 := fun w => with_any b hb n w
  have w2 := fun w => rwith_any b hb n w
  have s1 := fun w => less_any b hb n w
  have s2 := fun w => rless_any b hb n w
  have m1 := fun w => many_any b hb w
  have m2 := fun w => rmany_any b hb w
  have j1 := fun w => major_any b o hb ho w
  have j2 := fun w => rmajor_any b o hb ho w
  have p1 := fun w hT => place_any b hb n w hT
  have p2 := fun w => rplace_any b hb n w
  generalize firstS b = fs at *
  obtain ⟨fx, fb⟩ := fs
  generalize nextS b n = ns at *
  obtain ⟨nx, nb⟩ := ns
  generalize ofS l = ol at *
  generalize hasS b n = hs at *
  generalize withS b n = ws at *
  generalize lessS b n = ss at *
  generalize manyS b = ms at *
  generalize majorS b o = js at *
  generalize placeS b n = ps at *
  clear hlen
  generalize lst b = lb at *
  dsimp only at f1 f2 n1 n2
  have hR0 := hR
  obtain ⟨a, cap, rfl, _⟩ := hR
  have hli : (l.length : Int) ≤ 200 := by omega
  go_enter Tryd.func3, Tryd.ntmps3
  go_wp2_with fail
  refine (shown_any _ hT).mono ?_
  rintro e wa ⟨rfl, B⟩
  have T := hT.below h0 B
  go_wp2_with fail
  refine (f1 _ T).mono ?_
  rintro e wb ⟨rfl, B'⟩
  have B := chain B (Nat.le_refl _) B'
  clear B'
  go_wp2_with fail
  refine (f2 _).mono ?_
  rintro e wc ⟨rfl, B'⟩
  have B := chain B (Nat.le_refl _) B'
  have T := hT.below h0 B
  clear B'
  go_wp2_with fail
  refine (n1 _ T).mono ?_
  rintro e wd ⟨rfl, B'⟩
  have B := chain B (Nat.le_refl _) B'
  clear B'
  go_wp2_with fail
  refine (n2 _).mono ?_
  rintro e we ⟨rfl, B'⟩
  have B := chain B (Nat.le_refl _) B'
  have T := hT.below h0 B
  have R := hR0.below B
  clear B'
  go_wp2_with fail
  refine (o1 _ R).mono ?_
  rintro e wf ⟨rfl, hwf⟩
  subst hwf
  go_wp2_with fail
  refine (o2 _ R).mono ?_
  rintro e wf ⟨rfl, hwf⟩
  subst hwf
  go_wp2_with fail
  refine (l1 _ T).mono ?_
  rintro e wg ⟨v1, rfl, R1, B'⟩
  have B := chain B (Nat.le_refl _) B'
  clear B'
  go_wp2_with fail
  refine (l2 _).mono ?_
  rintro e wh ⟨v2, rfl, R2, B'⟩
  have R1 := R1.below B'
  have B := chain B (Nat.le_refl _) B'
  clear B'
  go_wp2_with fail
  refine (ls _ _ _ R1 R2).mono ?_
  rintro e wi ⟨rfl, B'⟩
  have B := chain B (Nat.le_refl _) B'
  clear B' R1 R2
  go_wp2_with fail
  refine (h1 _).mono ?_
  rintro e wf ⟨rfl, hwf⟩
  subst hwf
  go_wp2_with fail
  refine (h2 _).mono ?_
  rintro e wf ⟨rfl, hwf⟩
  subst hwf
  go_wp2_with fail
  refine (w1 _).mono ?_
  rintro e wf ⟨rfl, hwf⟩
  subst hwf
  go_wp2_with fail
  refine (w2 _).mono ?_
  rintro e wf ⟨rfl, hwf⟩
  subst hwf
  go_wp2_with fail
  refine (s1 _).mono ?_
  rintro e wf ⟨rfl, hwf⟩
  subst hwf
  go_wp2_with fail
  refine (s2 _).mono ?_
  rintro e wf ⟨rfl, hwf⟩
  subst hwf
  go_wp2_with fail
  refine (m1 _).mono ?_
  rintro e wf ⟨rfl, hwf⟩
  subst hwf
  go_wp2_with fail
  refine (m2 _).mono ?_
  rintro e wk ⟨rfl, B'⟩
  have B := chain B (Nat.le_refl _) B'
  clear B'
  go_wp2_with fail
  refine (j1 _).mono ?_
  rintro e wf ⟨rfl, hwf⟩
  subst hwf
  go_wp2_with fail
  refine (j2 _).mono ?_
  rintro e wl ⟨rfl, B'⟩
  have B := chain B (Nat.le_refl _) B'
  have T := hT.below h0 B
  clear B'
  go_wp2_with fail
  refine (p1 _ T).mono ?_
  rintro e wm ⟨rfl, B'⟩
  have B := chain B (Nat.le_refl _) B'
  clear B'
  go_wp2_with fail
  refine (p2 _).mono ?_
  rintro e wn ⟨rfl, B'⟩
  have B := chain B (Nat.le_refl _) B'
  clear B'
  go_wp2_with fail
  go_ret
  exact ⟨rfl, B⟩

end Go.Proofs.YtclhmocdeiebbaaDoor
