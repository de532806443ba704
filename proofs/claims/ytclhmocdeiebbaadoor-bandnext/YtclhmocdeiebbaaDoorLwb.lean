/-
  BandBack, walked: it tells true of any band and any byte.
-/
import Derived.Test.YtclhmocdeiebbaaDoorRef
import Derived.Test.YtclhmocdeiebbaaDoorMta
namespace Go.Proofs.YtclhmocdeiebbaaDoor
open Go.RowKit

set_option maxRecDepth 100000 in
set_option maxHeartbeats 2000000 in
theorem back_any (b : Nat) (hb : b < lim) (n : Int) (hn0 : 0 ≤ n) (hn1 : n ≤ 255) (w : World) (hT : Tab w) :
    Calls Tryd.prog 6 #[.int .u64 b, .int .u8 n] w fun e w' => e = .returned (.bool true) ∧ Below w.heap.size w w' := by
  have h0 := hT.lt
  have hlen : (lst b).length ≤ 64 := by rw [lst_length]; exact many_le b
  have hpl := fun (i : Nat) (hi : i < (lst b).length) (w : World) (hT : Tab w) => place_any b hb (lst b)[i] w hT
  have hpa := fun (i : Nat) (hi : i < (lst b).length) => place_at b hi
  have hha := fun (i : Nat) (hi : i < (lst b).length) (w : World) => has_any b hb (lst b)[i] w
  have hhs := fun (i : Nat) (hi : i < (lst b).length) => mem_lst.1 (List.getElem_mem hi)
  have hof := fun v w h => of_any v (lst b) w (by omega) h
  rw [of_lst hb] at hof
  have hmn := fun w => many_any b hb w
  rw [← lst_length] at hmn
  obtain ⟨k, hk⟩ : ∃ k : Int, k = n % 64 := ⟨_, rfl⟩
  have c1 := fun w => less_any b hb k w
  have c2 := fun w => with_any (lessS b k) (lessS_lt hb k) k w
  rw [with_less hb k] at c2
  have c3 := fun w => with_any b hb k w
  have c4 := fun w => has_any (lessS b k) (lessS_lt hb k) k w
  rw [has_less] at c4
  generalize withS b k = x1 at *
  generalize lessS b k = x2 at *
  have hk0 : n % 64 = k := hk.symm
  clear hk
  go_enter Tryd.func6, Tryd.ntmps6
  go_wp2_with fail
  refine (list_rd b hb w hT).mono ?_
  rintro e w1 ⟨v, rfl, hR, hB⟩
  generalize lst b = l at *
  have hR0 := hR
  obtain ⟨a, cap, rfl, hl⟩ := hR
  go_wp2_with fail
  go_loopg [6] l.length (fun gk t6 wr => ∃ i : Nat, i + gk = l.length ∧ t6 = .int .i64 i ∧ Below w1.heap.size w1 wr)
  case atStart => exact ⟨0, by omega, rfl, Below.refl _ _⟩
  case round =>
    obtain ⟨i, hi, rfl, hB1⟩ := hrel
    have hBr := hB.trans (hB1.mono hB.size)
    have Tr := hT.below h0 hBr
    by_cases hlt : (i : Int) < l.length
    · have hil : i < l.length := by omega
      have hpl := hpl i hil wr Tr
      have hpa := hpa i hil
      have hha := hha i hil
      rw [hhs i hil] at hha
      rw [hpa] at hpl
      rcases hl with hl | ⟨g, o, rfl, hl⟩
      · omega
      have c := hl i hil
      have hgl : g < w1.heap.size := World.block_lt_of_cell? _ _ c
      have cr := (World.cell?_of_block (w := w1) (w' := wr) (a := ⟨g, o + i, none⟩) (hB1.block g hgl)).trans c
      have hpl2 : Calls Tryd.prog 30 #[.int .u64 b, .int .i64 l[i]] wr fun e w' => e = .returned (.int .i64 (i : Int)) ∧ Below wr.heap.size wr w' ∧ w'.cell? ⟨g, o + i, none⟩ = some (.int .i64 l[i]) :=
        hpl.mono fun e w' ⟨he, hb'⟩ => ⟨he, hb', (World.cell?_of_block (w := wr) (w' := w') (a := ⟨g, o + i, none⟩) (hb'.block g (Nat.lt_of_lt_of_le hgl hB1.size))).trans cr⟩
      clear hl c hpl hpa hhs hof c1 c2 c3 c4 hR0
      generalize l[i] = x at *
      go_wp2_with fail
      refine hpl2.mono ?_
      rintro e w2 ⟨rfl, hB2, cr2⟩
      go_wp2_with fail
      refine (hha _).mono ?_
      rintro e w3 ⟨rfl, hw3⟩
      subst hw3
      go_wp2_with fail
      go_roundg (gk - 1)
      case rel => exact ⟨i + 1, by omega, by go_num, hB1.trans (hB2.mono hB1.size)⟩
      case measure => omega
    · have hof := hof _ wr (hR0.below hB1)
      clear hl hpl hpa hha hhs
      go_wp2_with fail
      refine (c1 _).mono ?_
      rintro e w3 ⟨rfl, hw3⟩
      subst hw3
      go_wp2_with fail
      refine (c2 _).mono ?_
      rintro e w3 ⟨rfl, hw3⟩
      subst hw3
      go_wp2_with fail
      refine hof.mono ?_
      rintro e w3 ⟨rfl, hw3⟩
      subst hw3
      go_wp2_with fail
      refine (hmn _).mono ?_
      rintro e w3 ⟨rfl, hw3⟩
      subst hw3
      go_wp2_with fail
      refine (c3 _).mono ?_
      rintro e w3 ⟨rfl, hw3⟩
      subst hw3
      go_wp2_with fail
      refine (c1 _).mono ?_
      rintro e w3 ⟨rfl, hw3⟩
      subst hw3
      go_wp2_with fail
      refine (c4 _).mono ?_
      rintro e w3 ⟨rfl, hw3⟩
      subst hw3
      go_wp2_with fail
      refine (shown_any _ Tr).mono ?_
      rintro e w3 ⟨rfl, hB3⟩
      go_wp2_with fail
      go_ret
      exact ⟨rfl, hBr.trans (hB3.mono hBr.size)⟩

end Go.Proofs.YtclhmocdeiebbaaDoor
