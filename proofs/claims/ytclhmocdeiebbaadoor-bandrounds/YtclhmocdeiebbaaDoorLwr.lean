/-
  BandRounds, walked: it tells true of any band and any number.
-/
import Derived.Test.YtclhmocdeiebbaaDoorRef
import Derived.Test.YtclhmocdeiebbaaDoorMta
namespace Go.Proofs.YtclhmocdeiebbaaDoor
open Go.RowKit

theorem atS_succ (l : List Int) (i : Nat) (h : 0 < l.length) : atS l (i + 1) = l[i % l.length]'(Nat.mod_lt _ h) := by
  unfold atS
  rw [if_neg (by omega), Nat.add_sub_cancel, List.getD_eq_getElem?_getD, List.getElem?_eq_getElem (Nat.mod_lt _ h), Option.getD_some]

set_option maxRecDepth 100000 in
set_option maxHeartbeats 2000000 in
theorem rounds_any (b : Nat) (hb : b < lim) (n : Int) (w : World) (hT : Tab w) :
    Calls Tryd.prog 5 #[.int .u64 b, .int .i64 n] w fun e w' => e = .returned (.bool true) ∧ Below w.heap.size w w' := by
  have h0 := hT.lt
  have hlen : (lst b).length ≤ 64 := by rw [lst_length]; exact many_le b
  have hl0 : (lst b).length = 0 → nextS b n = (0, false) := by
    intro h
    have := (lst_nil hb).1 (List.length_eq_zero_iff.1 h)
    rw [this]; exact next_zero n
  have hnx := fun w hT => next_any b hb n w hT
  have hna := fun (i : Nat) (h : 0 < (lst b).length) (w : World) (hT : Tab w) => next_any b hb (atS (lst b) i) w hT
  have hnb := fun (i : Nat) (h : 0 < (lst b).length) => next_at (b := b) i h
  go_enter Tryd.func5, Tryd.ntmps5
  go_wp2_with fail
  refine (rlist_any b hb w).mono ?_
  rintro e w1 ⟨v, rfl, hR, hB⟩
  have T1 := hT.below h0 hB
  generalize lst b = l at *
  obtain ⟨a, cap, rfl, hl⟩ := hR
  rcases Nat.eq_zero_or_pos l.length with hz | hp
  · have hx := hnx w1 T1
    rw [hl0 hz] at hx
    clear hna hnb hl
    rw [hz]
    go_wp2_with fail
    refine hx.mono ?_
    rintro e w2 ⟨rfl, hB2⟩
    have hB2' := hB.trans (hB2.mono hB.size)
    go_wp2_with fail
    refine (shown_any _ (hT.below h0 hB2')).mono ?_
    rintro e w3 ⟨rfl, hB3⟩
    go_wp2_with fail
    go_ret
    exact ⟨rfl, hB2'.trans (hB3.mono hB2'.size)⟩
  · clear hl0 hnx
    rcases hl with hl | ⟨g, o, rfl, hl⟩
    · omega
    have hq : ((l.length : Int) == 0) = false := by rw [beq_eq_false_iff_ne]; omega
    have hw2 : wrap64 (2 * (l.length : Int)) = 2 * (l.length : Int) := by unfold wrap64; omega
    go_wp2_with fail
    go_loopg [8, 9] (2 * l.length) (fun gk t8 t9 wr => ∃ i : Nat, i + gk = 2 * l.length ∧ t9 = .int .i64 i ∧ t8 = .int .i64 (atS l i) ∧ Below w1.heap.size w1 wr)
    case atStart => exact ⟨0, by omega, rfl, rfl, Below.refl _ _⟩
    case round =>
      obtain ⟨i, hi, rfl, rfl, hB1⟩ := hrel
      have hBr := hB.trans (hB1.mono hB.size)
      have Tr := hT.below h0 hBr
      by_cases hlt : (i : Int) < 2 * (l.length : Int)
      · have hx := hna i hp wr Tr
        rw [hnb i hp] at hx
        have hsu := atS_succ l i hp
        have hml : i % l.length < l.length := Nat.mod_lt _ hp
        have c := hl _ hml
        have hgl : g < w1.heap.size := World.block_lt_of_cell? _ _ c
        have cr := (World.cell?_of_block (w := w1) (w' := wr) (a := ⟨g, o + i % l.length, none⟩) (hB1.block g hgl)).trans c
        have hx2 : Calls Tryd.prog 13 #[.int .u64 b, .int .i64 (atS l i)] wr fun e w' => e = .returned (.tuple #[.int .i64 l[i % l.length], .bool true]) ∧ Below wr.heap.size wr w' ∧ w'.cell? ⟨g, o + i % l.length, none⟩ = some (.int .i64 l[i % l.length]) :=
          hx.mono fun e w' ⟨he, hb'⟩ => ⟨he, hb', (World.cell?_of_block (w := wr) (w' := w') (a := ⟨g, o + i % l.length, none⟩) (hb'.block g (Nat.lt_of_lt_of_le hgl hB1.size))).trans cr⟩
        have hmi : (i : Int) % (l.length : Int) = ((i % l.length : Nat) : Int) := by simp
        have hml2 : ((i % l.length : Nat) : Int) < (l.length : Int) := by omega
        clear hl c cr hx hna hnb
        generalize l[i % l.length] = x at *
        generalize i % l.length = m at *
        generalize atS l i = y at *
        go_wp2_with fail
        refine hx2.mono ?_
        rintro e w2 ⟨rfl, hB2, cr2⟩
        go_wp2_with fail
        go_roundg (gk - 1)
        case rel => exact ⟨i + 1, by omega, by go_num, by rw [hsu], hB1.trans (hB2.mono hB1.size)⟩
        case measure => omega
      · clear hl hna hnb
        go_wp2_with fail
        refine (shown_any _ Tr).mono ?_
        rintro e w3 ⟨rfl, hB3⟩
        go_wp2_with fail
        go_ret
        exact ⟨rfl, hBr.trans (hB3.mono hBr.size)⟩

end Go.Proofs.YtclhmocdeiebbaaDoor
