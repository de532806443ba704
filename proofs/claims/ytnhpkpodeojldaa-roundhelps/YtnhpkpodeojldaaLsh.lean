/-
  shuffled, Shuffle, Some, Same, shown.
-/
import Derived.Test.YtnhpkpodeojldaaLcl
namespace Go.Proofs.Ytnhpkpodeojldaa
open Go.RowKit

theorem shufGo_step (J : Nat) (hJ : 1 ≤ J) (s l : List Int) : shufGo J s l = shufGo (J - 1) (sw s J (belowS l ((J : Int) + 1)).1.toNat) (belowS l ((J : Int) + 1)).2 := by
  obtain ⟨i, rfl⟩ : ∃ i, J = i + 1 := ⟨J - 1, by omega⟩
  have e : ((i + 1 : Nat) : Int) + 1 = (i : Int) + 2 := by omega
  rw [e, shufGo]
  rfl
theorem sw_eq (s : List Int) (i k : Nat) (hi : i < s.length) (hk : k < s.length) : (s.set i s[k]).set k s[i] = sw s i k := by
  simp [sw, List.getD, List.getElem?_eq_getElem hi, List.getElem?_eq_getElem hk]

set_option maxHeartbeats 1000000 in
theorem shuffled_any (B p : Nat) (v : Value) (s l : List Int) (w : World) (hs : s.length ≤ 1000000) (hv : Rd .i64 v s w) (h : Lt B p l w) (hl : Ok l) :
    Calls Try.prog 46 #[v, .func (.func 36) #[.pointer (some ⟨p, 0, none⟩)] #[]] w fun e w' => (∃ v', e = .returned v' ∧ Rd .i64 v' (shufS s l).1 w' ∧ ∀ g, v'.ownBlock = some g → w.heap.size ≤ g ∧ g < w'.heap.size) ∧ Lt B p (shufS s l).2 w' ∧ But w.heap.size p w w' := by
  go_enter Try.func46, Try.ntmps46
  go_wp2_with fail
  refine (cloneI_any v s _ hs hv).mono ?_
  rintro e w1 ⟨u, rfl, hown, hb⟩
  have h1 := h.below hb
  have hz := hb.size
  rcases Wn.of hown with ⟨rfl, rfl⟩ | ⟨g, cap, rfl, hg1, hg2, hc1, hc2, hw⟩
  · go_wp2_with fail
    go_loopg [6] 0 (fun gk t6 wr => t6 = .int .i64 (-1) ∧ wr = w1)
    case atStart => exact ⟨rfl, rfl⟩
    case round =>
      obtain ⟨rfl, rfl⟩ := hrel
      go_wp2_with fail
      go_ret
      exact ⟨⟨_, rfl, Rd.nil _ _, fun g hg => by cases hg⟩, h1, But.of hb⟩
  · have hpz := h.lt
    clear hown hv h
    go_wp2_with fail
    go_loopg [6] s.length (fun gk t6 wr => ∃ (j : Int) (s' l' : List Int), t6 = .int .i64 j ∧ j ≤ gk ∧ -1 ≤ j ∧ j < s.length ∧ s'.length = s.length ∧ Ok l' ∧ shufGo j.toNat s' l' = shufS s l ∧ Wn .i64 g s' wr ∧ Lt B p l' wr ∧ But w.heap.size p w wr ∧ w1.heap.size ≤ wr.heap.size)
    case atStart => exact ⟨(s.length : Int) - 1, s, l, rfl, by omega, by omega, by omega, rfl, hl, by rw [shufS]; congr 1; omega, hw, h1, But.of hb, Nat.le_refl _⟩
    case round =>
      obtain ⟨j, s', l', rfl, hj1, hj2, hj3, hsl, hok, hsh, hW, hL, hB, hZ⟩ := hrel
      by_cases hj : 0 < j
      · obtain ⟨J, rfl⟩ : ∃ J : Nat, j = J := ⟨j.toNat, by omega⟩
        have hst := shufGo_step J (by omega) s' l'
        have hr := belowS_range l' ((J : Int) + 1)
        obtain ⟨k, hk⟩ : ∃ k : Nat, (belowS l' ((J : Int) + 1)).1 = k := ⟨(belowS l' ((J : Int) + 1)).1.toNat, by omega⟩
        rw [hk] at hr hst
        have hkJ : k ≤ J := by have := hr.2 (by omega); omega
        have hkl : k < s'.length := by omega
        have hJl : J < s'.length := by omega
        have HST : Hid _ := hst
        have HK : Hid _ := hk
        clear hst hr hk
        go_wp2_with fail
        refine (below_any B p l' ((J : Int) + 1) _ hL hok (by omega)).mono ?_
        rw [HK.out]
        rintro e w2 ⟨rfl, hL2, hB2⟩
        have hgp : g ≠ p := by omega
        have hW2 := hW.keep (hB2.block g (by omega) hgp)
        have c1 := hW2.cell J hJl
        have c2 := hW2.cell k hkl
        have f1 := hW2.free J hJl
        have f2 := hW2.free k hkl
        have i0 : (0 : Int) ≤ J := by omega
        have i1 : (J : Int) < s.length := by omega
        have i2 : (0 : Int) ≤ k := by omega
        have i3 : (k : Int) < s.length := by omega
        go_wp2_with fail
        have hW3 := (hW2.set J hJl s'[k]).set k (by rw [List.length_set]; exact hkl) s'[J]
        rw [sw_eq s' J k hJl hkl] at hW3
        have HW3 : Hid _ := hW3
        clear hW3
        have c3 := (hW2.set J hJl s'[k]).cell k (by rw [List.length_set]; exact hkl)
        generalize (s'.set J s'[k])[k]'(by rw [List.length_set]; exact hkl) = y at c3
        generalize s'[k] = x1 at *
        generalize s'[J] = x2 at *
        go_region
        all_goals go_wp2_with fail
        all_goals go_roundg (gk - 1)
        case rel =>
          refine ⟨(J : Int) - 1, sw s' J k, (belowS l' ((J : Int) + 1)).2, by go_num, by omega, by omega, by omega, by rw [sw_length]; exact hsl, hok.below _, ?_, HW3.out.drew, ?_, ?_, ?_⟩
          · rw [show ((J : Int) - 1).toNat = J - 1 by omega, ← hsh]
            exact HST.out.symm
          · exact hL2.keep fun q _ hq => (Below.heap_setCell _ _ _ _ (show q ≠ g by omega)).trans (Below.heap_setCell _ _ _ _ (show q ≠ g by omega))
          · exact (((hB.trans (hB2.mono hB.size)).setCell (q := ⟨g, J, none⟩) (Or.inr hg1) _).setCell (q := ⟨g, k, none⟩) (Or.inr hg1) _).drew
          · have := hB2.size
            show _ ≤ ((w2.setCell _ _).setCell _ _).heap.size
            simp [World.setCell]
            omega
        case measure => omega
      · go_wp2_with fail
        go_ret
        have e0 : j.toNat = 0 := by omega
        rw [e0, shufGo] at hsh
        rw [← hsh, ← hsl]
        refine ⟨⟨_, rfl, hW.rd (by omega) hc2, fun g' hg' => by cases hg'; exact ⟨hg1, show g < wr.heap.size by omega⟩⟩, hL, hB⟩

end Go.Proofs.Ytnhpkpodeojldaa
