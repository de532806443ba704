/-
  The reference's Shuffle, Some.
-/
import Derived.Test.YtnhpkpodeojldaaLrf
namespace Go.Proofs.Ytnhpkpodeojldaa
open Go.RowKit

/-- What Shuffle's loop does, once the copy lies in a row. -/
structure Res (w : World) (v : Value) (l : List Int) (w' : World) : Prop where
  rd : Rd .i64 v l w'
  own : ∀ g, v.ownBlock = some g → w.heap.size ≤ g ∧ g < w'.heap.size

theorem Wn.of' {k : IntKind} {E : TypeId} {B : Nat} {v : Value} {l : List Int} {w : World} (h : w.ownsRow B E 1 v (0 + l.length) ([] ++ l.map (Value.int k))) (hn : v ≠ .slice none 0 0) :
    ∃ g cap, v = .slice (some ⟨g, 0, none⟩) l.length cap ∧ B ≤ g ∧ g < w.heap.size ∧ l.length ≤ cap ∧ cap ≤ maxLen ∧ Wn k g l w := by
  rw [Nat.zero_add, List.nil_append] at h
  rcases Wn.of h with ⟨e, _⟩ | h
  · exact absurd e hn
  · exact h

set_option maxHeartbeats 1000000 in
theorem fshuffle_any (w0 : World) (q : Nat) (a : Option Addr) (cap : Nat) (l m : List Int) (v : Value) (s : List Int) (w : World) (hl : l.length ≤ 1000000) (hR : Rd .u64 (.slice a l.length cap) l w0) (h : Lf w0 q (.slice a l.length cap) l m w) (hm : Ok m) (hs : s.length ≤ 1000000) (hv : Rd .i64 v s w) :
    Calls Try.prog 33 #[.pointer (some ⟨q, 0, none⟩), v] w fun e w' => (∃ v', e = .returned v' ∧ Res w v' (shufS s m).1 w') ∧ Lf w0 q (.slice a l.length cap) l (shufS s m).2 w' ∧ But w.heap.size q w w' := by
  obtain ⟨i0, hi, hz0, hz1, hz2⟩ := info_parts Try.infoInt
  have hv' := hv
  obtain ⟨va, vcap, rfl, hv1, hv2, hv3, _⟩ := hv'
  cases va with
  | none =>
    obtain rfl := hv3 rfl
    obtain rfl := List.length_eq_zero_iff.1 (Nat.le_zero.1 hv1)
    go_enter Try.func33, Try.ntmps33
    go_wp2_with (at_builtin; refine wpList_append_own_none rfl (.tmp 10) (.tmp 11) 26 rfl w.heap.size 3 i0 1 Try.underlying26 hi _ 0 [] rfl (World.ownsRow_made w #[] 0 (Nat.le_refl _) (Nat.zero_le _) rfl) rfl ?_)
    go_loopg [6] 0 (fun gk t6 wr => t6 = .int .i64 (-1) ∧ wr = w.alloc (.cells #[] 3))
    case atStart => exact ⟨rfl, rfl⟩
    case round =>
      obtain ⟨rfl, rfl⟩ := hrel
      go_wp2_with fail
      go_ret
      have hb : Below w.heap.size w (w.alloc (.cells #[] 3)) := (Below.refl _ _).alloc (Nat.le_refl _) _
      refine ⟨⟨_, rfl, ⟨_, 0, rfl, Nat.le_refl _, Nat.zero_le _, (fun e => by cases e), Or.inl rfl⟩, fun g hg => ?_⟩, h.later hb, But.of hb⟩
      cases hg
      exact ⟨Nat.le_refl _, by simp⟩
  | some ad =>
    have hc := hv.cells
    have hc2 : ∀ (j : Nat) (u : Value), (s.map (Value.int .i64))[j]? = some u → (w.alloc (.cells #[] 3)).cell? (ad.add j) = some u := fun j u hu => (World.cell?_of_block (w := w) (Below.heap_alloc _ _ _ (World.block_lt_of_cell? _ _ (hc j u hu)))).trans (hc j u hu)
    clear hc hv hv3
    go_enter Try.func33, Try.ntmps33
    go_wp2_with (at_builtin; refine wpList_append_own _ rfl (.tmp 10) (.tmp 11) 26 rfl w.heap.size 3 i0 (.int .i64 0) 1 8 Try.underlying26 hi hz0 hz1 hz2 rfl (by decide) _ 0 [] rfl (World.ownsRow_made w #[] 0 (Nat.le_refl _) (Nat.zero_le _) rfl) ad s.length vcap (s.map (Value.int .i64)) rfl (by simp) hc2 (oneCells .i64 s) (by unfold maxLen; omega) (by omega) (by simp) ?_; intro v w1 hown hgr hnil; obtain ⟨g, gcap, rfl, hg1, hg2, hc1, hc3, hw⟩ := Wn.of' hown (fun e => by have := hnil.1 e; cases this.1))
    have hb : Below w.heap.size w w1 := ((Below.refl _ w).alloc (Nat.le_refl _) _).grown hgr (by simp) (fun k hk => by cases hk; exact Nat.le_refl _)
    have h1 := h.later hb
    have hz := hb.size
    have hpz := h.lt
    clear hown hgr hnil hc2 h
    go_loopg [6] s.length (fun gk t6 wr => ∃ (j : Int) (s' l' : List Int), t6 = .int .i64 j ∧ j ≤ gk ∧ -1 ≤ j ∧ j < s.length ∧ s'.length = s.length ∧ Ok l' ∧ shufGo j.toNat s' l' = shufS s m ∧ Wn .i64 g s' wr ∧ Lf w0 q (.slice a l.length cap) l l' wr ∧ But w.heap.size q w wr ∧ w1.heap.size ≤ wr.heap.size)
    case atStart => exact ⟨(s.length : Int) - 1, s, m, rfl, by omega, by omega, by omega, rfl, hm, by rw [shufS]; congr 1; omega, hw, h1, But.of hb, Nat.le_refl _⟩
    case round =>
      obtain ⟨j, s', l', rfl, hj1, hj2, hj3, hsl, hok, hsh, hW, hL, hB, hZ⟩ := hrel
      by_cases hj : 1 ≤ j
      · obtain ⟨J, rfl⟩ : ∃ J : Nat, j = J := ⟨j.toNat, by omega⟩
        have hst := shufGo_step J (by omega) s' l'
        have hr := belowS_range l' ((J : Int) + 1)
        obtain ⟨k, hk⟩ : ∃ k : Nat, (belowS l' ((J : Int) + 1)).1 = k := ⟨(belowS l' ((J : Int) + 1)).1.toNat, by omega⟩
        rw [hk] at hr hst
        have hkJ : k ≤ J := by have := hr.2 (by omega); omega
        have hkl : k < s'.length := by omega
        have hJl : J < s'.length := by omega
        have HST : Hid _ := hst
        have HK : Hid _ := hk
        clear hst hr hk
        go_wp2_with fail
        refine (fbelow_any w0 q a cap l l' ((J : Int) + 1) _ hl hR hL hok (by omega)).mono ?_
        rw [HK.out]
        rintro e w2 ⟨rfl, hL2, hB2⟩
        have hgp : g ≠ q := by omega
        have hW2 := hW.keep (hB2.block g (by omega) hgp)
        have c1 := hW2.cell J hJl
        have c2 := hW2.cell k hkl
        have f1 := hW2.free J hJl
        have f2 := hW2.free k hkl
        have i0 : (0 : Int) ≤ J := by omega
        have i1 : (J : Int) < s.length := by omega
        have i2 : (0 : Int) ≤ k := by omega
        have i3 : (k : Int) < s.length := by omega
        have hW3 := (hW2.set J hJl s'[k]).set k (by rw [List.length_set]; exact hkl) s'[J]
        rw [sw_eq s' J k hJl hkl] at hW3
        have HW3 : Hid _ := hW3
        clear hW3
        have c3 := (hW2.set J hJl s'[k]).cell k (by rw [List.length_set]; exact hkl)
        generalize (s'.set J s'[k])[k]'(by rw [List.length_set]; exact hkl) = y at c3
        generalize s'[k] = x1 at *
        generalize s'[J] = x2 at *
        go_wp2_with fail
        go_roundg (gk - 1)
        case rel =>
          refine ⟨(J : Int) - 1, sw s' J k, (belowS l' ((J : Int) + 1)).2, by go_num, by omega, by omega, by omega, by rw [sw_length]; exact hsl, hok.below _, ?_, HW3.out, ?_, ?_, ?_⟩
          · rw [show ((J : Int) - 1).toNat = J - 1 by omega, ← hsh]
            exact HST.out.symm
          · exact hL2.keep ((Below.heap_setCell _ _ _ _ (show q ≠ g by omega)).trans (Below.heap_setCell _ _ _ _ (show q ≠ g by omega))) (((Below.refl _ _).setCell (p := ⟨g, J, none⟩) (show w0.heap.size ≤ g by have := hL.le; omega) _).setCell (p := ⟨g, k, none⟩) (show w0.heap.size ≤ g by have := hL.le; omega) _)
          · exact ((hB.trans (hB2.mono hB.size)).setCell (q := ⟨g, J, none⟩) (Or.inr hg1) _).setCell (q := ⟨g, k, none⟩) (Or.inr hg1) _
          · have := hB2.size
            simp [World.setCell]
            omega
        case measure => omega
      · go_wp2_with fail
        go_ret
        have e0 : j.toNat = 0 := by omega
        rw [e0, shufGo] at hsh
        rw [← hsh, ← hsl]
        refine ⟨⟨_, rfl, hW.rd (by omega) hc3, fun g' hg' => by cases hg'; exact ⟨hg1, show g < wr.heap.size by omega⟩⟩, hL, hB⟩

set_option maxHeartbeats 400000 in
theorem fsome_any (w0 : World) (q : Nat) (a : Option Addr) (cap : Nat) (l m : List Int) (v : Value) (s : List Int) (n : Int) (w : World) (hl : l.length ≤ 1000000) (hR : Rd .u64 (.slice a l.length cap) l w0) (h : Lf w0 q (.slice a l.length cap) l m w) (hm : Ok m) (hs : s.length ≤ 1000000) (hn : n < 9223372036854775808) (hv : Rd .i64 v s w) :
    Calls Try.prog 42 #[.pointer (some ⟨q, 0, none⟩), v, .int .i64 n] w fun e w' => (∃ v', e = .returned v' ∧ Res w v' (someS s m n).1 w') ∧ Lf w0 q (.slice a l.length cap) l (someS s m n).2 w' ∧ But w.heap.size q w w' := by
  by_cases h1 : n < 1
  · have e : someS s m n = ([], m) := by unfold someS; rw [if_pos h1]
    rw [e]
    go_enter Try.func42, Try.ntmps42
    go_wp2_with fail
    go_ret
    have hb : Below w.heap.size w (w.alloc (.cells #[] 3)) := (Below.refl _ _).alloc (Nat.le_refl _) _
    refine ⟨⟨_, rfl, ⟨_, 0, rfl, Nat.le_refl _, Nat.zero_le _, (fun e => by cases e), Or.inl rfl⟩, fun g hg => ?_⟩, h.later hb, But.of hb⟩
    cases hg
    exact ⟨Nat.le_refl _, by simp⟩
  · have e : someS s m n = ((shufS s m).1.take n.toNat, (shufS s m).2) := by unfold someS; rw [if_neg h1]
    rw [e]
    clear e
    have hsl := shufS_length s m
    go_enter Try.func42, Try.ntmps42
    go_wp2_with fail
    refine (fshuffle_any w0 q a cap l m v s _ hl hR h hm hs hv).mono ?_
    rintro e w1 ⟨⟨v', rfl, h2, h3⟩, h4, h5⟩
    have h2' := h2
    obtain ⟨b, bcap, rfl, hc1, hc2, h0, _⟩ := h2'
    rw [hsl] at hc1 h2 h3 ⊢
    have hci : (s.length : Int) ≤ bcap := by omega
    by_cases hm : n ≤ s.length
    · obtain ⟨M, rfl⟩ : ∃ M : Nat, n = M := ⟨n.toNat, by omega⟩
      have hmc : (M : Int) ≤ bcap := by omega
      go_wp2_with fail
      go_ret
      exact ⟨⟨.slice b M bcap, rfl, h2.take M (by omega), fun g hg => h3 g ((ownBlock_slice _ _ _ _ _).trans hg)⟩, h4, h5⟩
    · go_wp2_with fail
      go_ret
      rw [List.take_of_length_le (by omega)]
      exact ⟨⟨.slice b s.length bcap, rfl, h2, h3⟩, h4, h5⟩
end Go.Proofs.Ytnhpkpodeojldaa
