/-
  The reference's round: has, Left; a slice that is appended to an owned row.
-/
import Derived.Test.YtnhpkpodeojldaaRsd
import Derived.Test.YtnhpkpodeojldaaLrs
namespace Go.Proofs.Ytnhpkpodeojldaa
open Go.RowKit

theorem Lf.mv {w0 : World} {r a b : Nat} {v : Value} {l m : List Int} {w w' : World} (h : Lf w0 r v l m w) (hM : Mv a b w w') (ha : r ≠ a ∧ w0.heap.size ≤ a) (hb : r ≠ b ∧ w0.heap.size ≤ b) : Lf w0 r v l m w' :=
  h.keep (hM.block r h.lt ha.1 hb.1) (hM.below ha.2 hb.2 h.below.size)
theorem Lf.set {w0 : World} {r q : Nat} {v u : Value} {l m : List Int} {w : World} (h : Lf w0 r v l m w) (hq : r ≠ q ∧ w0.heap.size ≤ q) : Lf w0 r v l m (w.setCell ⟨q, 0, none⟩ u) :=
  h.keep (Below.heap_setCell _ _ _ _ hq.1) ((Below.refl _ _).setCell (p := ⟨q, 0, none⟩) hq.2 _)

/-- A slice is appended to an owned row. -/
theorem wpList_append_rd {ops : Array Oper} {rest : List Oper} {o : Oper} {a : Go.Act} {Q : Exit → Go.Act → World → Prop} {w : World} (hgd : o.guard = none) (s x : Operand)
    (ho : o.op = .call { callee := .builtin .append, args := #[s, x], argTypes := #[26, 26] }) (v : Value) (B : Nat) (r : List Int) (hs : a.eval s = v) (hown : w.ownsRow B 3 1 v r.length (r.map (Value.int .i64))) (hB : B ≤ w.heap.size)
    (u : Value) (l : List Int) (hx : a.eval x = u) (hu : Rd .i64 u l w) (hl : r.length + l.length ≤ 1000000)
    (h : ∀ v' w', w'.ownsRow B 3 1 v' (r ++ l).length ((r ++ l).map (Value.int .i64)) → w.grownBy w' v.ownBlock → wpList Try.prog ops Q rest (a.put o.dst v') w') :
    wpList Try.prog ops Q (o :: rest) a w := by
  obtain ⟨i0, hi, hz0, hz1, hz2⟩ := info_parts Try.infoInt
  have hu' := hu
  obtain ⟨ua, ucap, rfl, h1, h2, h3, _⟩ := hu'
  cases ua with
  | none =>
    obtain rfl := h3 rfl
    obtain rfl := List.length_eq_zero_iff.1 (Nat.le_zero.1 h1)
    refine wpList_append_own_none hgd s x 26 ho B 3 i0 1 Try.underlying26 hi v r.length _ hs hown hx ?_
    exact h v w (by rw [List.append_nil]; exact hown) ⟨rfl, rfl, rfl, Nat.le_refl _, fun _ _ _ => rfl⟩
  | some ad =>
    refine wpList_append_own w hgd s x 26 ho B 3 i0 (.int .i64 0) 1 8 Try.underlying26 hi hz0 hz1 hz2 rfl (by decide) v r.length _ hs hown ad l.length ucap (l.map (Value.int .i64)) hx (by simp) hu.cells (oneCells .i64 l) (by unfold maxLen; omega) (by omega) hB ?_
    intro v' w' hown' hgr _
    exact h v' w' (by rw [List.length_append, List.map_append]; exact hown') hgr

set_option maxHeartbeats 400000 in
theorem fhas_any (v : Value) (l : List Int) (x : Int) (w : World) (hl : l.length ≤ 1000000) (h : Rd .i64 v l w) :
    Calls Try.prog 32 #[v, .int .i64 x] w fun e w' => e = .returned (.bool (decide (x ∈ l))) ∧ w' = w := by
  obtain ⟨a, cap, rfl, _, _, _, k1⟩ := h
  obtain ⟨z, HZ⟩ : ∃ z, Hid (decide (x ∈ l) = z) := ⟨_, rfl⟩
  rw [HZ.out]
  go_enter Try.func32, Try.ntmps32
  go_wp2_with fail
  go_loopg [5] l.length (fun gk t5 wr => ∃ i : Nat, i + gk = l.length ∧ t5 = .int .i64 i ∧ Hid (x ∉ l.take i) ∧ wr = w)
  case atStart => exact ⟨0, by omega, rfl, show x ∉ l.take 0 by simp, rfl⟩
  case round =>
    obtain ⟨i, hi, rfl, hx, rfl⟩ := hrel
    by_cases hlt : (i : Int) < l.length
    · have i0 : (0 : Int) ≤ i := by omega
      have hil : i < l.length := by omega
      rcases k1 with k1 | ⟨g1, o1, rfl, k1⟩
      · omega
      have c1 := k1 i hil
      have hs : x ≠ l[i] → Hid (x ∉ l.take (i + 1)) := fun e => mem_take_succ hil hx.out e
      have hm : x = l[i] → z = true := fun e => by rw [← HZ.out, decide_eq_true_eq, e]; exact List.getElem_mem hil
      clear k1
      generalize l[i] = y at c1 hs hm
      by_cases hxy : x = y
      · have he : (y == x) = true := by simp [hxy]
        obtain rfl := hm hxy
        clear hs hxy
        go_wp2_with fail
        go_ret
        exact ⟨rfl, rfl⟩
      · have he : (y == x) = false := by rw [beq_eq_false_iff_ne]; exact fun e => hxy e.symm
        have hs := hs hxy
        clear hm
        go_wp2_with fail
        go_roundg (gk - 1)
        case rel => exact ⟨i + 1, by omega, by go_num, hs, rfl⟩
        case measure => omega
    · obtain rfl : i = l.length := by omega
      have hx' := hx.out
      rw [List.take_length] at hx'
      obtain rfl : z = false := by rw [← HZ.out, decide_eq_false_iff_not]; exact hx'
      clear hx' hx
      go_wp2_with fail
      go_ret
      exact ⟨rfl, rfl⟩

set_option maxHeartbeats 400000 in
theorem fleftr_any (B q : Nat) (s : List Int) (w : World) (hs : s.length ≤ 1000) (hR : Rn 31 B q s w) :
    Calls Try.prog 21 #[.pointer (some ⟨q, 0, none⟩)] w fun e w' => (∃ v, e = .returned v ∧ w'.ownsRow w.heap.size 3 1 v s.length (s.map (Value.int .i64))) ∧ Below w.heap.size w w' := by
  have b1 := below_alloc w (.cells #[] 3)
  obtain ⟨a, cap, hc, _, hd, _⟩ := (hR.below b1).cell
  go_enter Try.func21, Try.ntmps21
  go_wp2_with (at_builtin; refine wpList_append_rd rfl (.tmp 5) (.tmp 9) rfl _ w.heap.size [] rfl (World.ownsRow_made w #[] 0 (Nat.le_refl _) (Nat.zero_le _) rfl) b1.size _ s rfl hd (by simp; omega) ?_; intro v w1 hown hgr)
  obtain ⟨a1, cap1, e1, _⟩ := Rd.of hown
  subst e1
  go_ret
  exact ⟨⟨_, rfl, hown⟩, b1.grown hgr b1.size (fun k hk => by cases hk; exact Nat.le_refl _)⟩
end Go.Proofs.Ytnhpkpodeojldaa
