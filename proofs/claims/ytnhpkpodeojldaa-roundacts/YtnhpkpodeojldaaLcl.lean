/-
  Clone; New, Next, Below, Left.
-/
import Derived.Test.YtnhpkpodeojldaaLba
namespace Go.Proofs.Ytnhpkpodeojldaa
open Go.RowKit

theorem Try.infoU64 : (Try.prog.info? 38).map (fun i => (i.zero, i.size, i.bytes)) = some (some (.int .u64 0), 1, 8) := by kernel_rfl
theorem Try.infoInt : (Try.prog.info? 3).map (fun i => (i.zero, i.size, i.bytes)) = some (some (.int .i64 0), 1, 8) := by kernel_rfl

theorem oneCells (k : IntKind) (l : List Int) : ∀ u ∈ l.map (Value.int k), u.oneCell' = true := by
  intro u hu
  obtain ⟨x, _, rfl⟩ := List.mem_map.1 hu
  rfl
theorem Rd.cells {k : IntKind} {a : Addr} {cap : Nat} {l : List Int} {w : World} (h : Rd k (.slice (some a) l.length cap) l w) : ∀ j u, (l.map (Value.int k))[j]? = some u → w.cell? (a.add j) = some u := by
  obtain ⟨a', cap', e, _, _, _, h3⟩ := h
  cases e
  intro j u hu
  have hj : j < l.length := by
    have := (List.getElem?_eq_some_iff.1 hu).1
    simpa using this
  rcases h3 with h3 | ⟨g, off, e, h3⟩
  · omega
  · cases e
    have := h3 j hj
    rw [List.getElem?_map, List.getElem?_eq_getElem hj] at hu
    simp at hu
    subst hu
    rw [← this]
    unfold Addr.add; split <;> simp_all

set_option maxHeartbeats 400000 in
theorem cloneU_some (a : Addr) (cap : Nat) (l : List Int) (w : World) (hl : l.length ≤ 1000000) (h : Rd .u64 (.slice (some a) l.length cap) l w) :
    Calls Try.prog 26 #[.slice (some a) l.length cap] w fun e w' => ∃ v, e = .returned v ∧ w'.ownsRow w.heap.size 38 1 v l.length (l.map (Value.int .u64)) ∧ Below w.heap.size w w' := by
  obtain ⟨i0, hi, hz0, hz1, hz2⟩ := info_parts Try.infoU64
  have hc := h.cells
  have hq : ∀ (w : World) (a : Option Addr) (n c n' c' : Nat), (binOp .eql 22 (.slice a n c) (.slice none n' c')).run Try.prog w = .ok (.bool a.isNone) w := fun w a n c n' c' => Lib.run_eql_slice_nil w _ _ a n c n' c' Try.underlying22
  have hc2 : ∀ (j : Nat) (u : Value), (l.map (Value.int .u64))[j]? = some u → (w.alloc (.cells #[] 38)).cell? (a.add j) = some u := fun j u hu => (World.cell?_of_block (w := w) (Below.heap_alloc _ _ _ (World.block_lt_of_cell? _ _ (hc j u hu)))).trans (hc j u hu)
  clear hc
  go_enter Try.func26, Try.ntmps26
  go_wp2_with (at_builtin; refine wpList_append_own _ rfl (.tmp 5) (.tmp 6) 22 rfl w.heap.size 38 i0 (.int .u64 0) 1 8 Try.underlying22 hi hz0 hz1 hz2 rfl (by decide) _ 0 [] rfl (World.ownsRow_made w #[] 0 (Nat.le_refl _) (Nat.zero_le _) rfl) a l.length cap (l.map (Value.int .u64)) rfl (by simp) hc2 (oneCells .u64 l) (by unfold maxLen; omega) (by omega) (by simp) ?_; intro v w1 hown hgr _)
  go_ret
  refine ⟨v, rfl, ?_, ?_⟩
  · simpa using hown
  · exact ((Below.refl _ w).alloc (Nat.le_refl _) _).grown hgr (by simp) (fun k hk => by cases hk; exact Nat.le_refl _)

set_option maxHeartbeats 400000 in
theorem cloneU_none (cap : Nat) (w : World) :
    Calls Try.prog 26 #[.slice none 0 cap] w fun e w' => ∃ v, e = .returned v ∧ w'.ownsRow w.heap.size 38 1 v 0 [] ∧ Below w.heap.size w w' := by
  have hq : ∀ (w : World) (a : Option Addr) (n c n' c' : Nat), (binOp .eql 22 (.slice a n c) (.slice none n' c')).run Try.prog w = .ok (.bool a.isNone) w := fun w a n c n' c' => Lib.run_eql_slice_nil w _ _ a n c n' c' Try.underlying22
  go_enter Try.func26, Try.ntmps26
  go_wp2_with fail
  go_ret
  exact ⟨_, rfl, World.ownsRow_nil _ _ _ _, Below.refl _ _⟩

theorem cloneU_any (v : Value) (l : List Int) (w : World) (hl : l.length ≤ 1000000) (h : Rd .u64 v l w) :
    Calls Try.prog 26 #[v] w fun e w' => ∃ v, e = .returned v ∧ w'.ownsRow w.heap.size 38 1 v l.length (l.map (Value.int .u64)) ∧ Below w.heap.size w w' := by
  have h' := h
  obtain ⟨a, cap, rfl, h1, _, h0, _⟩ := h'
  cases a with
  | none =>
    have hn := List.length_eq_zero_iff.1 (show l.length = 0 by have := h0 rfl; omega)
    subst hn
    exact cloneU_none cap w
  | some a => exact cloneU_some a cap l w hl h

set_option maxHeartbeats 400000 in
theorem cloneI_some (a : Addr) (cap : Nat) (l : List Int) (w : World) (hl : l.length ≤ 1000000) (h : Rd .i64 (.slice (some a) l.length cap) l w) :
    Calls Try.prog 39 #[.slice (some a) l.length cap] w fun e w' => ∃ v, e = .returned v ∧ w'.ownsRow w.heap.size 3 1 v l.length (l.map (Value.int .i64)) ∧ Below w.heap.size w w' := by
  obtain ⟨i0, hi, hz0, hz1, hz2⟩ := info_parts Try.infoInt
  have hc := h.cells
  have hq : ∀ (w : World) (a : Option Addr) (n c n' c' : Nat), (binOp .eql 26 (.slice a n c) (.slice none n' c')).run Try.prog w = .ok (.bool a.isNone) w := fun w a n c n' c' => Lib.run_eql_slice_nil w _ _ a n c n' c' Try.underlying26
  have hc2 : ∀ (j : Nat) (u : Value), (l.map (Value.int .i64))[j]? = some u → (w.alloc (.cells #[] 3)).cell? (a.add j) = some u := fun j u hu => (World.cell?_of_block (w := w) (Below.heap_alloc _ _ _ (World.block_lt_of_cell? _ _ (hc j u hu)))).trans (hc j u hu)
  clear hc
  go_enter Try.func39, Try.ntmps39
  go_wp2_with (at_builtin; refine wpList_append_own _ rfl (.tmp 5) (.tmp 6) 26 rfl w.heap.size 3 i0 (.int .i64 0) 1 8 Try.underlying26 hi hz0 hz1 hz2 rfl (by decide) _ 0 [] rfl (World.ownsRow_made w #[] 0 (Nat.le_refl _) (Nat.zero_le _) rfl) a l.length cap (l.map (Value.int .i64)) rfl (by simp) hc2 (oneCells .i64 l) (by unfold maxLen; omega) (by omega) (by simp) ?_; intro v w1 hown hgr _)
  go_ret
  refine ⟨v, rfl, ?_, ?_⟩
  · simpa using hown
  · exact ((Below.refl _ w).alloc (Nat.le_refl _) _).grown hgr (by simp) (fun k hk => by cases hk; exact Nat.le_refl _)

set_option maxHeartbeats 400000 in
theorem cloneI_none (cap : Nat) (w : World) :
    Calls Try.prog 39 #[.slice none 0 cap] w fun e w' => ∃ v, e = .returned v ∧ w'.ownsRow w.heap.size 3 1 v 0 [] ∧ Below w.heap.size w w' := by
  have hq : ∀ (w : World) (a : Option Addr) (n c n' c' : Nat), (binOp .eql 26 (.slice a n c) (.slice none n' c')).run Try.prog w = .ok (.bool a.isNone) w := fun w a n c n' c' => Lib.run_eql_slice_nil w _ _ a n c n' c' Try.underlying26
  go_enter Try.func39, Try.ntmps39
  go_wp2_with fail
  go_ret
  exact ⟨_, rfl, World.ownsRow_nil _ _ _ _, Below.refl _ _⟩

theorem cloneI_any (v : Value) (l : List Int) (w : World) (hl : l.length ≤ 1000000) (h : Rd .i64 v l w) :
    Calls Try.prog 39 #[v] w fun e w' => ∃ v, e = .returned v ∧ w'.ownsRow w.heap.size 3 1 v l.length (l.map (Value.int .i64)) ∧ Below w.heap.size w w' := by
  have h' := h
  obtain ⟨a, cap, rfl, h1, _, h0, _⟩ := h'
  cases a with
  | none =>
    have hn := List.length_eq_zero_iff.1 (show l.length = 0 by have := h0 rfl; omega)
    subst hn
    exact cloneI_none cap w
  | some a => exact cloneI_some a cap l w hl h


theorem Rd.of {k : IntKind} {E : TypeId} {B : Nat} {v : Value} {l : List Int} {w : World} (h : w.ownsRow B E 1 v l.length (l.map (Value.int k))) : Rd k v l w := by
  rcases Wn.of h with ⟨rfl, rfl⟩ | ⟨g, cap, rfl, _, _, h1, h2, hw⟩
  · exact Rd.nil _ _
  · exact hw.rd h1 h2

theorem Lt.put {B p : Nat} {l r : List Int} {w : World} {v' : Value} (h : Lt B p l w) (hv : Rd .u64 v' r w) (hg : ∀ g, v'.ownBlock = some g → B ≤ g ∧ g < p) :
    Lt B p r (w.setCell ⟨p, 0, none⟩ v') ∧ But w.heap.size p w (w.setCell ⟨p, 0, none⟩ v') := by
  obtain ⟨⟨v, h1, h2, h3⟩, hB⟩ := h
  refine ⟨⟨⟨v', ?_, hv.keep fun g hg' _ => Below.heap_setCell _ _ _ _ (by have := (hg g hg').2; simp; omega), hg⟩, hB⟩, (But.refl w.heap.size p w).setCell (q := ⟨p, 0, none⟩) (Or.inl rfl) v'⟩
  simp [World.setCell, Array.getElem?_modify, h1]

set_option maxHeartbeats 400000 in
theorem new_any (v : Value) (l : List Int) (w : World) (hl : l.length ≤ 1000000) (h : Rd .u64 v l w) :
    Calls Try.prog 9 #[v] w fun e w' => (∃ p, e = .returned (.pointer (some ⟨p, 0, none⟩)) ∧ Lt w.heap.size p l w') ∧ Below w.heap.size w w' := by
  go_enter Try.func9, Try.ntmps9
  go_wp2_with fail
  refine (cloneU_any v l _ hl h).mono ?_
  rintro e w1 ⟨u, rfl, hown, hb⟩
  obtain ⟨a, n, cap, rfl⟩ : ∃ a n cap, u = .slice a n cap := by
    obtain ⟨a, cap, rfl, _⟩ := Rd.of hown
    exact ⟨a, _, cap, rfl⟩
  go_wp2_with fail
  go_ret
  have hz := hb.size
  refine ⟨⟨w1.heap.size, rfl, ⟨_, heap_alloc_new w1 _, (Rd.of hown).below ((Below.refl _ _).alloc (Nat.le_refl _) _), fun g hg => hown.lt g hg⟩, hz⟩, hb.alloc hz _⟩

set_option maxHeartbeats 400000 in
theorem left_any (B p : Nat) (l : List Int) (w : World) (h : Lt B p l w) :
    Calls Try.prog 18 #[.pointer (some ⟨p, 0, none⟩)] w fun e w' => e = .returned (.int .i64 l.length) ∧ w' = w := by
  obtain ⟨⟨v, h1, h2, h3⟩, hB⟩ := h
  obtain ⟨a, cap, rfl, _⟩ := h2
  have hc : w.cell? ⟨p, 0, none⟩ = some (.slice a l.length cap) := by simp [World.cell?, h1]
  go_enter Try.func18, Try.ntmps18
  go_wp2_with fail
  go_ret
  exact ⟨rfl, rfl⟩

set_option maxHeartbeats 400000 in
theorem next_any (B p : Nat) (l : List Int) (w : World) (h : Lt B p l w) :
    Calls Try.prog 47 #[.pointer (some ⟨p, 0, none⟩)] w fun e w' => e = .returned (.int .u64 (l.headD 0)) ∧ Lt B p l.tail w' ∧ But w.heap.size p w w' := by
  have h' := h
  obtain ⟨⟨v, h1, h2, h3⟩, hB⟩ := h
  obtain ⟨a, cap, rfl, ha, hb, h0, h4⟩ := h2
  have hc : w.cell? ⟨p, 0, none⟩ = some (.slice a l.length cap) := by simp [World.cell?, h1]
  have hf : w.frozen? ⟨p, 0, none⟩ = false := by simp [World.frozen?, h1]
  cases l with
  | nil =>
    clear h4 h0 h3
    go_enter Try.func47, Try.ntmps47
    go_wp2_with fail
    go_ret
    exact ⟨rfl, h', But.refl _ _ _⟩
  | cons x r =>
    rcases h4 with h4 | ⟨g, off, rfl, h4⟩
    · simp at h4
    · have hx := h4 0 (by simp)
      simp only [List.getElem_cons_zero, Nat.add_zero] at hx
      have hne : ((r.length : Int) + 1 == 0) = false := by rw [beq_eq_false_iff_ne]; omega
      have hcap : r.length + 1 ≤ cap := by simpa using ha
      have hi1 : (1 : Int) ≤ (r.length : Int) + 1 := by omega
      simp only [List.length_cons] at hc
      rw [List.length_cons] at h1
      go_enter Try.func47, Try.ntmps47
      have h3' : B ≤ g ∧ g < p := h3 g rfl
      go_wp2_with fail
      · go_ret
        obtain rfl : r = [] := List.length_eq_zero_iff.1 (by omega)
        obtain ⟨k1, k2⟩ := h'.put (r := []) (v' := .slice (some ⟨g, off, none⟩) 0 0) ⟨_, 0, rfl, Nat.le_refl _, Nat.zero_le _, (fun e => by cases e), Or.inl rfl⟩ (fun g' hg => by cases hg; exact h3')
        exact ⟨rfl, k1, k2⟩
      · go_ret
        obtain ⟨k1, k2⟩ := h'.put (r := r) (v' := .slice (some ⟨g, off + 1, none⟩) r.length (cap - 1)) ⟨_, cap - 1, rfl, by omega, by omega, (fun e => by cases e), Or.inr ⟨g, off + 1, rfl, fun j hj => by
          have := h4 (j + 1) (by simp; omega)
          rw [List.getElem_cons_succ] at this
          rw [← this, Nat.add_assoc, Nat.add_comm 1 j]⟩⟩ (fun g' hg => by cases hg; exact h3')
        exact ⟨rfl, k1, k2⟩

set_option maxHeartbeats 400000 in
theorem below_any (B p : Nat) (l : List Int) (n : Int) (w : World) (h : Lt B p l w) (hl : Ok l) (hn : n < 9223372036854775808) :
    Calls Try.prog 36 #[.pointer (some ⟨p, 0, none⟩), .int .i64 n] w fun e w' => e = .returned (.int .i64 (belowS l n).1) ∧ Lt B p (belowS l n).2 w' ∧ But w.heap.size p w w' := by
  by_cases h2 : n < 2
  · have e : belowS l n = (0, l) := by unfold belowS; rw [if_pos h2]
    rw [e]
    go_enter Try.func36, Try.ntmps36
    go_wp2_with fail
    go_ret
    exact ⟨rfl, h, But.refl _ _ _⟩
  · have e : belowS l n = (l.headD 0 % n, l.tail) := by unfold belowS; rw [if_neg h2]
    rw [e]
    obtain ⟨hx0, hx1⟩ := hl.head
    have hm0 := Int.emod_nonneg (l.headD 0) (show n ≠ 0 by omega)
    have hm1 := Int.emod_lt_of_pos (l.headD 0) (show 0 < n by omega)
    clear e
    obtain ⟨x, hx⟩ : ∃ x, l.headD 0 = x := ⟨_, rfl⟩
    rw [hx] at hx0 hx1 hm0 hm1 ⊢
    have HX : Hid _ := hx
    clear hx
    go_enter Try.func36, Try.ntmps36
    go_wp2_with fail
    refine (next_any B p l _ h).mono ?_
    rw [HX.out]
    rintro e w1 ⟨rfl, h1, hb⟩
    go_wp2_with fail
    go_ret
    exact ⟨rfl, h1, hb⟩

end Go.Proofs.Ytnhpkpodeojldaa
