/-
  The reference's Left, Next, Below, Shuffle, Some.
-/
import Derived.Test.YtnhpkpodeojldaaLso
import Derived.Laws.AppendOwnNone
namespace Go.Proofs.Ytnhpkpodeojldaa
open Go.RowKit

theorem Rd.at {k : IntKind} {a : Option Addr} {len cap : Nat} {l : List Int} {w : World} (h : Rd k (.slice a len cap) l w) (i : Nat) (hi : i < l.length) : ∃ g off, a = some ⟨g, off, none⟩ ∧ w.cell? ⟨g, off + i, none⟩ = some (.int k l[i]) := by
  obtain ⟨a', cap', e, _, _, _, h3⟩ := h
  cases e
  rcases h3 with h3 | ⟨g, off, rfl, h3⟩
  · omega
  · exact ⟨g, off, rfl, h3 i hi⟩

/-- The reference's lots behind the pointer to block q: m is left of l, which v reads as since w0. -/
structure Lf (w0 : World) (q : Nat) (v : Value) (l m : List Int) (w : World) : Prop where
  ex : ∃ k : Nat, k ≤ l.length ∧ l.drop k = m ∧ w.heap[q]? = some (.cells #[v, .int .i64 k] 36 (0, 0))
  below : Below w0.heap.size w0 w
  le : w0.heap.size ≤ q
theorem Lf.lt {w0 : World} {q : Nat} {v : Value} {l m : List Int} {w : World} (h : Lf w0 q v l m w) : q < w.heap.size := by
  obtain ⟨k, _, _, h1⟩ := h.ex
  exact (Array.getElem?_eq_some_iff.1 h1).1
theorem Lf.keep {w0 : World} {q : Nat} {v : Value} {l m : List Int} {w w' : World} (h : Lf w0 q v l m w) (e : w'.heap[q]? = w.heap[q]?) (hb : Below w0.heap.size w w') : Lf w0 q v l m w' := by
  obtain ⟨⟨k, h1, h2, h3⟩, h4, h5⟩ := h
  exact ⟨⟨k, h1, h2, e.trans h3⟩, h4.trans hb, h5⟩
theorem Lf.later {w0 : World} {q : Nat} {v : Value} {l m : List Int} {w w' : World} (h : Lf w0 q v l m w) (hb : Below w.heap.size w w') : Lf w0 q v l m w' :=
  h.keep (hb.block q h.lt) (hb.mono h.below.size)
theorem Lf.but {w0 : World} {q p : Nat} {v : Value} {l m : List Int} {w w' : World} (h : Lf w0 q v l m w) (hb : But w.heap.size p w w') (hp : q ≠ p) (hp0 : w0.heap.size ≤ p) : Lf w0 q v l m w' :=
  h.keep (hb.block q h.lt hp) (hb.belowAt hp0 h.below.size)
theorem Lf.drew {w0 : World} {q : Nat} {v : Value} {l m : List Int} {w : World} (h : Lf w0 q v l m w) : Lf w0 q v l m w.drew := ⟨h.ex, h.below.drew, h.le⟩

set_option maxHeartbeats 400000 in
theorem fleft_any (w0 : World) (q : Nat) (a : Option Addr) (cap : Nat) (l m : List Int) (w : World) (hl : l.length ≤ 1000000) (h : Lf w0 q (.slice a l.length cap) l m w) :
    Calls Try.prog 19 #[.pointer (some ⟨q, 0, none⟩)] w fun e w' => e = .returned (.int .i64 m.length) ∧ Below w.heap.size w w' := by
  obtain ⟨⟨k, h1, rfl, h3⟩, h4, h5⟩ := h
  have c0 : w.cell? ⟨q, 0, none⟩ = some (.slice a l.length cap) := by simp [World.cell?, h3]
  have c1 : w.cell? ⟨q, 1, none⟩ = some (.int .i64 k) := by simp [World.cell?, h3]
  have e : ((l.drop k).length : Int) = (l.length : Int) - k := by rw [List.length_drop]; omega
  rw [e]
  clear e
  go_enter Try.func19, Try.ntmps19
  go_wp2_with fail
  go_quiet (fail)
  go_wp2_with fail
  go_ret
  exact ⟨rfl, ⟨rfl, rfl, rfl, Nat.le_refl _, fun _ _ => rfl⟩⟩

set_option maxHeartbeats 400000 in
theorem fnext_any (w0 : World) (q : Nat) (a : Option Addr) (cap : Nat) (l m : List Int) (w : World) (hl : l.length ≤ 1000000) (hR : Rd .u64 (.slice a l.length cap) l w0) (h : Lf w0 q (.slice a l.length cap) l m w) :
    Calls Try.prog 48 #[.pointer (some ⟨q, 0, none⟩)] w fun e w' => e = .returned (.int .u64 (m.headD 0)) ∧ Lf w0 q (.slice a l.length cap) l m.tail w' ∧ But w.heap.size q w w' := by
  cases m with
  | nil =>
    go_enter Try.func48, Try.ntmps48
    go_wp2_with fail
    refine (fleft_any w0 q a cap l [] _ hl h).mono ?_
    rintro e w1 ⟨rfl, hb⟩
    go_wp2_with fail
    go_ret
    exact ⟨rfl, h.later hb, But.of hb⟩
  | cons x r =>
    have hz := h.lt
    go_enter Try.func48, Try.ntmps48
    go_wp2_with fail
    refine (fleft_any w0 q a cap l (x :: r) _ hl h).mono ?_
    rintro e w1 ⟨rfl, hb⟩
    have h' := h.later hb
    have hz1 := hb.size
    obtain ⟨⟨k, h1, h2, h3⟩, h4, h5⟩ := h'
    have hkl : k < l.length := by
      rcases Nat.lt_or_ge k l.length with e | e
      · exact e
      · rw [List.drop_eq_nil_of_le e] at h2; cases h2
    rw [List.drop_eq_getElem_cons hkl] at h2
    obtain ⟨hx, hr⟩ := List.cons.inj h2
    clear h2
    obtain ⟨g, off, rfl, hc⟩ := (hR.below h4).at k hkl
    rw [hx] at hc
    clear hx
    have c0 : w1.cell? ⟨q, 0, none⟩ = some (.slice (some ⟨g, off, none⟩) l.length cap) := by simp [World.cell?, h3]
    have c1 : w1.cell? ⟨q, 1, none⟩ = some (.int .i64 k) := by simp [World.cell?, h3]
    have f1 : w1.frozen? ⟨q, 1, none⟩ = false := by simp [World.frozen?, h3]
    have hne : (((x :: r).length : Int) == 0) = false := by rw [beq_eq_false_iff_ne]; simp; omega
    have hgq : g ≠ q := by
      obtain ⟨g', off', e, hc'⟩ := hR.at k hkl
      cases e
      have := World.block_lt_of_cell? _ _ hc'
      simp at this
      omega
    have hcg : (w1.setCell ⟨q, 1, none⟩ (.int .i64 ((k : Int) + 1))).cell? ⟨g, off + k, none⟩ = some (.int .u64 x) := (World.cell?_of_block (w := w1) (Below.heap_setCell _ _ _ _ hgq)).trans hc
    have i0 : (0 : Int) ≤ k := by omega
    have i1 : (k : Int) < l.length := by omega
    generalize (x :: r).length = X at hne
    go_wp2_with fail
    go_quiet (fail)
    go_wp2_with fail
    go_ret
    refine ⟨rfl, ⟨⟨k + 1, by omega, hr, ?_⟩, ?_, h5⟩, ?_⟩
    · show (w1.setCell ⟨q, 1, none⟩ _).heap[q]? = _
      simp [World.setCell, Array.getElem?_modify, h3]
    · have := h4.setCell (p := ⟨q, 1, none⟩) h5 (.int .i64 ((k : Int) + 1))
      exact ⟨this.os, this.tape, this.output, this.size, this.block⟩
    · have := (But.of hb : But w.heap.size q w w1).setCell (q := ⟨q, 1, none⟩) (Or.inl rfl) (.int .i64 ((k : Int) + 1))
      exact ⟨this.os, this.tape, this.output, this.size, this.block⟩

set_option maxHeartbeats 400000 in
theorem fbelow_any (w0 : World) (q : Nat) (a : Option Addr) (cap : Nat) (l m : List Int) (n : Int) (w : World) (hl : l.length ≤ 1000000) (hR : Rd .u64 (.slice a l.length cap) l w0) (h : Lf w0 q (.slice a l.length cap) l m w) (hm : Ok m) (hn : n < 9223372036854775808) :
    Calls Try.prog 37 #[.pointer (some ⟨q, 0, none⟩), .int .i64 n] w fun e w' => e = .returned (.int .i64 (belowS m n).1) ∧ Lf w0 q (.slice a l.length cap) l (belowS m n).2 w' ∧ But w.heap.size q w w' := by
  by_cases h2 : n < 2
  · have e : belowS m n = (0, m) := by unfold belowS; rw [if_pos h2]
    rw [e]
    go_enter Try.func37, Try.ntmps37
    go_wp2_with fail
    go_ret
    exact ⟨rfl, h, But.refl _ _ _⟩
  · have e : belowS m n = (m.headD 0 % n, m.tail) := by unfold belowS; rw [if_neg h2]
    rw [e]
    obtain ⟨hx0, hx1⟩ := hm.head
    have hm0 := Int.emod_nonneg (m.headD 0) (show n ≠ 0 by omega)
    have hm1 := Int.emod_lt_of_pos (m.headD 0) (show 0 < n by omega)
    clear e
    obtain ⟨x, hx⟩ : ∃ x, m.headD 0 = x := ⟨_, rfl⟩
    rw [hx] at hx0 hx1 hm0 hm1 ⊢
    have HX : Hid _ := hx
    clear hx
    go_enter Try.func37, Try.ntmps37
    go_wp2_with fail
    refine (fnext_any w0 q a cap l m _ hl hR h).mono ?_
    rw [HX.out]
    rintro e w1 ⟨rfl, h1, hb⟩
    go_wp2_with fail
    go_ret
    exact ⟨rfl, h1, hb⟩
end Go.Proofs.Ytnhpkpodeojldaa
