/-
  Plain facts on lots, and on worlds: slices of numbers that are read, rows that are written, lots behind a pointer. Clone; New, Next, Below, Left.
-/
import Derived.Test.YtpoofjnfaijjjaaGreatDoorProg
import Derived.WalkKit
import Derived.WalkSpells
import Derived.WalkLawsBesides
import Derived.Deep.LoopGhost
import Derived.Deep.QuietTactic
import Derived.BigQuiet
namespace Go.Proofs.YtpoofjnfaijjjaaGreatDoor.Rn
open Go.RowKit

/-! ## What is answered, as plain functions -/

/-- What Below(n) draws of the lots l, and what is left. -/
def belowS (l : List Int) (n : Int) : Int × List Int := if n < 2 then (0, l) else (l.headD 0 % n, l.tail)
/-- Places i and k exchanged. -/
def sw (s : List Int) (i k : Nat) : List Int := (s.set i (s.getD k 0)).set k (s.getD i 0)
/-- From place i down to 1. -/
def shufGo : Nat → List Int → List Int → List Int × List Int
  | 0, s, l => (s, l)
  | i + 1, s, l => shufGo i (sw s (i + 1) (belowS l (i + 2)).1.toNat) (belowS l (i + 2)).2
def shufS (s l : List Int) : List Int × List Int := shufGo (s.length - 1) s l
def someS (s l : List Int) (n : Int) : List Int × List Int := if n < 1 then ([], l) else ((shufS s l).1.take n.toNat, (shufS s l).2)

/-- Lots that may be. -/
def Ok (l : List Int) : Prop := ∀ x ∈ l, 0 ≤ x ∧ x < 18446744073709551616
theorem Ok.tail {l : List Int} (h : Ok l) : Ok l.tail := fun x hx => h x (List.mem_of_mem_tail hx)
theorem Ok.head {l : List Int} (h : Ok l) : 0 ≤ l.headD 0 ∧ l.headD 0 < 18446744073709551616 := by
  cases l with
  | nil => decide
  | cons x r => exact h x (by simp)
theorem Ok.below {l : List Int} (h : Ok l) (n : Int) : Ok (belowS l n).2 := by
  unfold belowS; split
  · exact h
  · exact h.tail
theorem belowS_range (l : List Int) (n : Int) : 0 ≤ (belowS l n).1 ∧ (2 ≤ n → (belowS l n).1 < n) := by
  unfold belowS; split
  · exact ⟨Int.le_refl _, fun _ => by simp; omega⟩
  · exact ⟨Int.emod_nonneg _ (by omega), fun _ => Int.emod_lt_of_pos _ (by omega)⟩
theorem sw_length (s : List Int) (i k : Nat) : (sw s i k).length = s.length := by simp [sw]
theorem shufGo_length (i : Nat) : ∀ s l, (shufGo i s l).1.length = s.length := by
  induction i with
  | zero => intro s l; rfl
  | succ i ih => intro s l; rw [shufGo, ih, sw_length]
theorem shufS_length (s l : List Int) : (shufS s l).1.length = s.length := shufGo_length _ _ _
theorem shufGo_ok (i : Nat) : ∀ s l, Ok l → Ok (shufGo i s l).2 := by
  induction i with
  | zero => intro s l h; exact h
  | succ i ih => intro s l h; rw [shufGo]; exact ih _ _ (h.below _)
theorem shufS_ok (s : List Int) {l : List Int} (h : Ok l) : Ok (shufS s l).2 := shufGo_ok _ _ _ h
theorem someS_ok (s : List Int) (n : Int) {l : List Int} (h : Ok l) : Ok (someS s l n).2 := by
  unfold someS; split
  · exact h
  · exact shufS_ok s h

/-! ## Worlds -/

/-- Below block number B all is as it was, but for block p. -/
structure But (B p : Nat) (w w' : World) : Prop where
  os : w'.os = w.os
  tape : w'.tape = w.tape
  output : w'.output = w.output
  size : w.heap.size ≤ w'.heap.size
  block : ∀ k, k < B → k ≠ p → w'.heap[k]? = w.heap[k]?

theorem But.refl (B p : Nat) (w : World) : But B p w w := ⟨rfl, rfl, rfl, Nat.le_refl _, fun _ _ _ => rfl⟩
theorem But.trans {B p : Nat} {a b c : World} (h : But B p a b) (k : But B p b c) : But B p a c :=
  ⟨k.os.trans h.os, k.tape.trans h.tape, k.output.trans h.output, Nat.le_trans h.size k.size, fun i hi hp => (k.block i hi hp).trans (h.block i hi hp)⟩
theorem But.mono {B B' p : Nat} {w w' : World} (h : But B p w w') (hB : B' ≤ B) : But B' p w w' := ⟨h.os, h.tape, h.output, h.size, fun k hk hp => h.block k (Nat.lt_of_lt_of_le hk hB) hp⟩
theorem But.belowAt {B p : Nat} {w w' : World} (h : But B p w w') {B' : Nat} (hp : B' ≤ p) (hB : B' ≤ B) : Below B' w w' := ⟨h.os, h.tape, h.output, h.size, fun k hk => h.block k (by omega) (by omega)⟩
theorem But.of {B p : Nat} {w w' : World} (h : Below B w w') : But B p w w' := ⟨h.os, h.tape, h.output, h.size, fun k hk _ => h.block k hk⟩
theorem But.setCell {B p : Nat} {a w : World} (h : But B p a w) {q : Addr} (hq : q.block = p ∨ B ≤ q.block) (u : Value) : But B p a (w.setCell q u) :=
  h.trans ⟨rfl, rfl, rfl, by simp [World.setCell], fun k hk hp => Below.heap_setCell _ _ _ _ (by omega)⟩
theorem But.drew {B p : Nat} {a w : World} (h : But B p a w) : But B p a w.drew := ⟨h.os, h.tape, h.output, h.size, h.block⟩

/-- The slice v reads as the numbers l, of kind k. -/
def Rd (k : IntKind) (v : Value) (l : List Int) (w : World) : Prop :=
  ∃ a cap, v = .slice a l.length cap ∧ l.length ≤ cap ∧ cap ≤ maxLen ∧ (a = none → cap = 0) ∧ (l.length = 0 ∨ ∃ g off, a = some ⟨g, off, none⟩ ∧ ∀ j (hj : j < l.length), w.cell? ⟨g, off + j, none⟩ = some (.int k l[j]))

theorem Rd.keep {k : IntKind} {v : Value} {l : List Int} {w w' : World} (h : Rd k v l w) (hw : ∀ g, v.ownBlock = some g → g < w.heap.size → w'.heap[g]? = w.heap[g]?) : Rd k v l w' := by
  obtain ⟨a, cap, rfl, h1, h2, h0, h3⟩ := h
  refine ⟨a, cap, rfl, h1, h2, h0, ?_⟩
  rcases h3 with h3 | ⟨g, off, rfl, h3⟩
  · exact Or.inl h3
  · refine Or.inr ⟨g, off, rfl, fun j hj => ?_⟩
    have hc := h3 j hj
    have hlt : g < w.heap.size := World.block_lt_of_cell? _ _ hc
    rw [← hc]
    exact World.cell?_of_block (w := w) (hw g rfl hlt)
theorem Rd.below {k : IntKind} {v : Value} {l : List Int} {w w' : World} (h : Rd k v l w) (hb : Below w.heap.size w w') : Rd k v l w' := h.keep fun g _ hg => hb.block g hg
theorem Rd.but {k : IntKind} {v : Value} {l : List Int} {w w' : World} {q : Nat} (h : Rd k v l w) (hb : But w.heap.size q w w') (hq : ∀ g, v.ownBlock = some g → g ≠ q) : Rd k v l w' := h.keep fun g hg hlt => hb.block g hlt (hq g hg)
theorem Rd.belowAt {k : IntKind} {v : Value} {l : List Int} {w w' : World} {B : Nat} (h : Rd k v l w) (hb : Below B w w') (hq : ∀ g, v.ownBlock = some g → g < B) : Rd k v l w' := h.keep fun g hg _ => hb.block g (hq g hg)
theorem Rd.drew {k : IntKind} {v : Value} {l : List Int} {w : World} (h : Rd k v l w) : Rd k v l w.drew := h.keep fun _ _ _ => rfl
theorem Rd.nil (k : IntKind) (w : World) : Rd k (.slice none 0 0) [] w := ⟨none, 0, rfl, Nat.le_refl _, by unfold maxLen; omega, fun _ => rfl, Or.inl rfl⟩
/-- The first n of them. -/
theorem Rd.take {k : IntKind} {a : Option Addr} {len cap : Nat} {l : List Int} {w : World} (h : Rd k (.slice a len cap) l w) (n : Nat) (hn : n ≤ l.length) : Rd k (.slice a n cap) (l.take n) w := by
  obtain ⟨a', cap', e, h1, h2, h0, h3⟩ := h
  cases e
  have hl : (l.take n).length = n := by rw [List.length_take]; omega
  refine ⟨a, cap, by rw [hl], by omega, h2, h0, ?_⟩
  rcases h3 with h3 | ⟨g, off, rfl, h3⟩
  · exact Or.inl (by omega)
  · refine Or.inr ⟨g, off, rfl, fun j hj => ?_⟩
    rw [h3 j (by omega), List.getElem_take]

/-- Block g holds the numbers l from its beginning on, and they may be written. -/
structure Wn (k : IntKind) (g : Nat) (l : List Int) (w : World) : Prop where
  cell : ∀ j (hj : j < l.length), w.cell? ⟨g, j, none⟩ = some (.int k l[j])
  free : ∀ j, j < l.length → w.frozen? ⟨g, j, none⟩ = false
theorem Wn.set {k : IntKind} {g : Nat} {l : List Int} {w : World} (h : Wn k g l w) (j : Nat) (hj : j < l.length) (x : Int) : Wn k g (l.set j x) (w.setCell ⟨g, j, none⟩ (.int k x)) := by
  refine ⟨fun i hi => ?_, fun i hi => ?_⟩
  · rw [List.length_set] at hi
    by_cases e : j = i
    · subst e
      rw [World.cell?_setCell_same _ _ _ (h.cell j hj)]
      simp
    · rw [World.cell?_setCell_other _ _ _ _ (by intro c; exact e (congrArg Addr.off c)), h.cell i hi]
      simp [List.getElem_set_ne e]
  · rw [List.length_set] at hi
    rw [World.frozen?_setCell]; exact h.free i hi
theorem Wn.drew {k : IntKind} {g : Nat} {l : List Int} {w : World} (h : Wn k g l w) : Wn k g l w.drew := ⟨fun j hj => by have := h.cell j hj; simpa using this, fun j hj => by have := h.free j hj; simpa using this⟩
theorem Wn.keep {k : IntKind} {g : Nat} {l : List Int} {w w' : World} (h : Wn k g l w) (e : w'.heap[g]? = w.heap[g]?) : Wn k g l w' :=
  ⟨fun j hj => (World.cell?_of_block (w := w) (a := ⟨g, j, none⟩) e).trans (h.cell j hj), fun j hj => (World.frozen?_of_block (w := w) (a := ⟨g, j, none⟩) e).trans (h.free j hj)⟩
theorem Wn.rd {k : IntKind} {g : Nat} {l : List Int} {w : World} (h : Wn k g l w) {cap : Nat} (h1 : l.length ≤ cap) (h2 : cap ≤ maxLen) : Rd k (.slice (some ⟨g, 0, none⟩) l.length cap) l w :=
  ⟨_, cap, rfl, h1, h2, (fun e => by cases e), Or.inr ⟨g, 0, rfl, fun j hj => by rw [Nat.zero_add]; exact h.cell j hj⟩⟩
/-- Of an owned row. -/
theorem Wn.of {k : IntKind} {E : TypeId} {B : Nat} {v : Value} {l : List Int} {w : World} (h : w.ownsRow B E 1 v l.length (l.map (Value.int k))) :
    (v = .slice none 0 0 ∧ l = []) ∨ ∃ g cap, v = .slice (some ⟨g, 0, none⟩) l.length cap ∧ B ≤ g ∧ g < w.heap.size ∧ l.length ≤ cap ∧ cap ≤ maxLen ∧ Wn k g l w := by
  rcases h.2 with ⟨hv, hn⟩ | ⟨g, cap, cur, hv, hg, hh, h1, h2, h3, h4⟩
  · exact Or.inl ⟨hv, List.length_eq_zero_iff.1 hn⟩
  · refine Or.inr ⟨g, cap, hv, hg, (Array.getElem?_eq_some_iff.1 hh).1, h1, h2, fun j hj => ?_, fun j _ => by simp [World.frozen?, hh]⟩
    have := World.ownsRow.cells h (g := g) (by rw [hv]; rfl) j (.int k l[j]) (by simp [List.getElem?_eq_getElem hj])
    rw [← this]
    unfold Addr.add; split <;> simp_all

/-- The lots behind the pointer to block p: l. All that they lie in is from block B on. -/
structure Lt (B p : Nat) (l : List Int) (w : World) : Prop where
  ex : ∃ v, w.heap[p]? = some (.cells #[v] 108 (0, 0)) ∧ Rd .u64 v l w ∧ ∀ g, v.ownBlock = some g → B ≤ g ∧ g < p
  le : B ≤ p
theorem Lt.lt {B p : Nat} {l : List Int} {w : World} (h : Lt B p l w) : p < w.heap.size := by
  obtain ⟨v, h1, _⟩ := h.ex
  exact (Array.getElem?_eq_some_iff.1 h1).1
theorem Lt.keep {B p : Nat} {l : List Int} {w w' : World} (h : Lt B p l w) (hw : ∀ g, B ≤ g → g ≤ p → w'.heap[g]? = w.heap[g]?) : Lt B p l w' := by
  obtain ⟨⟨v, h1, h2, h3⟩, hB⟩ := h
  exact ⟨⟨v, (hw p hB (Nat.le_refl _)).trans h1, h2.keep fun g hg _ => hw g (h3 g hg).1 (Nat.le_of_lt (h3 g hg).2), h3⟩, hB⟩
theorem Lt.below {B p : Nat} {l : List Int} {w w' : World} (h : Lt B p l w) (hb : Below w.heap.size w w') : Lt B p l w' := by
  have := h.lt
  exact h.keep fun g _ hg => hb.block g (by omega)
theorem Lt.but {B p : Nat} {l : List Int} {w w' : World} {q : Nat} (h : Lt B p l w) (hb : But w.heap.size q w w') (hq : q < B ∨ p < q) : Lt B p l w' := by
  have := h.lt
  exact h.keep fun g _ hg => hb.block g (by omega) (by omega)
theorem Lt.drew {B p : Nat} {l : List Int} {w : World} (h : Lt B p l w) : Lt B p l w.drew := h.keep fun _ _ _ => rfl

end Go.Proofs.YtpoofjnfaijjjaaGreatDoor.Rn
namespace Go.Proofs.YtpoofjnfaijjjaaGreatDoor.Rn
open Go.RowKit

theorem Tryz.infoU64 : (Tryz.prog.info? 34).map (fun i => (i.zero, i.size, i.bytes)) = some (some (.int .u64 0), 1, 8) := by kernel_rfl
theorem Tryz.infoInt : (Tryz.prog.info? 3).map (fun i => (i.zero, i.size, i.bytes)) = some (some (.int .i64 0), 1, 8) := by kernel_rfl

theorem oneCells (k : IntKind) (l : List Int) : ∀ u ∈ l.map (Value.int k), u.oneCell' = true := by
  intro u hu
  obtain ⟨x, _, rfl⟩ := List.mem_map.1 hu
  rfl
theorem Rd.cells {k : IntKind} {a : Addr} {cap : Nat} {l : List Int} {w : World} (h : Rd k (.slice (some a) l.length cap) l w) : ∀ j u, (l.map (Value.int k))[j]? = some u → w.cell? (a.add j) = some u := by
  obtain ⟨a', cap', e, _, _, _, h3⟩ := h
  cases e
  intro j u hu
  have hj : j < l.length := by
    have := (List.getElem?_eq_some_iff.1 hu).1
    simpa using this
  rcases h3 with h3 | ⟨g, off, e, h3⟩
  · omega
  · cases e
    have := h3 j hj
    rw [List.getElem?_map, List.getElem?_eq_getElem hj] at hu
    simp at hu
    subst hu
    rw [← this]
    unfold Addr.add; split <;> simp_all

set_option maxHeartbeats 400000 in
theorem cloneU_some (a : Addr) (cap : Nat) (l : List Int) (w : World) (hl : l.length ≤ 1000000) (h : Rd .u64 (.slice (some a) l.length cap) l w) :
    Calls Tryz.prog 37 #[.slice (some a) l.length cap] w fun e w' => ∃ v, e = .returned v ∧ w'.ownsRow w.heap.size 34 1 v l.length (l.map (Value.int .u64)) ∧ Below w.heap.size w w' := by
  obtain ⟨i0, hi, hz0, hz1, hz2⟩ := info_parts Tryz.infoU64
  have hc := h.cells
  have hq : ∀ (w : World) (a : Option Addr) (n c n' c' : Nat), (binOp .eql 22 (.slice a n c) (.slice none n' c')).run Tryz.prog w = .ok (.bool a.isNone) w := fun w a n c n' c' => Lib.run_eql_slice_nil w _ _ a n c n' c' Tryz.underlying22
  have hc2 : ∀ (j : Nat) (u : Value), (l.map (Value.int .u64))[j]? = some u → (w.alloc (.cells #[] 34)).cell? (a.add j) = some u := fun j u hu => (World.cell?_of_block (w := w) (Below.heap_alloc _ _ _ (World.block_lt_of_cell? _ _ (hc j u hu)))).trans (hc j u hu)
  clear hc
  go_enter Tryz.func37, Tryz.ntmps37
  go_wp2_with (at_builtin; refine wpList_append_own _ rfl (.tmp 5) (.tmp 6) 22 rfl w.heap.size 34 i0 (.int .u64 0) 1 8 Tryz.underlying22 hi hz0 hz1 hz2 rfl (by decide) _ 0 [] rfl (World.ownsRow_made w #[] 0 (Nat.le_refl _) (Nat.zero_le _) rfl) a l.length cap (l.map (Value.int .u64)) rfl (by simp) hc2 (oneCells .u64 l) (by unfold maxLen; omega) (by omega) (by simp) ?_; intro v w1 hown hgr _)
  go_ret
  refine ⟨v, rfl, ?_, ?_⟩
  · simpa using hown
  · exact ((Below.refl _ w).alloc (Nat.le_refl _) _).grown hgr (by simp) (fun k hk => by cases hk; exact Nat.le_refl _)

set_option maxHeartbeats 400000 in
theorem cloneU_none (cap : Nat) (w : World) :
    Calls Tryz.prog 37 #[.slice none 0 cap] w fun e w' => ∃ v, e = .returned v ∧ w'.ownsRow w.heap.size 34 1 v 0 [] ∧ Below w.heap.size w w' := by
  have hq : ∀ (w : World) (a : Option Addr) (n c n' c' : Nat), (binOp .eql 22 (.slice a n c) (.slice none n' c')).run Tryz.prog w = .ok (.bool a.isNone) w := fun w a n c n' c' => Lib.run_eql_slice_nil w _ _ a n c n' c' Tryz.underlying22
  go_enter Tryz.func37, Tryz.ntmps37
  go_wp2_with fail
  go_ret
  exact ⟨_, rfl, World.ownsRow_nil _ _ _ _, Below.refl _ _⟩

theorem cloneU_any (v : Value) (l : List Int) (w : World) (hl : l.length ≤ 1000000) (h : Rd .u64 v l w) :
    Calls Tryz.prog 37 #[v] w fun e w' => ∃ v, e = .returned v ∧ w'.ownsRow w.heap.size 34 1 v l.length (l.map (Value.int .u64)) ∧ Below w.heap.size w w' := by
  have h' := h
  obtain ⟨a, cap, rfl, h1, _, h0, _⟩ := h'
  cases a with
  | none =>
    have hn := List.length_eq_zero_iff.1 (show l.length = 0 by have := h0 rfl; omega)
    subst hn
    exact cloneU_none cap w
  | some a => exact cloneU_some a cap l w hl h

set_option maxHeartbeats 400000 in
theorem cloneI_some (a : Addr) (cap : Nat) (l : List Int) (w : World) (hl : l.length ≤ 1000000) (h : Rd .i64 (.slice (some a) l.length cap) l w) :
    Calls Tryz.prog 153 #[.slice (some a) l.length cap] w fun e w' => ∃ v, e = .returned v ∧ w'.ownsRow w.heap.size 3 1 v l.length (l.map (Value.int .i64)) ∧ Below w.heap.size w w' := by
  obtain ⟨i0, hi, hz0, hz1, hz2⟩ := info_parts Tryz.infoInt
  have hc := h.cells
  have hq : ∀ (w : World) (a : Option Addr) (n c n' c' : Nat), (binOp .eql 82 (.slice a n c) (.slice none n' c')).run Tryz.prog w = .ok (.bool a.isNone) w := fun w a n c n' c' => Lib.run_eql_slice_nil w _ _ a n c n' c' Tryz.underlying82
  have hc2 : ∀ (j : Nat) (u : Value), (l.map (Value.int .i64))[j]? = some u → (w.alloc (.cells #[] 3)).cell? (a.add j) = some u := fun j u hu => (World.cell?_of_block (w := w) (Below.heap_alloc _ _ _ (World.block_lt_of_cell? _ _ (hc j u hu)))).trans (hc j u hu)
  clear hc
  go_enter Tryz.func153, Tryz.ntmps153
  go_wp2_with (at_builtin; refine wpList_append_own _ rfl (.tmp 5) (.tmp 6) 82 rfl w.heap.size 3 i0 (.int .i64 0) 1 8 Tryz.underlying82 hi hz0 hz1 hz2 rfl (by decide) _ 0 [] rfl (World.ownsRow_made w #[] 0 (Nat.le_refl _) (Nat.zero_le _) rfl) a l.length cap (l.map (Value.int .i64)) rfl (by simp) hc2 (oneCells .i64 l) (by unfold maxLen; omega) (by omega) (by simp) ?_; intro v w1 hown hgr _)
  go_ret
  refine ⟨v, rfl, ?_, ?_⟩
  · simpa using hown
  · exact ((Below.refl _ w).alloc (Nat.le_refl _) _).grown hgr (by simp) (fun k hk => by cases hk; exact Nat.le_refl _)

set_option maxHeartbeats 400000 in
theorem cloneI_none (cap : Nat) (w : World) :
    Calls Tryz.prog 153 #[.slice none 0 cap] w fun e w' => ∃ v, e = .returned v ∧ w'.ownsRow w.heap.size 3 1 v 0 [] ∧ Below w.heap.size w w' := by
  have hq : ∀ (w : World) (a : Option Addr) (n c n' c' : Nat), (binOp .eql 82 (.slice a n c) (.slice none n' c')).run Tryz.prog w = .ok (.bool a.isNone) w := fun w a n c n' c' => Lib.run_eql_slice_nil w _ _ a n c n' c' Tryz.underlying82
  go_enter Tryz.func153, Tryz.ntmps153
  go_wp2_with fail
  go_ret
  exact ⟨_, rfl, World.ownsRow_nil _ _ _ _, Below.refl _ _⟩

theorem cloneI_any (v : Value) (l : List Int) (w : World) (hl : l.length ≤ 1000000) (h : Rd .i64 v l w) :
    Calls Tryz.prog 153 #[v] w fun e w' => ∃ v, e = .returned v ∧ w'.ownsRow w.heap.size 3 1 v l.length (l.map (Value.int .i64)) ∧ Below w.heap.size w w' := by
  have h' := h
  obtain ⟨a, cap, rfl, h1, _, h0, _⟩ := h'
  cases a with
  | none =>
    have hn := List.length_eq_zero_iff.1 (show l.length = 0 by have := h0 rfl; omega)
    subst hn
    exact cloneI_none cap w
  | some a => exact cloneI_some a cap l w hl h


theorem Rd.of {k : IntKind} {E : TypeId} {B : Nat} {v : Value} {l : List Int} {w : World} (h : w.ownsRow B E 1 v l.length (l.map (Value.int k))) : Rd k v l w := by
  rcases Wn.of h with ⟨rfl, rfl⟩ | ⟨g, cap, rfl, _, _, h1, h2, hw⟩
  · exact Rd.nil _ _
  · exact hw.rd h1 h2

theorem Lt.put {B p : Nat} {l r : List Int} {w : World} {v' : Value} (h : Lt B p l w) (hv : Rd .u64 v' r w) (hg : ∀ g, v'.ownBlock = some g → B ≤ g ∧ g < p) :
    Lt B p r (w.setCell ⟨p, 0, none⟩ v') ∧ But w.heap.size p w (w.setCell ⟨p, 0, none⟩ v') := by
  obtain ⟨⟨v, h1, h2, h3⟩, hB⟩ := h
  refine ⟨⟨⟨v', ?_, hv.keep fun g hg' _ => Below.heap_setCell _ _ _ _ (by have := (hg g hg').2; simp; omega), hg⟩, hB⟩, (But.refl w.heap.size p w).setCell (q := ⟨p, 0, none⟩) (Or.inl rfl) v'⟩
  simp [World.setCell, Array.getElem?_modify, h1]

set_option maxHeartbeats 400000 in
theorem new_any (v : Value) (l : List Int) (w : World) (hl : l.length ≤ 1000000) (h : Rd .u64 v l w) :
    Calls Tryz.prog 11 #[v] w fun e w' => (∃ p, e = .returned (.pointer (some ⟨p, 0, none⟩)) ∧ Lt w.heap.size p l w') ∧ Below w.heap.size w w' := by
  go_enter Tryz.func11, Tryz.ntmps11
  go_wp2_with fail
  refine (cloneU_any v l _ hl h).mono ?_
  rintro e w1 ⟨u, rfl, hown, hb⟩
  obtain ⟨a, n, cap, rfl⟩ : ∃ a n cap, u = .slice a n cap := by
    obtain ⟨a, cap, rfl, _⟩ := Rd.of hown
    exact ⟨a, _, cap, rfl⟩
  go_wp2_with fail
  go_ret
  have hz := hb.size
  refine ⟨⟨w1.heap.size, rfl, ⟨_, heap_alloc_new w1 _, (Rd.of hown).below ((Below.refl _ _).alloc (Nat.le_refl _) _), fun g hg => hown.lt g hg⟩, hz⟩, hb.alloc hz _⟩

set_option maxHeartbeats 400000 in
theorem left_any (B p : Nat) (l : List Int) (w : World) (h : Lt B p l w) :
    Calls Tryz.prog 22 #[.pointer (some ⟨p, 0, none⟩)] w fun e w' => e = .returned (.int .i64 l.length) ∧ w' = w := by
  obtain ⟨⟨v, h1, h2, h3⟩, hB⟩ := h
  obtain ⟨a, cap, rfl, _⟩ := h2
  have hc : w.cell? ⟨p, 0, none⟩ = some (.slice a l.length cap) := by simp [World.cell?, h1]
  go_enter Tryz.func22, Tryz.ntmps22
  go_wp2_with fail
  go_ret
  exact ⟨rfl, rfl⟩

set_option maxHeartbeats 400000 in
theorem next_any (B p : Nat) (l : List Int) (w : World) (h : Lt B p l w) :
    Calls Tryz.prog 194 #[.pointer (some ⟨p, 0, none⟩)] w fun e w' => e = .returned (.int .u64 (l.headD 0)) ∧ Lt B p l.tail w' ∧ But w.heap.size p w w' := by
  have h' := h
  obtain ⟨⟨v, h1, h2, h3⟩, hB⟩ := h
  obtain ⟨a, cap, rfl, ha, hb, h0, h4⟩ := h2
  have hc : w.cell? ⟨p, 0, none⟩ = some (.slice a l.length cap) := by simp [World.cell?, h1]
  have hf : w.frozen? ⟨p, 0, none⟩ = false := by simp [World.frozen?, h1]
  cases l with
  | nil =>
    clear h4 h0 h3
    go_enter Tryz.func194, Tryz.ntmps194
    go_wp2_with fail
    go_ret
    exact ⟨rfl, h', But.refl _ _ _⟩
  | cons x r =>
    rcases h4 with h4 | ⟨g, off, rfl, h4⟩
    · simp at h4
    · have hx := h4 0 (by simp)
      simp only [List.getElem_cons_zero, Nat.add_zero] at hx
      have hne : ((r.length : Int) + 1 == 0) = false := by rw [beq_eq_false_iff_ne]; omega
      have hcap : r.length + 1 ≤ cap := by simpa using ha
      have hi1 : (1 : Int) ≤ (r.length : Int) + 1 := by omega
      simp only [List.length_cons] at hc
      rw [List.length_cons] at h1
      go_enter Tryz.func194, Tryz.ntmps194
      have h3' : B ≤ g ∧ g < p := h3 g rfl
      go_wp2_with fail
      · go_ret
        obtain rfl : r = [] := List.length_eq_zero_iff.1 (by omega)
        obtain ⟨k1, k2⟩ := h'.put (r := []) (v' := .slice (some ⟨g, off, none⟩) 0 0) ⟨_, 0, rfl, Nat.le_refl _, Nat.zero_le _, (fun e => by cases e), Or.inl rfl⟩ (fun g' hg => by cases hg; exact h3')
        exact ⟨rfl, k1, k2⟩
      · go_ret
        obtain ⟨k1, k2⟩ := h'.put (r := r) (v' := .slice (some ⟨g, off + 1, none⟩) r.length (cap - 1)) ⟨_, cap - 1, rfl, by omega, by omega, (fun e => by cases e), Or.inr ⟨g, off + 1, rfl, fun j hj => by
          have := h4 (j + 1) (by simp; omega)
          rw [List.getElem_cons_succ] at this
          rw [← this, Nat.add_assoc, Nat.add_comm 1 j]⟩⟩ (fun g' hg => by cases hg; exact h3')
        exact ⟨rfl, k1, k2⟩

set_option maxHeartbeats 400000 in
theorem below_any (B p : Nat) (l : List Int) (n : Int) (w : World) (h : Lt B p l w) (hl : Ok l) (hn : n < 9223372036854775808) :
    Calls Tryz.prog 163 #[.pointer (some ⟨p, 0, none⟩), .int .i64 n] w fun e w' => e = .returned (.int .i64 (belowS l n).1) ∧ Lt B p (belowS l n).2 w' ∧ But w.heap.size p w w' := by
  by_cases h2 : n < 2
  · have e : belowS l n = (0, l) := by unfold belowS; rw [if_pos h2]
    rw [e]
    go_enter Tryz.func163, Tryz.ntmps163
    go_wp2_with fail
    go_ret
    exact ⟨rfl, h, But.refl _ _ _⟩
  · have e : belowS l n = (l.headD 0 % n, l.tail) := by unfold belowS; rw [if_neg h2]
    rw [e]
    obtain ⟨hx0, hx1⟩ := hl.head
    have hm0 := Int.emod_nonneg (l.headD 0) (show n ≠ 0 by omega)
    have hm1 := Int.emod_lt_of_pos (l.headD 0) (show 0 < n by omega)
    clear e
    obtain ⟨x, hx⟩ : ∃ x, l.headD 0 = x := ⟨_, rfl⟩
    rw [hx] at hx0 hx1 hm0 hm1 ⊢
    have HX : Hid _ := hx
    clear hx
    go_enter Tryz.func163, Tryz.ntmps163
    go_wp2_with fail
    refine (next_any B p l _ h).mono ?_
    rw [HX.out]
    rintro e w1 ⟨rfl, h1, hb⟩
    go_wp2_with fail
    go_ret
    exact ⟨rfl, h1, hb⟩

end Go.Proofs.YtpoofjnfaijjjaaGreatDoor.Rn
