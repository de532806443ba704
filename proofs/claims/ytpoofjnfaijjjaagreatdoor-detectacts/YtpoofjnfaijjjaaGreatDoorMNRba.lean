/-
  Plain facts on lots, and on worlds: slices of numbers that are read, rows that are written, lots behind a pointer. Clone; New, Next, Below, Left. shuffled, Shuffle, Some, Same, shown. Shuffle, Some, Same, shown. Plain mathematics of bands: the nodes of a number below 2^64, what is told of them as plain functions. No program is known here. The leaves of the reference's band: node, Has, With, Less. The reference's List, Many, Both, Of. Rounds: what is answered, as plain functions; a round behind a pointer; what a call changes.
-/
import Derived.WalkSpells
import Derived.WalkLawsBesides
import Derived.Deep.LoopGhost
import Derived.Deep.QuietTactic
import Derived.BigQuiet
import Derived.Laws.Bits64b
import Derived.Laws.Bits128
import Derived.Test.YtpoofjnfaijjjaaGreatDoorMHol
namespace Go.Proofs.YtpoofjnfaijjjaaGreatDoor.Rn
open Go.RowKit
def belowS (l : List Int) (n : Int) : Int × List Int := if n < 2 then (0, l) else (l.headD 0 % n, l.tail)
def sw (s : List Int) (i k : Nat) : List Int := (s.set i (s.getD k 0)).set k (s.getD i 0)
def shufGo : Nat → List Int → List Int → List Int × List Int
  | 0, s, l => (s, l)
  | i + 1, s, l => shufGo i (sw s (i + 1) (belowS l (i + 2)).1.toNat) (belowS l (i + 2)).2
def shufS (s l : List Int) : List Int × List Int := shufGo (s.length - 1) s l
def someS (s l : List Int) (n : Int) : List Int × List Int := if n < 1 then ([], l) else ((shufS s l).1.take n.toNat, (shufS s l).2)
def Ok (l : List Int) : Prop := ∀ x ∈ l, 0 ≤ x ∧ x < 18446744073709551616
theorem Ok.tail {l : List Int} (h : Ok l) : Ok l.tail := fun x hx => h x (List.mem_of_mem_tail hx)
theorem Ok.head {l : List Int} (h : Ok l) : 0 ≤ l.headD 0 ∧ l.headD 0 < 18446744073709551616 := by
  cases l with
  | nil => decide
  | cons x r => exact h x (by simp)
theorem Ok.below {l : List Int} (h : Ok l) (n : Int) : Ok (belowS l n).2 := by
  unfold belowS; split
  · exact h
  · exact h.tail
theorem belowS_range (l : List Int) (n : Int) : 0 ≤ (belowS l n).1 ∧ (2 ≤ n → (belowS l n).1 < n) := by
  unfold belowS; split
  · exact ⟨Int.le_refl _, fun _ => by simp; omega⟩
  · exact ⟨Int.emod_nonneg _ (by omega), fun _ => Int.emod_lt_of_pos _ (by omega)⟩
theorem sw_length (s : List Int) (i k : Nat) : (sw s i k).length = s.length := by simp [sw]
theorem shufGo_length (i : Nat) : ∀ s l, (shufGo i s l).1.length = s.length := by
  induction i with
  | zero => intro s l; rfl
  | succ i ih => intro s l; rw [shufGo, ih, sw_length]
theorem shufS_length (s l : List Int) : (shufS s l).1.length = s.length := shufGo_length _ _ _
theorem shufGo_ok (i : Nat) : ∀ s l, Ok l → Ok (shufGo i s l).2 := by
  induction i with
  | zero => intro s l h; exact h
  | succ i ih => intro s l h; rw [shufGo]; exact ih _ _ (h.below _)
theorem shufS_ok (s : List Int) {l : List Int} (h : Ok l) : Ok (shufS s l).2 := shufGo_ok _ _ _ h
theorem someS_ok (s : List Int) (n : Int) {l : List Int} (h : Ok l) : Ok (someS s l n).2 := by
  unfold someS; split
  · exact h
  · exact shufS_ok s h
structure But (B p : Nat) (w w' : World) : Prop where
  os : w'.os = w.os
  tape : w'.tape = w.tape
  output : w'.output = w.output
  size : w.heap.size ≤ w'.heap.size
  block : ∀ k, k < B → k ≠ p → w'.heap[k]? = w.heap[k]?
theorem But.refl (B p : Nat) (w : World) : But B p w w := ⟨rfl, rfl, rfl, Nat.le_refl _, fun _ _ _ => rfl⟩
theorem But.trans {B p : Nat} {a b c : World} (h : But B p a b) (k : But B p b c) : But B p a c :=
  ⟨k.os.trans h.os, k.tape.trans h.tape, k.output.trans h.output, Nat.le_trans h.size k.size, fun i hi hp => (k.block i hi hp).trans (h.block i hi hp)⟩
theorem But.mono {B B' p : Nat} {w w' : World} (h : But B p w w') (hB : B' ≤ B) : But B' p w w' := ⟨h.os, h.tape, h.output, h.size, fun k hk hp => h.block k (Nat.lt_of_lt_of_le hk hB) hp⟩
theorem But.of {B p : Nat} {w w' : World} (h : Below B w w') : But B p w w' := ⟨h.os, h.tape, h.output, h.size, fun k hk _ => h.block k hk⟩
theorem But.setCell {B p : Nat} {a w : World} (h : But B p a w) {q : Addr} (hq : q.block = p ∨ B ≤ q.block) (u : Value) : But B p a (w.setCell q u) :=
  h.trans ⟨rfl, rfl, rfl, by simp [World.setCell], fun k hk hp => Below.heap_setCell _ _ _ _ (by omega)⟩
theorem But.drew {B p : Nat} {a w : World} (h : But B p a w) : But B p a w.drew := ⟨h.os, h.tape, h.output, h.size, h.block⟩
def Rd (k : IntKind) (v : Value) (l : List Int) (w : World) : Prop :=
  ∃ a cap, v = .slice a l.length cap ∧ l.length ≤ cap ∧ cap ≤ maxLen ∧ (a = none → cap = 0) ∧ (l.length = 0 ∨ ∃ g off, a = some ⟨g, off, none⟩ ∧ ∀ j (hj : j < l.length), w.cell? ⟨g, off + j, none⟩ = some (.int k l[j]))
theorem Rd.keep {k : IntKind} {v : Value} {l : List Int} {w w' : World} (h : Rd k v l w) (hw : ∀ g, v.ownBlock = some g → g < w.heap.size → w'.heap[g]? = w.heap[g]?) : Rd k v l w' := by
  obtain ⟨a, cap, rfl, h1, h2, h0, h3⟩ := h
  refine ⟨a, cap, rfl, h1, h2, h0, ?_⟩
  rcases h3 with h3 | ⟨g, off, rfl, h3⟩
  · exact Or.inl h3
  · refine Or.inr ⟨g, off, rfl, fun j hj => ?_⟩
    have hc := h3 j hj
    have hlt : g < w.heap.size := World.block_lt_of_cell? _ _ hc
    rw [← hc]
    exact World.cell?_of_block (w := w) (hw g rfl hlt)
theorem Rd.below {k : IntKind} {v : Value} {l : List Int} {w w' : World} (h : Rd k v l w) (hb : Below w.heap.size w w') : Rd k v l w' := h.keep fun g _ hg => hb.block g hg
theorem Rd.but {k : IntKind} {v : Value} {l : List Int} {w w' : World} {q : Nat} (h : Rd k v l w) (hb : But w.heap.size q w w') (hq : ∀ g, v.ownBlock = some g → g ≠ q) : Rd k v l w' := h.keep fun g hg hlt => hb.block g hlt (hq g hg)
theorem Rd.nil (k : IntKind) (w : World) : Rd k (.slice none 0 0) [] w := ⟨none, 0, rfl, Nat.le_refl _, by unfold maxLen; omega, fun _ => rfl, Or.inl rfl⟩
theorem Rd.take {k : IntKind} {a : Option Addr} {len cap : Nat} {l : List Int} {w : World} (h : Rd k (.slice a len cap) l w) (n : Nat) (hn : n ≤ l.length) : Rd k (.slice a n cap) (l.take n) w := by
  obtain ⟨a', cap', e, h1, h2, h0, h3⟩ := h
  cases e
  have hl : (l.take n).length = n := by rw [List.length_take]; omega
  refine ⟨a, cap, by rw [hl], by omega, h2, h0, ?_⟩
  rcases h3 with h3 | ⟨g, off, rfl, h3⟩
  · exact Or.inl (by omega)
  · refine Or.inr ⟨g, off, rfl, fun j hj => ?_⟩
    rw [h3 j (by omega), List.getElem_take]
structure Wn (k : IntKind) (g : Nat) (l : List Int) (w : World) : Prop where
  cell : ∀ j (hj : j < l.length), w.cell? ⟨g, j, none⟩ = some (.int k l[j])
  free : ∀ j, j < l.length → w.frozen? ⟨g, j, none⟩ = false
theorem Wn.set {k : IntKind} {g : Nat} {l : List Int} {w : World} (h : Wn k g l w) (j : Nat) (hj : j < l.length) (x : Int) : Wn k g (l.set j x) (w.setCell ⟨g, j, none⟩ (.int k x)) := by
  refine ⟨fun i hi => ?_, fun i hi => ?_⟩
  · rw [List.length_set] at hi
    by_cases e : j = i
    · subst e
      rw [World.cell?_setCell_same _ _ _ (h.cell j hj)]
      simp
    · rw [World.cell?_setCell_other _ _ _ _ (by intro c; exact e (congrArg Addr.off c)), h.cell i hi]
      simp [List.getElem_set_ne e]
  · rw [List.length_set] at hi
    rw [World.frozen?_setCell]; exact h.free i hi
theorem Wn.drew {k : IntKind} {g : Nat} {l : List Int} {w : World} (h : Wn k g l w) : Wn k g l w.drew := ⟨fun j hj => by have := h.cell j hj; simpa using this, fun j hj => by have := h.free j hj; simpa using this⟩
theorem Wn.keep {k : IntKind} {g : Nat} {l : List Int} {w w' : World} (h : Wn k g l w) (e : w'.heap[g]? = w.heap[g]?) : Wn k g l w' :=
  ⟨fun j hj => (World.cell?_of_block (w := w) (a := ⟨g, j, none⟩) e).trans (h.cell j hj), fun j hj => (World.frozen?_of_block (w := w) (a := ⟨g, j, none⟩) e).trans (h.free j hj)⟩
theorem Wn.rd {k : IntKind} {g : Nat} {l : List Int} {w : World} (h : Wn k g l w) {cap : Nat} (h1 : l.length ≤ cap) (h2 : cap ≤ maxLen) : Rd k (.slice (some ⟨g, 0, none⟩) l.length cap) l w :=
  ⟨_, cap, rfl, h1, h2, (fun e => by cases e), Or.inr ⟨g, 0, rfl, fun j hj => by rw [Nat.zero_add]; exact h.cell j hj⟩⟩
theorem Wn.of {k : IntKind} {E : TypeId} {B : Nat} {v : Value} {l : List Int} {w : World} (h : w.ownsRow B E 1 v l.length (l.map (Value.int k))) :
    (v = .slice none 0 0 ∧ l = []) ∨ ∃ g cap, v = .slice (some ⟨g, 0, none⟩) l.length cap ∧ B ≤ g ∧ g < w.heap.size ∧ l.length ≤ cap ∧ cap ≤ maxLen ∧ Wn k g l w := by
  rcases h.2 with ⟨hv, hn⟩ | ⟨g, cap, cur, hv, hg, hh, h1, h2, h3, h4⟩
  · exact Or.inl ⟨hv, List.length_eq_zero_iff.1 hn⟩
  · refine Or.inr ⟨g, cap, hv, hg, (Array.getElem?_eq_some_iff.1 hh).1, h1, h2, fun j hj => ?_, fun j _ => by simp [World.frozen?, hh]⟩
    have := World.ownsRow.cells h (g := g) (by rw [hv]; rfl) j (.int k l[j]) (by simp [List.getElem?_eq_getElem hj])
    rw [← this]
    unfold Addr.add; split <;> simp_all
structure Lt (B p : Nat) (l : List Int) (w : World) : Prop where
  ex : ∃ v, w.heap[p]? = some (.cells #[v] 108 (0, 0)) ∧ Rd .u64 v l w ∧ ∀ g, v.ownBlock = some g → B ≤ g ∧ g < p
  le : B ≤ p
theorem Lt.lt {B p : Nat} {l : List Int} {w : World} (h : Lt B p l w) : p < w.heap.size := by
  obtain ⟨v, h1, _⟩ := h.ex
  exact (Array.getElem?_eq_some_iff.1 h1).1
theorem Lt.keep {B p : Nat} {l : List Int} {w w' : World} (h : Lt B p l w) (hw : ∀ g, B ≤ g → g ≤ p → w'.heap[g]? = w.heap[g]?) : Lt B p l w' := by
  obtain ⟨⟨v, h1, h2, h3⟩, hB⟩ := h
  exact ⟨⟨v, (hw p hB (Nat.le_refl _)).trans h1, h2.keep fun g hg _ => hw g (h3 g hg).1 (Nat.le_of_lt (h3 g hg).2), h3⟩, hB⟩
theorem Lt.below {B p : Nat} {l : List Int} {w w' : World} (h : Lt B p l w) (hb : Below w.heap.size w w') : Lt B p l w' := by
  have := h.lt
  exact h.keep fun g _ hg => hb.block g (by omega)
theorem Lt.drew {B p : Nat} {l : List Int} {w : World} (h : Lt B p l w) : Lt B p l w.drew := h.keep fun _ _ _ => rfl
theorem Tryz.infoU64 : (Tryz.prog.info? 34).map (fun i => (i.zero, i.size, i.bytes)) = some (some (.int .u64 0), 1, 8) := by kernel_rfl
theorem Tryz.infoInt : (Tryz.prog.info? 3).map (fun i => (i.zero, i.size, i.bytes)) = some (some (.int .i64 0), 1, 8) := by kernel_rfl
theorem oneCells (k : IntKind) (l : List Int) : ∀ u ∈ l.map (Value.int k), u.oneCell' = true := by
  intro u hu
  obtain ⟨x, _, rfl⟩ := List.mem_map.1 hu
  rfl
theorem Rd.cells {k : IntKind} {a : Addr} {cap : Nat} {l : List Int} {w : World} (h : Rd k (.slice (some a) l.length cap) l w) : ∀ j u, (l.map (Value.int k))[j]? = some u → w.cell? (a.add j) = some u := by
  obtain ⟨a', cap', e, _, _, _, h3⟩ := h
  cases e
  intro j u hu
  have hj : j < l.length := by
    have := (List.getElem?_eq_some_iff.1 hu).1
    simpa using this
  rcases h3 with h3 | ⟨g, off, e, h3⟩
  · omega
  · cases e
    have := h3 j hj
    rw [List.getElem?_map, List.getElem?_eq_getElem hj] at hu
    simp at hu
    subst hu
    rw [← this]
    unfold Addr.add; split <;> simp_all
set_option maxHeartbeats 400000 in
theorem cloneU_some (a : Addr) (cap : Nat) (l : List Int) (w : World) (hl : l.length ≤ 1000000) (h : Rd .u64 (.slice (some a) l.length cap) l w) :
    Calls Tryz.prog 37 #[.slice (some a) l.length cap] w fun e w' => ∃ v, e = .returned v ∧ w'.ownsRow w.heap.size 34 1 v l.length (l.map (Value.int .u64)) ∧ Below w.heap.size w w' := by
  obtain ⟨i0, hi, hz0, hz1, hz2⟩ := info_parts Tryz.infoU64
  have hc := h.cells
  have hq : ∀ (w : World) (a : Option Addr) (n c n' c' : Nat), (binOp .eql 22 (.slice a n c) (.slice none n' c')).run Tryz.prog w = .ok (.bool a.isNone) w := fun w a n c n' c' => Lib.run_eql_slice_nil w _ _ a n c n' c' Tryz.underlying22
  have hc2 : ∀ (j : Nat) (u : Value), (l.map (Value.int .u64))[j]? = some u → (w.alloc (.cells #[] 34)).cell? (a.add j) = some u := fun j u hu => (World.cell?_of_block (w := w) (Below.heap_alloc _ _ _ (World.block_lt_of_cell? _ _ (hc j u hu)))).trans (hc j u hu)
  clear hc
  go_enter Tryz.func37, Tryz.ntmps37
  go_wp2_with (at_builtin; refine wpList_append_own _ rfl (.tmp 5) (.tmp 6) 22 rfl w.heap.size 34 i0 (.int .u64 0) 1 8 Tryz.underlying22 hi hz0 hz1 hz2 rfl (by decide) _ 0 [] rfl (World.ownsRow_made w #[] 0 (Nat.le_refl _) (Nat.zero_le _) rfl) a l.length cap (l.map (Value.int .u64)) rfl (by simp) hc2 (oneCells .u64 l) (by unfold maxLen; omega) (by omega) (by simp) ?_; intro v w1 hown hgr _)
  go_ret
  refine ⟨v, rfl, ?_, ?_⟩
  · simpa using hown
  · exact ((Below.refl _ w).alloc (Nat.le_refl _) _).grown hgr (by simp) (fun k hk => by cases hk; exact Nat.le_refl _)
set_option maxHeartbeats 400000 in
theorem cloneU_none (cap : Nat) (w : World) :
    Calls Tryz.prog 37 #[.slice none 0 cap] w fun e w' => ∃ v, e = .returned v ∧ w'.ownsRow w.heap.size 34 1 v 0 [] ∧ Below w.heap.size w w' := by
  have hq : ∀ (w : World) (a : Option Addr) (n c n' c' : Nat), (binOp .eql 22 (.slice a n c) (.slice none n' c')).run Tryz.prog w = .ok (.bool a.isNone) w := fun w a n c n' c' => Lib.run_eql_slice_nil w _ _ a n c n' c' Tryz.underlying22
  go_enter Tryz.func37, Tryz.ntmps37
  go_wp2_with fail
  go_ret
  exact ⟨_, rfl, World.ownsRow_nil _ _ _ _, Below.refl _ _⟩
theorem cloneU_any (v : Value) (l : List Int) (w : World) (hl : l.length ≤ 1000000) (h : Rd .u64 v l w) :
    Calls Tryz.prog 37 #[v] w fun e w' => ∃ v, e = .returned v ∧ w'.ownsRow w.heap.size 34 1 v l.length (l.map (Value.int .u64)) ∧ Below w.heap.size w w' := by
  have h' := h
  obtain ⟨a, cap, rfl, h1, _, h0, _⟩ := h'
  cases a with
  | none =>
    have hn := List.length_eq_zero_iff.1 (show l.length = 0 by have := h0 rfl; omega)
    subst hn
    exact cloneU_none cap w
  | some a => exact cloneU_some a cap l w hl h
set_option maxHeartbeats 400000 in
theorem cloneI_some (a : Addr) (cap : Nat) (l : List Int) (w : World) (hl : l.length ≤ 1000000) (h : Rd .i64 (.slice (some a) l.length cap) l w) :
    Calls Tryz.prog 153 #[.slice (some a) l.length cap] w fun e w' => ∃ v, e = .returned v ∧ w'.ownsRow w.heap.size 3 1 v l.length (l.map (Value.int .i64)) ∧ Below w.heap.size w w' := by
  obtain ⟨i0, hi, hz0, hz1, hz2⟩ := info_parts Tryz.infoInt
  have hc := h.cells
  have hq : ∀ (w : World) (a : Option Addr) (n c n' c' : Nat), (binOp .eql 82 (.slice a n c) (.slice none n' c')).run Tryz.prog w = .ok (.bool a.isNone) w := fun w a n c n' c' => Lib.run_eql_slice_nil w _ _ a n c n' c' Tryz.underlying82
  have hc2 : ∀ (j : Nat) (u : Value), (l.map (Value.int .i64))[j]? = some u → (w.alloc (.cells #[] 3)).cell? (a.add j) = some u := fun j u hu => (World.cell?_of_block (w := w) (Below.heap_alloc _ _ _ (World.block_lt_of_cell? _ _ (hc j u hu)))).trans (hc j u hu)
  clear hc
  go_enter Tryz.func153, Tryz.ntmps153
  go_wp2_with (at_builtin; refine wpList_append_own _ rfl (.tmp 5) (.tmp 6) 82 rfl w.heap.size 3 i0 (.int .i64 0) 1 8 Tryz.underlying82 hi hz0 hz1 hz2 rfl (by decide) _ 0 [] rfl (World.ownsRow_made w #[] 0 (Nat.le_refl _) (Nat.zero_le _) rfl) a l.length cap (l.map (Value.int .i64)) rfl (by simp) hc2 (oneCells .i64 l) (by unfold maxLen; omega) (by omega) (by simp) ?_; intro v w1 hown hgr _)
  go_ret
  refine ⟨v, rfl, ?_, ?_⟩
  · simpa using hown
  · exact ((Below.refl _ w).alloc (Nat.le_refl _) _).grown hgr (by simp) (fun k hk => by cases hk; exact Nat.le_refl _)
set_option maxHeartbeats 400000 in
theorem cloneI_none (cap : Nat) (w : World) :
    Calls Tryz.prog 153 #[.slice none 0 cap] w fun e w' => ∃ v, e = .returned v ∧ w'.ownsRow w.heap.size 3 1 v 0 [] ∧ Below w.heap.size w w' := by
  have hq : ∀ (w : World) (a : Option Addr) (n c n' c' : Nat), (binOp .eql 82 (.slice a n c) (.slice none n' c')).run Tryz.prog w = .ok (.bool a.isNone) w := fun w a n c n' c' => Lib.run_eql_slice_nil w _ _ a n c n' c' Tryz.underlying82
  go_enter Tryz.func153, Tryz.ntmps153
  go_wp2_with fail
  go_ret
  exact ⟨_, rfl, World.ownsRow_nil _ _ _ _, Below.refl _ _⟩
theorem cloneI_any (v : Value) (l : List Int) (w : World) (hl : l.length ≤ 1000000) (h : Rd .i64 v l w) :
    Calls Tryz.prog 153 #[v] w fun e w' => ∃ v, e = .returned v ∧ w'.ownsRow w.heap.size 3 1 v l.length (l.map (Value.int .i64)) ∧ Below w.heap.size w w' := by
  have h' := h
  obtain ⟨a, cap, rfl, h1, _, h0, _⟩ := h'
  cases a with
  | none =>
    have hn := List.length_eq_zero_iff.1 (show l.length = 0 by have := h0 rfl; omega)
    subst hn
    exact cloneI_none cap w
  | some a => exact cloneI_some a cap l w hl h
theorem Rd.of {k : IntKind} {E : TypeId} {B : Nat} {v : Value} {l : List Int} {w : World} (h : w.ownsRow B E 1 v l.length (l.map (Value.int k))) : Rd k v l w := by
  rcases Wn.of h with ⟨rfl, rfl⟩ | ⟨g, cap, rfl, _, _, h1, h2, hw⟩
  · exact Rd.nil _ _
  · exact hw.rd h1 h2
theorem Lt.put {B p : Nat} {l r : List Int} {w : World} {v' : Value} (h : Lt B p l w) (hv : Rd .u64 v' r w) (hg : ∀ g, v'.ownBlock = some g → B ≤ g ∧ g < p) :
    Lt B p r (w.setCell ⟨p, 0, none⟩ v') ∧ But w.heap.size p w (w.setCell ⟨p, 0, none⟩ v') := by
  obtain ⟨⟨v, h1, h2, h3⟩, hB⟩ := h
  refine ⟨⟨⟨v', ?_, hv.keep fun g hg' _ => Below.heap_setCell _ _ _ _ (by have := (hg g hg').2; simp; omega), hg⟩, hB⟩, (But.refl w.heap.size p w).setCell (q := ⟨p, 0, none⟩) (Or.inl rfl) v'⟩
  simp [World.setCell, Array.getElem?_modify, h1]
set_option maxHeartbeats 400000 in
theorem new_any (v : Value) (l : List Int) (w : World) (hl : l.length ≤ 1000000) (h : Rd .u64 v l w) :
    Calls Tryz.prog 11 #[v] w fun e w' => (∃ p, e = .returned (.pointer (some ⟨p, 0, none⟩)) ∧ Lt w.heap.size p l w') ∧ Below w.heap.size w w' := by
  go_enter Tryz.func11, Tryz.ntmps11
  go_wp2_with fail
  refine (cloneU_any v l _ hl h).mono ?_
  rintro e w1 ⟨u, rfl, hown, hb⟩
  obtain ⟨a, n, cap, rfl⟩ : ∃ a n cap, u = .slice a n cap := by
    obtain ⟨a, cap, rfl, _⟩ := Rd.of hown
    exact ⟨a, _, cap, rfl⟩
  go_wp2_with fail
  go_ret
  have hz := hb.size
  refine ⟨⟨w1.heap.size, rfl, ⟨_, heap_alloc_new w1 _, (Rd.of hown).below ((Below.refl _ _).alloc (Nat.le_refl _) _), fun g hg => hown.lt g hg⟩, hz⟩, hb.alloc hz _⟩
set_option maxHeartbeats 400000 in
theorem left_any (B p : Nat) (l : List Int) (w : World) (h : Lt B p l w) :
    Calls Tryz.prog 22 #[.pointer (some ⟨p, 0, none⟩)] w fun e w' => e = .returned (.int .i64 l.length) ∧ w' = w := by
  obtain ⟨⟨v, h1, h2, h3⟩, hB⟩ := h
  obtain ⟨a, cap, rfl, _⟩ := h2
  have hc : w.cell? ⟨p, 0, none⟩ = some (.slice a l.length cap) := by simp [World.cell?, h1]
  go_enter Tryz.func22, Tryz.ntmps22
  go_wp2_with fail
  go_ret
  exact ⟨rfl, rfl⟩
set_option maxHeartbeats 400000 in
theorem next_any (B p : Nat) (l : List Int) (w : World) (h : Lt B p l w) :
    Calls Tryz.prog 194 #[.pointer (some ⟨p, 0, none⟩)] w fun e w' => e = .returned (.int .u64 (l.headD 0)) ∧ Lt B p l.tail w' ∧ But w.heap.size p w w' := by
  have h' := h
  obtain ⟨⟨v, h1, h2, h3⟩, hB⟩ := h
  obtain ⟨a, cap, rfl, ha, hb, h0, h4⟩ := h2
  have hc : w.cell? ⟨p, 0, none⟩ = some (.slice a l.length cap) := by simp [World.cell?, h1]
  have hf : w.frozen? ⟨p, 0, none⟩ = false := by simp [World.frozen?, h1]
  cases l with
  | nil =>
    clear h4 h0 h3
    go_enter Tryz.func194, Tryz.ntmps194
    go_wp2_with fail
    go_ret
    exact ⟨rfl, h', But.refl _ _ _⟩
  | cons x r =>
    rcases h4 with h4 | ⟨g, off, rfl, h4⟩
    · simp at h4
    · have hx := h4 0 (by simp)
      simp only [List.getElem_cons_zero, Nat.add_zero] at hx
      have hne : ((r.length : Int) + 1 == 0) = false := by rw [beq_eq_false_iff_ne]; omega
      have hcap : r.length + 1 ≤ cap := by simpa using ha
      have hi1 : (1 : Int) ≤ (r.length : Int) + 1 := by omega
      simp only [List.length_cons] at hc
      rw [List.length_cons] at h1
      go_enter Tryz.func194, Tryz.ntmps194
      have h3' : B ≤ g ∧ g < p := h3 g rfl
      go_wp2_with fail
      · go_ret
        obtain rfl : r = [] := List.length_eq_zero_iff.1 (by omega)
        obtain ⟨k1, k2⟩ := h'.put (r := []) (v' := .slice (some ⟨g, off, none⟩) 0 0) ⟨_, 0, rfl, Nat.le_refl _, Nat.zero_le _, (fun e => by cases e), Or.inl rfl⟩ (fun g' hg => by cases hg; exact h3')
        exact ⟨rfl, k1, k2⟩
      · go_ret
        obtain ⟨k1, k2⟩ := h'.put (r := r) (v' := .slice (some ⟨g, off + 1, none⟩) r.length (cap - 1)) ⟨_, cap - 1, rfl, by omega, by omega, (fun e => by cases e), Or.inr ⟨g, off + 1, rfl, fun j hj => by
          have := h4 (j + 1) (by simp; omega)
          rw [List.getElem_cons_succ] at this
          rw [← this, Nat.add_assoc, Nat.add_comm 1 j]⟩⟩ (fun g' hg => by cases hg; exact h3')
        exact ⟨rfl, k1, k2⟩
set_option maxHeartbeats 400000 in
theorem below_any (B p : Nat) (l : List Int) (n : Int) (w : World) (h : Lt B p l w) (hl : Ok l) (hn : n < 9223372036854775808) :
    Calls Tryz.prog 163 #[.pointer (some ⟨p, 0, none⟩), .int .i64 n] w fun e w' => e = .returned (.int .i64 (belowS l n).1) ∧ Lt B p (belowS l n).2 w' ∧ But w.heap.size p w w' := by
  by_cases h2 : n < 2
  · have e : belowS l n = (0, l) := by unfold belowS; rw [if_pos h2]
    rw [e]
    go_enter Tryz.func163, Tryz.ntmps163
    go_wp2_with fail
    go_ret
    exact ⟨rfl, h, But.refl _ _ _⟩
  · have e : belowS l n = (l.headD 0 % n, l.tail) := by unfold belowS; rw [if_neg h2]
    rw [e]
    obtain ⟨hx0, hx1⟩ := hl.head
    have hm0 := Int.emod_nonneg (l.headD 0) (show n ≠ 0 by omega)
    have hm1 := Int.emod_lt_of_pos (l.headD 0) (show 0 < n by omega)
    clear e
    obtain ⟨x, hx⟩ : ∃ x, l.headD 0 = x := ⟨_, rfl⟩
    rw [hx] at hx0 hx1 hm0 hm1 ⊢
    have HX : Hid _ := hx
    clear hx
    go_enter Tryz.func163, Tryz.ntmps163
    go_wp2_with fail
    refine (next_any B p l _ h).mono ?_
    rw [HX.out]
    rintro e w1 ⟨rfl, h1, hb⟩
    go_wp2_with fail
    go_ret
    exact ⟨rfl, h1, hb⟩
theorem shufGo_step (J : Nat) (hJ : 1 ≤ J) (s l : List Int) : shufGo J s l = shufGo (J - 1) (sw s J (belowS l ((J : Int) + 1)).1.toNat) (belowS l ((J : Int) + 1)).2 := by
  obtain ⟨i, rfl⟩ : ∃ i, J = i + 1 := ⟨J - 1, by omega⟩
  have e : ((i + 1 : Nat) : Int) + 1 = (i : Int) + 2 := by omega
  rw [e, shufGo]
  rfl
theorem sw_eq (s : List Int) (i k : Nat) (hi : i < s.length) (hk : k < s.length) : (s.set i s[k]).set k s[i] = sw s i k := by
  simp [sw, List.getD, List.getElem?_eq_getElem hi, List.getElem?_eq_getElem hk]
set_option maxHeartbeats 1000000 in
theorem shuffled_any (B p : Nat) (v : Value) (s l : List Int) (w : World) (hs : s.length ≤ 1000000) (hv : Rd .i64 v s w) (h : Lt B p l w) (hl : Ok l) :
    Calls Tryz.prog 170 #[v, .func (.func 163) #[.pointer (some ⟨p, 0, none⟩)] #[]] w fun e w' => (∃ v', e = .returned v' ∧ Rd .i64 v' (shufS s l).1 w' ∧ ∀ g, v'.ownBlock = some g → w.heap.size ≤ g ∧ g < w'.heap.size) ∧ Lt B p (shufS s l).2 w' ∧ But w.heap.size p w w' := by
  go_enter Tryz.func170, Tryz.ntmps170
  go_wp2_with fail
  refine (cloneI_any v s _ hs hv).mono ?_
  rintro e w1 ⟨u, rfl, hown, hb⟩
  have h1 := h.below hb
  have hz := hb.size
  rcases Wn.of hown with ⟨rfl, rfl⟩ | ⟨g, cap, rfl, hg1, hg2, hc1, hc2, hw⟩
  · go_wp2_with fail
    go_loopg [6] 0 (fun gk t6 wr => t6 = .int .i64 (-1) ∧ wr = w1)
    case atStart => exact ⟨rfl, rfl⟩
    case round =>
      obtain ⟨rfl, rfl⟩ := hrel
      go_wp2_with fail
      go_ret
      exact ⟨⟨_, rfl, Rd.nil _ _, fun g hg => by cases hg⟩, h1, But.of hb⟩
  · have hpz := h.lt
    clear hown hv h
    go_wp2_with fail
    go_loopg [6] s.length (fun gk t6 wr => ∃ (j : Int) (s' l' : List Int), t6 = .int .i64 j ∧ j ≤ gk ∧ -1 ≤ j ∧ j < s.length ∧ s'.length = s.length ∧ Ok l' ∧ shufGo j.toNat s' l' = shufS s l ∧ Wn .i64 g s' wr ∧ Lt B p l' wr ∧ But w.heap.size p w wr ∧ w1.heap.size ≤ wr.heap.size)
    case atStart => exact ⟨(s.length : Int) - 1, s, l, rfl, by omega, by omega, by omega, rfl, hl, by rw [shufS]; congr 1; omega, hw, h1, But.of hb, Nat.le_refl _⟩
    case round =>
      obtain ⟨j, s', l', rfl, hj1, hj2, hj3, hsl, hok, hsh, hW, hL, hB, hZ⟩ := hrel
      by_cases hj : 0 < j
      · obtain ⟨J, rfl⟩ : ∃ J : Nat, j = J := ⟨j.toNat, by omega⟩
        have hst := shufGo_step J (by omega) s' l'
        have hr := belowS_range l' ((J : Int) + 1)
        obtain ⟨k, hk⟩ : ∃ k : Nat, (belowS l' ((J : Int) + 1)).1 = k := ⟨(belowS l' ((J : Int) + 1)).1.toNat, by omega⟩
        rw [hk] at hr hst
        have hkJ : k ≤ J := by have := hr.2 (by omega); omega
        have hkl : k < s'.length := by omega
        have hJl : J < s'.length := by omega
        have HST : Hid _ := hst
        have HK : Hid _ := hk
        clear hst hr hk
        go_wp2_with fail
        refine (below_any B p l' ((J : Int) + 1) _ hL hok (by omega)).mono ?_
        rw [HK.out]
        rintro e w2 ⟨rfl, hL2, hB2⟩
        have hgp : g ≠ p := by omega
        have hW2 := hW.keep (hB2.block g (by omega) hgp)
        have c1 := hW2.cell J hJl
        have c2 := hW2.cell k hkl
        have f1 := hW2.free J hJl
        have f2 := hW2.free k hkl
        have i0 : (0 : Int) ≤ J := by omega
        have i1 : (J : Int) < s.length := by omega
        have i2 : (0 : Int) ≤ k := by omega
        have i3 : (k : Int) < s.length := by omega
        go_wp2_with fail
        have hW3 := (hW2.set J hJl s'[k]).set k (by rw [List.length_set]; exact hkl) s'[J]
        rw [sw_eq s' J k hJl hkl] at hW3
        have HW3 : Hid _ := hW3
        clear hW3
        have c3 := (hW2.set J hJl s'[k]).cell k (by rw [List.length_set]; exact hkl)
        generalize (s'.set J s'[k])[k]'(by rw [List.length_set]; exact hkl) = y at c3
        generalize s'[k] = x1 at *
        generalize s'[J] = x2 at *
        go_region
        all_goals go_wp2_with fail
        all_goals go_roundg (gk - 1)
        case rel =>
          refine ⟨(J : Int) - 1, sw s' J k, (belowS l' ((J : Int) + 1)).2, by go_num, by omega, by omega, by omega, by rw [sw_length]; exact hsl, hok.below _, ?_, HW3.out.drew, ?_, ?_, ?_⟩
          · rw [show ((J : Int) - 1).toNat = J - 1 by omega, ← hsh]
            exact HST.out.symm
          · exact hL2.keep fun q _ hq => (Below.heap_setCell _ _ _ _ (show q ≠ g by omega)).trans (Below.heap_setCell _ _ _ _ (show q ≠ g by omega))
          · exact (((hB.trans (hB2.mono hB.size)).setCell (q := ⟨g, J, none⟩) (Or.inr hg1) _).setCell (q := ⟨g, k, none⟩) (Or.inr hg1) _).drew
          · have := hB2.size
            show _ ≤ ((w2.setCell _ _).setCell _ _).heap.size
            simp [World.setCell]
            omega
        case measure => omega
      · go_wp2_with fail
        go_ret
        have e0 : j.toNat = 0 := by omega
        rw [e0, shufGo] at hsh
        rw [← hsh, ← hsl]
        refine ⟨⟨_, rfl, hW.rd (by omega) hc2, fun g' hg' => by cases hg'; exact ⟨hg1, show g < wr.heap.size by omega⟩⟩, hL, hB⟩
set_option maxHeartbeats 400000 in
theorem shuffle_any (B p : Nat) (v : Value) (s l : List Int) (w : World) (hs : s.length ≤ 1000000) (hv : Rd .i64 v s w) (h : Lt B p l w) (hl : Ok l) :
    Calls Tryz.prog 133 #[.pointer (some ⟨p, 0, none⟩), v] w fun e w' => (∃ v', e = .returned v' ∧ Rd .i64 v' (shufS s l).1 w' ∧ ∀ g, v'.ownBlock = some g → w.heap.size ≤ g ∧ g < w'.heap.size) ∧ Lt B p (shufS s l).2 w' ∧ But w.heap.size p w w' := by
  go_enter Tryz.func133, Tryz.ntmps133
  go_wp2_with fail
  refine (shuffled_any B p v s l _ hs hv h hl).mono ?_
  rintro e w1 ⟨⟨v', rfl, h1, h2⟩, h3, h4⟩
  go_wp2_with fail
  go_ret
  exact ⟨⟨_, rfl, h1, h2⟩, h3, h4⟩
theorem ownBlock_slice (a : Option Addr) (n c n' c' : Nat) : (Value.slice a n c).ownBlock = (Value.slice a n' c').ownBlock := by cases a <;> rfl
set_option maxHeartbeats 400000 in
theorem some_any (B p : Nat) (v : Value) (s l : List Int) (n : Int) (w : World) (hs : s.length ≤ 1000000) (hn : n < 9223372036854775808) (hv : Rd .i64 v s w) (h : Lt B p l w) (hl : Ok l) :
    Calls Tryz.prog 155 #[.pointer (some ⟨p, 0, none⟩), v, .int .i64 n] w fun e w' => (∃ v', e = .returned v' ∧ Rd .i64 v' (someS s l n).1 w' ∧ ∀ g, v'.ownBlock = some g → w.heap.size ≤ g ∧ g < w'.heap.size) ∧ Lt B p (someS s l n).2 w' ∧ But w.heap.size p w w' := by
  by_cases h1 : n < 1
  · have e : someS s l n = ([], l) := by unfold someS; rw [if_pos h1]
    rw [e]
    go_enter Tryz.func155, Tryz.ntmps155
    go_wp2_with fail
    go_ret
    exact ⟨⟨_, rfl, Rd.nil _ _, fun g hg => by cases hg⟩, h, But.refl _ _ _⟩
  · have e : someS s l n = ((shufS s l).1.take n.toNat, (shufS s l).2) := by unfold someS; rw [if_neg h1]
    rw [e]
    clear e
    have hsl := shufS_length s l
    go_enter Tryz.func155, Tryz.ntmps155
    go_wp2_with fail
    refine (shuffle_any B p v s l _ hs hv h hl).mono ?_
    rintro e w1 ⟨⟨v', rfl, h2, h3⟩, h4, h5⟩
    have h2' := h2
    obtain ⟨a, cap, rfl, hc1, hc2, h0, _⟩ := h2'
    rw [hsl] at hc1 h2 h3 ⊢
    have hci : (s.length : Int) ≤ cap := by omega
    by_cases hm : n ≤ s.length
    · obtain ⟨m, rfl⟩ : ∃ m : Nat, n = m := ⟨n.toNat, by omega⟩
      have hmc : (m : Int) ≤ cap := by omega
      go_wp2_with fail
      go_ret
      exact ⟨⟨.slice a m cap, rfl, h2.take m (by omega), fun g hg => h3 g ((ownBlock_slice _ _ _ _ _).trans hg)⟩, h4, h5⟩
    · go_wp2_with fail
      go_ret
      rw [List.take_of_length_le (by omega)]
      exact ⟨⟨.slice a s.length cap, rfl, h2, h3⟩, h4, h5⟩
theorem Rd.lit (k : IntKind) (E : TypeId) (l : List Int) (w : World) (hl : l.length ≤ 1000000) : Rd k (.slice (some ⟨w.heap.size, 0, none⟩) l.length l.length) l (w.alloc (.cells (l.map (Value.int k)).toArray E)) := by
  refine ⟨_, _, rfl, Nat.le_refl _, by unfold maxLen; omega, (fun e => by cases e), Or.inr ⟨_, 0, rfl, fun j hj => ?_⟩⟩
  have : (w.alloc (.cells (l.map (Value.int k)).toArray E)).heap[w.heap.size]? = some (.cells (l.map (Value.int k)).toArray E (0, 0)) := heap_alloc_new w _
  unfold World.cell?
  rw [this]
  simp [hj]
end Go.Proofs.YtpoofjnfaijjjaaGreatDoor.Rn
namespace Go.Proofs.YtpoofjnfaijjjaaGreatDoor.Rn
open Go
abbrev lim : Nat := 18446744073709551616
def nodesS (b : Nat) : List Nat := (List.range 64).filter (fun i => b.testBit i)
def lst (b : Nat) : List Int := (nodesS b).map (fun (i : Nat) => (i : Int))
def nodeS (n : Int) : Bool := decide (0 ≤ n) && decide (n < 64)
def bitS (n : Int) : Nat := if nodeS n then 2 ^ n.toNat else 0
def hasS (b : Nat) (n : Int) : Bool := nodeS n && b.testBit n.toNat
def lessS (b : Nat) (n : Int) : Nat := if hasS b n then b - 2 ^ n.toNat else b
def manyS (b : Nat) : Nat := (nodesS b).length
theorem nodeS_iff (n : Int) : nodeS n = true ↔ 0 ≤ n ∧ n < 64 := by simp [nodeS]
theorem bitS_lt (n : Int) : bitS n < lim := by
  unfold bitS
  split
  · rename_i h
    obtain ⟨h1, h2⟩ := (nodeS_iff n).1 h
    have : 2 ^ n.toNat ≤ 2 ^ 63 := Nat.pow_le_pow_right (by decide) (by omega)
    exact Nat.lt_of_le_of_lt this (by decide)
  · decide
theorem lst_length (b : Nat) : (lst b).length = manyS b := by simp [lst, manyS]
end Go.Proofs.YtpoofjnfaijjjaaGreatDoor.Rn
namespace Go.Proofs.YtpoofjnfaijjjaaGreatDoor.Rn
open Go.RowKit
theorem wrap_nat (x : Nat) (h : x < lim) : IntKind.u64.wrap (x : Int) = (x : Int) := by
  rw [IntKind.wrap_u64]; unfold lim at h; omega
theorem wrap_pow (n : Int) (h : nodeS n = true) : IntKind.u64.wrap (2 ^ n.toNat) = (bitS n : Int) := by
  have e : ((2 ^ n.toNat : Nat) : Int) = 2 ^ n.toNat := by simp
  have hb := bitS_lt n
  unfold bitS at hb ⊢
  rw [if_pos h] at hb ⊢
  rw [← e]
  exact wrap_nat _ hb
theorem shr_bit (b k : Nat) (hb : b < lim) : bits BinOp.and IntKind.u64 ((b : Int) / 2 ^ k) 1 = if b.testBit k then 1 else 0 := by
  have e : (b : Int) / 2 ^ k = ((b / 2 ^ k : Nat) : Int) := by simp
  rw [e, show (1 : Int) = ((1 : Nat) : Int) from rfl, bits_and_u64_nat _ _ (Nat.lt_of_le_of_lt (Nat.div_le_self _ _) hb) (by decide), Nat.and_one_is_mod, Nat.testBit_eq_decide_div_mod_eq]
  rcases Nat.mod_two_eq_zero_or_one (b / 2 ^ k) with h | h <;> simp [h]
set_option maxHeartbeats 1000000 in
theorem node_any (n : Int) (w : World) : Calls Tryz.prog 66 #[.int .i64 n] w fun e w' => e = .returned (.bool (nodeS n)) ∧ w' = w := by
  unfold nodeS
  go_enter Tryz.func66, Tryz.ntmps66
  go_wp2
  all_goals go_ret
  all_goals (simp_all <;> omega)
set_option maxHeartbeats 1000000 in
theorem rhas_any (b : Nat) (hb : b < lim) (n : Int) (w : World) : Calls Tryz.prog 30 #[.int .u64 b, .int .i64 n] w fun e w' => e = .returned (.bool (hasS b n)) ∧ w' = w := by
  unfold hasS
  cases h : nodeS n
  · go_enter Tryz.func30, Tryz.ntmps30
    go_wp2_with fail
    refine (node_any n w).mono ?_
    rw [h]
    rintro e w1 ⟨rfl, rfl⟩
    go_wp2_with fail
    go_ret
    exact ⟨rfl, rfl⟩
  · obtain ⟨h0, h1⟩ := (nodeS_iff n).1 h
    have ha := shr_bit b n.toNat hb
    cases h2 : b.testBit n.toNat
    all_goals
      rw [h2] at ha
      simp only [Bool.false_eq_true, if_false, if_true] at ha
      go_enter Tryz.func30, Tryz.ntmps30
      go_wp2_with fail
      refine (node_any n w).mono ?_
      rw [h]
      rintro e w1 ⟨rfl, rfl⟩
      go_wp2_with fail
      go_ret
      exact ⟨rfl, rfl⟩
theorem pow_le_of_bit (b k : Nat) (h : b.testBit k = true) : 2 ^ k ≤ b := Nat.ge_two_pow_of_testBit h
theorem sub_has (b : Nat) (n : Int) (hb : b < lim) (h : hasS b n = true) : IntKind.u64.wrap ((b : Int) - (bitS n : Int)) = (lessS b n : Int) := by
  unfold lessS
  rw [if_pos h]
  unfold hasS at h
  rw [Bool.and_eq_true] at h
  have h2 := pow_le_of_bit _ _ h.2
  unfold bitS
  rw [if_pos h.1]
  generalize 2 ^ n.toNat = p at h2
  rw [show (b : Int) - (p : Int) = ((b - p : Nat) : Int) by omega]
  exact wrap_nat _ (by omega)
set_option maxHeartbeats 1000000 in
theorem rless_any (b : Nat) (hb : b < lim) (n : Int) (w : World) : Calls Tryz.prog 29 #[.int .u64 b, .int .i64 n] w fun e w' => e = .returned (.int .u64 (lessS b n)) ∧ w' = w := by
  cases h : hasS b n
  · have hz : lessS b n = b := by unfold lessS; rw [h]; simp
    rw [hz]
    go_enter Tryz.func29, Tryz.ntmps29
    go_wp2_with fail
    refine (rhas_any b hb n w).mono ?_
    rw [h]
    rintro e w1 ⟨rfl, rfl⟩
    go_wp2_with fail
    go_ret
    exact ⟨rfl, rfl⟩
  · have hn : nodeS n = true := by unfold hasS at h; rw [Bool.and_eq_true] at h; exact h.1
    have hw := wrap_pow n hn
    obtain ⟨h0, h1⟩ := (nodeS_iff n).1 hn
    have ha := sub_has b n hb h
    go_enter Tryz.func29, Tryz.ntmps29
    go_wp2_with fail
    refine (rhas_any b hb n w).mono ?_
    rw [h]
    rintro e w1 ⟨rfl, rfl⟩
    go_wp2_with fail
    go_ret
    exact ⟨rfl, rfl⟩
def lstTo (b i : Nat) : List Int := ((List.range i).filter (fun j => b.testBit j)).map (fun (j : Nat) => (j : Int))
theorem lstTo_succ (b i : Nat) : lstTo b (i + 1) = if b.testBit i then lstTo b i ++ [(i : Int)] else lstTo b i := by
  unfold lstTo
  rw [List.range_succ, List.filter_append, List.map_append]
  cases h : b.testBit i <;> simp [h]
theorem lstTo_le (b i : Nat) : (lstTo b i).length ≤ i := by
  have := List.length_filter_le (fun j => b.testBit j) (List.range i)
  simpa [lstTo] using this
theorem hasS_nat (b : Nat) {i : Nat} (hi : i < 64) : hasS b (i : Int) = b.testBit i := by
  have : nodeS (i : Int) = true := (nodeS_iff _).2 ⟨by omega, by omega⟩
  unfold hasS; rw [this]; simp
set_option maxHeartbeats 1000000 in
theorem rlist_any (b : Nat) (hb : b < lim) (w : World) :
    Calls Tryz.prog 63 #[.int .u64 b] w fun e w' => ∃ v, e = .returned v ∧ w'.ownsRow w.heap.size 3 1 v (lst b).length ((lst b).map (Value.int .i64)) ∧ Below w.heap.size w w' := by
  obtain ⟨i0, hi, hz0, hz1, hz2⟩ := info_parts Tryz.infoInt
  go_enter Tryz.func63, Tryz.ntmps63
  go_wp2_with fail
  go_loopg [3, 4] 64 (fun gk t3 t4 wr => ∃ i : Nat, i + gk = 64 ∧ t4 = .int .i64 i ∧ wr.ownsRow w.heap.size 3 1 t3 (lstTo b i).length ((lstTo b i).map (Value.int .i64)) ∧ Below w.heap.size w wr)
  case atStart => exact ⟨0, by omega, rfl, World.ownsRow_made w #[] 0 (Nat.le_refl _) (Nat.zero_le _) rfl, (Below.refl _ _).alloc (Nat.le_refl _) _⟩
  case round =>
    obtain ⟨i, hg, rfl, hrow, hB⟩ := hrel
    by_cases hlt : (i : Int) < 64
    · have hs := lstTo_succ b i
      have hle := lstTo_le b i
      have hh := hasS_nat b (i := i) (by omega)
      have hcall := rhas_any b hb (i : Int) wr
      rw [hh] at hcall
      cases ht : b.testBit i
      · rw [ht] at hs hcall
        simp only [Bool.false_eq_true, if_false] at hs
        go_wp2_with fail
        refine hcall.mono ?_
        rintro e w1 ⟨rfl, hw1⟩
        subst hw1
        go_wp2_with fail
        go_roundg (gk - 1)
        case rel => exact ⟨i + 1, by omega, by go_num, by rw [hs]; exact hrow, hB⟩
        case measure => omega
      · rw [ht] at hs hcall
        simp only [if_true] at hs
        go_wp2_with fail
        refine hcall.mono ?_
        rintro e w1 ⟨rfl, hw1⟩
        subst hw1
        go_wp2_with (at_builtin; refine wpList_append_own _ rfl _ _ 82 rfl w.heap.size 3 i0 (.int .i64 0) 1 8 Tryz.underlying82 hi hz0 hz1 hz2 rfl (by decide) _ _ _ rfl (hrow.alloc _) ⟨w1.heap.size, 0, none⟩ 1 1 [.int .i64 (i : Int)] rfl rfl (cell_one_new _ _ _) (by simp [Value.oneCell']) (by unfold maxLen; omega) (by omega) (by have := hB.size; simp; omega) ?_; intro v' w2 hown' hgrow _)
        go_roundg (gk - 1)
        case rel =>
          refine ⟨i + 1, by omega, by go_num, ?_, ?_⟩
          · rw [hs]; simpa using hown'
          · refine (hB.alloc hB.size _).grown hgrow (by have := hB.size; simp; omega) (fun k hk => ?_)
            exact (hrow.lt k hk).1
        case measure => omega
    · obtain rfl : i = 64 := by omega
      go_wp2_with fail
      go_ret
      exact ⟨_, rfl, hrow, hB⟩
set_option maxHeartbeats 1000000 in
theorem rmany_any (b : Nat) (hb : b < lim) (w : World) :
    Calls Tryz.prog 26 #[.int .u64 b] w fun e w' => e = .returned (.int .i64 (manyS b)) ∧ Below w.heap.size w w' := by
  have hl := lst_length b
  go_enter Tryz.func26, Tryz.ntmps26
  go_wp2_with fail
  refine (rlist_any b hb w).mono ?_
  rintro e w1 ⟨v, rfl, hown, hB⟩
  obtain ⟨a, cap, rfl, _⟩ := Rd.of hown
  rw [hl]
  go_wp2_with fail
  go_ret
  exact ⟨rfl, hB⟩
def nxtS (s o l : List Int) : (Int × Bool) × List Int × List Int :=
  if o = [] then ((0, false), s, l)
  else if s.dropWhile (fun x => !decide (x ∈ o)) = [] then (((shufS o l).1.headD 0, true), (shufS o l).1.tail, (shufS o l).2)
  else (((s.dropWhile (fun x => !decide (x ∈ o))).headD 0, true), (s.dropWhile (fun x => !decide (x ∈ o))).tail, l)
def joinS (s : List Int) (x : Int) (l : List Int) : List Int × List Int :=
  if x ∈ s then (s, l) else (s.take (belowS l (s.length + 1)).1.toNat ++ x :: s.drop (belowS l (s.length + 1)).1.toNat, (belowS l (s.length + 1)).2)
def helpS (o : List Int) (x n : Int) (l : List Int) : List Int × List Int := someS (o.filter (fun y => !decide (y = x))) l n
theorem dropWhile_findIdx (s : List Int) (b : Int → Bool) : s.drop (s.findIdx b) = s.dropWhile (fun x => !b x) := by
  induction s with
  | nil => rfl
  | cons x r ih =>
    rw [List.findIdx_cons, List.dropWhile_cons]
    cases h : b x
    · simpa using ih
    · simp
structure Mv (q p : Nat) (w w' : World) : Prop where
  os : w'.os = w.os
  tape : w'.tape = w.tape
  output : w'.output = w.output
  size : w.heap.size ≤ w'.heap.size
  block : ∀ k, k < w.heap.size → k ≠ q → k ≠ p → w'.heap[k]? = w.heap[k]?
theorem Mv.refl (q p : Nat) (w : World) : Mv q p w w := ⟨rfl, rfl, rfl, Nat.le_refl _, fun _ _ _ _ => rfl⟩
theorem Mv.trans {q p : Nat} {a b c : World} (h : Mv q p a b) (k : Mv q p b c) : Mv q p a c :=
  ⟨k.os.trans h.os, k.tape.trans h.tape, k.output.trans h.output, Nat.le_trans h.size k.size, fun i hi hq hp => (k.block i (Nat.lt_of_lt_of_le hi h.size) hq hp).trans (h.block i hi hq hp)⟩
theorem Mv.of {q p : Nat} {w w' : World} (h : Below w.heap.size w w') : Mv q p w w' := ⟨h.os, h.tape, h.output, h.size, fun k hk _ _ => h.block k hk⟩
theorem Mv.ofBut {q p : Nat} {w w' : World} (h : But w.heap.size p w w') : Mv q p w w' := ⟨h.os, h.tape, h.output, h.size, fun k hk _ hp => h.block k hk hp⟩
theorem Mv.drew {q p : Nat} {a w : World} (h : Mv q p a w) : Mv q p a w.drew := ⟨h.os, h.tape, h.output, h.size, h.block⟩
theorem Mv.set {o q p : Nat} {a w : World} (h : Mv q p a w) (u : Value) : Mv q p a (w.setCell ⟨q, o, none⟩ u) :=
  h.trans ⟨rfl, rfl, rfl, by simp [World.setCell], fun k hk hq _ => Below.heap_setCell _ _ _ _ hq⟩
theorem Lt.set {B p : Nat} {l : List Int} {w : World} {o q : Nat} {u : Value} (h : Lt B p l w) (hq : q < B ∨ p < q) : Lt B p l (w.setCell ⟨q, o, none⟩ u) :=
  h.keep fun g h1 h2 => Below.heap_setCell _ _ _ _ (show g ≠ q by omega)
structure Rn (o : Nat) (X : Value → Array Value) (T : TypeId) (G : Nat → Prop) (q : Nat) (s : List Int) (w : World) : Prop where
  hole : Hole o X
  ex : ∃ v, w.heap[q]? = some (.cells (X v) T (0, 0)) ∧ Rd .i64 v s w ∧ ∀ g, v.ownBlock = some g → G g ∧ g < w.heap.size
  out : ¬ G q
  ltw : q < w.heap.size
  fresh : ∀ g, w.heap.size ≤ g → G g
section
variable {o : Nat} {X : Value → Array Value} {T : TypeId} {G : Nat → Prop} {q : Nat} {s : List Int} {w w' : World}
theorem Rn.keep (h : Rn o X T G q s w) (hz : w.heap.size ≤ w'.heap.size) (hw : ∀ g, g < w.heap.size → (g = q ∨ G g) → w'.heap[g]? = w.heap[g]?) : Rn o X T G q s w' := by
  obtain ⟨h0, ⟨v, h1, h2, h3⟩, h4, h5, h6⟩ := h
  exact ⟨h0, ⟨v, (hw q h5 (Or.inl rfl)).trans h1, h2.keep fun g hg hlt => hw g hlt (Or.inr (h3 g hg).1), fun g hg => ⟨(h3 g hg).1, Nat.lt_of_lt_of_le (h3 g hg).2 hz⟩⟩, h4, Nat.lt_of_lt_of_le h5 hz, fun g hg => h6 g (Nat.le_trans hz hg)⟩
theorem Rn.below (h : Rn o X T G q s w) (hb : Below w.heap.size w w') : Rn o X T G q s w' := h.keep hb.size fun g hg _ => hb.block g hg
theorem Rn.drew (h : Rn o X T G q s w) : Rn o X T G q s w.drew := ⟨h.hole, h.ex, h.out, h.ltw, h.fresh⟩
theorem Rn.but {p : Nat} (h : Rn o X T G q s w) (hb : But w.heap.size p w w') (hp : p ≠ q ∧ ¬ G p) : Rn o X T G q s w' := h.keep hb.size fun g hg hq => hb.block g hg (by rintro rfl; rcases hq with e | e; exact hp.1 e; exact hp.2 e)
theorem Rn.put {r : List Int} {v' : Value} (h : Rn o X T G q s w) (hv : Rd .i64 v' r w) (hg : ∀ g, v'.ownBlock = some g → G g ∧ g < w.heap.size) : Rn o X T G q r (w.setCell ⟨q, o, none⟩ v') := by
  obtain ⟨h0, ⟨v, h1, h2, h3⟩, h4, h5, h6⟩ := h
  exact ⟨h0, ⟨v', h0.put h1 v', hv.keep fun g hg' _ => Below.heap_setCell _ _ _ _ (show g ≠ q from fun e => h4 (e ▸ (hg g hg').1)), fun g hg' => ⟨(hg g hg').1, by simpa [World.setCell] using (hg g hg').2⟩⟩, h4, by simpa [World.setCell] using h5, fun g hg' => h6 g (by simpa [World.setCell] using hg')⟩
theorem Rn.cell (h : Rn o X T G q s w) : ∃ a cap, w.cell? ⟨q, o, none⟩ = some (.slice a s.length cap) ∧ w.frozen? ⟨q, o, none⟩ = false ∧ Rd .i64 (.slice a s.length cap) s w ∧ ∀ g, (Value.slice a s.length cap).ownBlock = some g → G g ∧ g < w.heap.size := by
  obtain ⟨h0, ⟨v, h1, h2, h3⟩, h4, h5, h6⟩ := h
  have h2' := h2
  obtain ⟨a, cap, rfl, _⟩ := h2
  exact ⟨a, cap, h0.cell h1, free_of h1 o, h2', h3⟩
end
theorem Tryz.elemInt : Tryz.prog.underlying 82 = some (.slice (Tryz.prog.elem 82)) := by kernel_rfl
theorem Tryz.sizeInt (w : World) : (sizeOf (Tryz.prog.elem 82)).run Tryz.prog w = .ok 1 w := by
  rw [show Tryz.prog.elem 82 = 3 by kernel_rfl]
  simp [sizeOf]
  kernel_rfl
theorem cut_from {a : Option Addr} {cap : Nat} {l : List Int} {w : World} (h : Rd .i64 (.slice a l.length cap) l w) (n : Nat) (hn : n ≤ l.length) :
    ∃ a' cap', (∀ w', (Instr.slice 82 (.slice a l.length cap) (some (.int .i64 (n : Int))) none none).run Tryz.prog w' = .ok (.slice a' (l.drop n).length cap') w') ∧ Rd .i64 (.slice a' (l.drop n).length cap') (l.drop n) w ∧ (∀ m c g, (Value.slice a' m c).ownBlock = some g → (Value.slice a l.length cap).ownBlock = some g) := by
  have hr : ∀ w', (Instr.slice 82 (.slice a l.length cap) (some (.int .i64 (n : Int))) none none).run Tryz.prog w' = .ok (sliced a n l.length cap 1) w' := fun w' => by
    rw [run_slice_l (P := Tryz.prog) (w := w') 82 a l.length cap Tryz.elemInt .i64 (n : Int) (by omega) (by omega), Tryz.sizeInt]
    rfl
  obtain ⟨a', cap', e, h1, h2, h0, h3⟩ := h
  cases e
  have hl : (l.drop n).length = l.length - n := List.length_drop
  by_cases hc : cap = n
  · refine ⟨a, cap - n, fun w' => by rw [hr, sliced, if_pos hc, hl], ⟨a, cap - n, rfl, by omega, by omega, fun e => by have := h0 e; omega, Or.inl (by omega)⟩, fun m c g hg => (ownBlock_slice _ _ _ _ _).trans hg⟩
  · rcases h3 with h3 | ⟨g, off, rfl, h3⟩
    · refine ⟨a.map (·.add (n * 1)), cap - n, fun w' => by rw [hr, sliced, if_neg hc, hl], ⟨_, cap - n, rfl, by omega, by omega, fun e => by have := h0 (by cases a with | none => rfl | some _ => cases e); omega, Or.inl (by omega)⟩, fun m c g hg => ?_⟩
      cases a with
      | none => cases hg
      | some b =>
        simp [Value.ownBlock] at hg ⊢
        rw [← hg]
        unfold Addr.add
        split <;> rfl
    · refine ⟨some ⟨g, off + n, none⟩, cap - n, fun w' => by rw [hr, sliced, if_neg hc, hl]; simp [Addr.add], ⟨_, cap - n, rfl, by omega, by omega, (fun e => by cases e), Or.inr ⟨g, off + n, rfl, fun j hj => ?_⟩⟩, fun m c g hg => hg⟩
      have := h3 (n + j) (by omega)
      rw [List.getElem_drop, ← this, Nat.add_assoc]
end Go.Proofs.YtpoofjnfaijjjaaGreatDoor.Rn
