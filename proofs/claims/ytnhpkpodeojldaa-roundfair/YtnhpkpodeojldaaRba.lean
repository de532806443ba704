/-
  Rounds: what is answered, as plain functions; a round behind a pointer; what a call changes.
-/
import Derived.Test.YtnhpkpodeojldaaLso
import Derived.Test.YtnhpkpodeojldaaBrb
namespace Go.Proofs.Ytnhpkpodeojldaa
open Go.RowKit

/-! ## What is answered -/

/-- Next: who is told, whether one is; who is left then; the lots that are left. -/
def nxtS (s o l : List Int) : (Int × Bool) × List Int × List Int :=
  if o = [] then ((0, false), s, l)
  else if s.dropWhile (fun x => !decide (x ∈ o)) = [] then (((shufS o l).1.headD 0, true), (shufS o l).1.tail, (shufS o l).2)
  else (((s.dropWhile (fun x => !decide (x ∈ o))).headD 0, true), (s.dropWhile (fun x => !decide (x ∈ o))).tail, l)
/-- Join: who is left then; the lots. -/
def joinS (s : List Int) (x : Int) (l : List Int) : List Int × List Int :=
  if x ∈ s then (s, l) else (s.take (belowS l (s.length + 1)).1.toNat ++ x :: s.drop (belowS l (s.length + 1)).1.toNat, (belowS l (s.length + 1)).2)
/-- Helpers. -/
def helpS (o : List Int) (x n : Int) (l : List Int) : List Int × List Int := someS (o.filter (fun y => !decide (y = x))) l n

theorem dropWhile_findIdx (s : List Int) (b : Int → Bool) : s.drop (s.findIdx b) = s.dropWhile (fun x => !b x) := by
  induction s with
  | nil => rfl
  | cons x r ih =>
    rw [List.findIdx_cons, List.dropWhile_cons]
    cases h : b x
    · simpa using ih
    · simp

/-! ## Worlds -/

/-- All is as it was, but for blocks q and p. -/
structure Mv (q p : Nat) (w w' : World) : Prop where
  os : w'.os = w.os
  tape : w'.tape = w.tape
  output : w'.output = w.output
  size : w.heap.size ≤ w'.heap.size
  block : ∀ k, k < w.heap.size → k ≠ q → k ≠ p → w'.heap[k]? = w.heap[k]?
theorem Mv.refl (q p : Nat) (w : World) : Mv q p w w := ⟨rfl, rfl, rfl, Nat.le_refl _, fun _ _ _ _ => rfl⟩
theorem Mv.trans {q p : Nat} {a b c : World} (h : Mv q p a b) (k : Mv q p b c) : Mv q p a c :=
  ⟨k.os.trans h.os, k.tape.trans h.tape, k.output.trans h.output, Nat.le_trans h.size k.size, fun i hi hq hp => (k.block i (Nat.lt_of_lt_of_le hi h.size) hq hp).trans (h.block i hi hq hp)⟩
theorem Mv.of {q p : Nat} {w w' : World} (h : Below w.heap.size w w') : Mv q p w w' := ⟨h.os, h.tape, h.output, h.size, fun k hk _ _ => h.block k hk⟩
theorem Mv.ofBut {q p : Nat} {w w' : World} (h : But w.heap.size p w w') : Mv q p w w' := ⟨h.os, h.tape, h.output, h.size, fun k hk _ hp => h.block k hk hp⟩
theorem Mv.drew {q p : Nat} {a w : World} (h : Mv q p a w) : Mv q p a w.drew := ⟨h.os, h.tape, h.output, h.size, h.block⟩
theorem Mv.set {q p : Nat} {a w : World} (h : Mv q p a w) (u : Value) : Mv q p a (w.setCell ⟨q, 0, none⟩ u) :=
  h.trans ⟨rfl, rfl, rfl, by simp [World.setCell], fun k hk hq _ => Below.heap_setCell _ _ _ _ hq⟩
theorem Mv.below {q p : Nat} {w w' : World} (h : Mv q p w w') {B : Nat} (hq : B ≤ q) (hp : B ≤ p) (hB : B ≤ w.heap.size) : Below B w w' := ⟨h.os, h.tape, h.output, h.size, fun k hk => h.block k (by omega) (by omega) (by omega)⟩

theorem Rd.mv {k : IntKind} {v : Value} {l : List Int} {w w' : World} {q p : Nat} (h : Rd k v l w) (hb : Mv q p w w') (hq : ∀ g, v.ownBlock = some g → g ≠ q ∧ g ≠ p) : Rd k v l w' := h.keep fun g hg hlt => hb.block g hlt (hq g hg).1 (hq g hg).2
theorem Lt.mv {B p : Nat} {l : List Int} {w w' : World} {a b : Nat} (h : Lt B p l w) (hb : Mv a b w w') (ha : a < B ∨ p < a) (hb' : b < B ∨ p < b) : Lt B p l w' := by
  have := h.lt
  exact h.keep fun g _ hg => hb.block g (by omega) (by omega) (by omega)
theorem Lt.set {B p : Nat} {l : List Int} {w : World} {q : Nat} {u : Value} (h : Lt B p l w) (hq : q < B ∨ p < q) : Lt B p l (w.setCell ⟨q, 0, none⟩ u) :=
  h.keep fun g h1 h2 => Below.heap_setCell _ _ _ _ (show g ≠ q by omega)

/-- A round behind the pointer to block q, of type T: s are left; its row lies from block B on. -/
structure Rn (T : TypeId) (B q : Nat) (s : List Int) (w : World) : Prop where
  ex : ∃ v, w.heap[q]? = some (.cells #[v] T (0, 0)) ∧ Rd .i64 v s w ∧ ∀ g, v.ownBlock = some g → B ≤ g ∧ g < w.heap.size
  lt : q < B
  size : B ≤ w.heap.size
theorem Rn.keep {T : TypeId} {B q : Nat} {s : List Int} {w w' : World} (h : Rn T B q s w) (hz : w.heap.size ≤ w'.heap.size) (hw : ∀ g, g < w.heap.size → (g = q ∨ B ≤ g) → w'.heap[g]? = w.heap[g]?) : Rn T B q s w' := by
  obtain ⟨⟨v, h1, h2, h3⟩, h4, h5⟩ := h
  exact ⟨⟨v, (hw q (by omega) (Or.inl rfl)).trans h1, h2.keep fun g hg hlt => hw g hlt (Or.inr (h3 g hg).1), fun g hg => ⟨(h3 g hg).1, Nat.lt_of_lt_of_le (h3 g hg).2 hz⟩⟩, h4, Nat.le_trans h5 hz⟩
theorem Rn.below {T : TypeId} {B q : Nat} {s : List Int} {w w' : World} (h : Rn T B q s w) (hb : Below w.heap.size w w') : Rn T B q s w' := h.keep hb.size fun g hg _ => hb.block g hg
theorem Rn.drew {T : TypeId} {B q : Nat} {s : List Int} {w : World} (h : Rn T B q s w) : Rn T B q s w.drew := ⟨h.ex, h.lt, h.size⟩
theorem Rn.mv {T : TypeId} {B q : Nat} {s : List Int} {w w' : World} {a b : Nat} (h : Rn T B q s w) (hb : Mv a b w w') (ha : a ≠ q ∧ a < B) (hb' : b ≠ q ∧ b < B) : Rn T B q s w' := h.keep hb.size fun g hg hq => hb.block g hg (by omega) (by omega)
theorem Rn.but {T : TypeId} {B q : Nat} {s : List Int} {w w' : World} {p : Nat} (h : Rn T B q s w) (hb : But w.heap.size p w w') (hp : p ≠ q ∧ p < B) : Rn T B q s w' := h.keep hb.size fun g hg hq => hb.block g hg (by omega)
theorem Rn.mono {T : TypeId} {B q : Nat} {w : World} (h : Rn T B q [] w) {B' : Nat} (hB : B ≤ B') (hz : B' ≤ w.heap.size) : ∀ {v : Value}, w.heap[q]? = some (.cells #[v] T (0, 0)) → v.ownBlock = none → Rn T B' q [] w := by
  intro v hv hn
  obtain ⟨⟨u, h1, h2, h3⟩, h4, h5⟩ := h
  rw [hv] at h1
  cases h1
  exact ⟨⟨v, hv, h2, fun g hg => by rw [hn] at hg; cases hg⟩, by omega, hz⟩
/-- A new row is stored. -/
theorem Rn.put {T : TypeId} {B q : Nat} {s r : List Int} {w : World} {v' : Value} (h : Rn T B q s w) (hv : Rd .i64 v' r w) (hg : ∀ g, v'.ownBlock = some g → B ≤ g ∧ g < w.heap.size) : Rn T B q r (w.setCell ⟨q, 0, none⟩ v') := by
  obtain ⟨⟨v, h1, h2, h3⟩, h4, h5⟩ := h
  refine ⟨⟨v', ?_, hv.keep fun g hg' _ => Below.heap_setCell _ _ _ _ (show g ≠ q by have := (hg g hg').1; omega), fun g hg' => ⟨(hg g hg').1, by simpa [World.setCell] using (hg g hg').2⟩⟩, h4, by simpa [World.setCell] using h5⟩
  simp [World.setCell, Array.getElem?_modify, h1]
theorem Rn.ltw {T : TypeId} {B q : Nat} {s : List Int} {w : World} (h : Rn T B q s w) : q < w.heap.size := Nat.lt_of_lt_of_le h.lt h.size
theorem Rn.cell {T : TypeId} {B q : Nat} {s : List Int} {w : World} (h : Rn T B q s w) : ∃ a cap, w.cell? ⟨q, 0, none⟩ = some (.slice a s.length cap) ∧ w.frozen? ⟨q, 0, none⟩ = false ∧ Rd .i64 (.slice a s.length cap) s w ∧ ∀ g, (Value.slice a s.length cap).ownBlock = some g → B ≤ g ∧ g < w.heap.size := by
  obtain ⟨⟨v, h1, h2, h3⟩, h4, h5⟩ := h
  have h2' := h2
  obtain ⟨a, cap, rfl, _⟩ := h2
  exact ⟨a, cap, by simp [World.cell?, h1], by simp [World.frozen?, h1], h2', h3⟩

/-! ## A part of a slice -/

theorem Try.elemInt : Try.prog.underlying 26 = some (.slice (Try.prog.elem 26)) := by kernel_rfl
theorem Try.sizeInt (w : World) : (sizeOf (Try.prog.elem 26)).run Try.prog w = .ok 1 w := by
  rw [show Try.prog.elem 26 = 3 by kernel_rfl]
  simp [sizeOf]
  kernel_rfl

/-- What is left behind the first n. -/
theorem cut_from {a : Option Addr} {cap : Nat} {l : List Int} {w : World} (h : Rd .i64 (.slice a l.length cap) l w) (n : Nat) (hn : n ≤ l.length) :
    ∃ a' cap', (∀ w', (Instr.slice 26 (.slice a l.length cap) (some (.int .i64 (n : Int))) none none).run Try.prog w' = .ok (.slice a' (l.drop n).length cap') w') ∧ Rd .i64 (.slice a' (l.drop n).length cap') (l.drop n) w ∧ (∀ m c g, (Value.slice a' m c).ownBlock = some g → (Value.slice a l.length cap).ownBlock = some g) := by
  have hr : ∀ w', (Instr.slice 26 (.slice a l.length cap) (some (.int .i64 (n : Int))) none none).run Try.prog w' = .ok (sliced a n l.length cap 1) w' := fun w' => by
    rw [run_slice_l (P := Try.prog) (w := w') 26 a l.length cap Try.elemInt .i64 (n : Int) (by omega) (by omega), Try.sizeInt]
    rfl
  obtain ⟨a', cap', e, h1, h2, h0, h3⟩ := h
  cases e
  have hl : (l.drop n).length = l.length - n := List.length_drop
  by_cases hc : cap = n
  · refine ⟨a, cap - n, fun w' => by rw [hr, sliced, if_pos hc, hl], ⟨a, cap - n, rfl, by omega, by omega, fun e => by have := h0 e; omega, Or.inl (by omega)⟩, fun m c g hg => (ownBlock_slice _ _ _ _ _).trans hg⟩
  · rcases h3 with h3 | ⟨g, off, rfl, h3⟩
    · refine ⟨a.map (·.add (n * 1)), cap - n, fun w' => by rw [hr, sliced, if_neg hc, hl], ⟨_, cap - n, rfl, by omega, by omega, fun e => by have := h0 (by cases a with | none => rfl | some _ => cases e); omega, Or.inl (by omega)⟩, fun m c g hg => ?_⟩
      cases a with
      | none => cases hg
      | some b =>
        simp [Value.ownBlock] at hg ⊢
        rw [← hg]
        unfold Addr.add
        split <;> rfl
    · refine ⟨some ⟨g, off + n, none⟩, cap - n, fun w' => by rw [hr, sliced, if_neg hc, hl]; simp [Addr.add], ⟨_, cap - n, rfl, by omega, by omega, (fun e => by cases e), Or.inr ⟨g, off + n, rfl, fun j hj => ?_⟩⟩, fun m c g hg => hg⟩
      have := h3 (n + j) (by omega)
      rw [List.getElem_drop, ← this, Nat.add_assoc]

end Go.Proofs.Ytnhpkpodeojldaa
