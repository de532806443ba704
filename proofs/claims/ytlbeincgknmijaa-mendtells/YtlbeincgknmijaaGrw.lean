/-
  Rows of things of some cells each, that are appended to; what reads as such a row.
-/
import Derived.Test.YtlbeincgknmijaaTbl
namespace Go.Proofs.Ytlbeincgknmijaa
open Go.RowKit

/-- How a thing lies in cells. -/
structure Enc (α : Type) where
  sz : Nat
  enc : α → List Value
  len : ∀ x, (enc x).length = sz
  one : ∀ x, ∀ v ∈ enc x, v.oneCell' = true
  pos : 0 < sz

section
variable {α : Type} (E : Enc α)
def Enc.flat : List α → List Value
  | [] => []
  | x :: r => E.enc x ++ Enc.flat r
theorem Enc.flat_length (l : List α) : (E.flat l).length = l.length * E.sz := by
  induction l with
  | nil => simp [Enc.flat]
  | cons u r ih => simp [Enc.flat, ih, E.len, Nat.succ_mul]; omega
theorem Enc.flat_append (l r : List α) : E.flat (l ++ r) = E.flat l ++ E.flat r := by
  induction l with
  | nil => rfl
  | cons u l ih => simp [Enc.flat, ih]
theorem Enc.flat_cell (l : List α) : ∀ v ∈ E.flat l, v.oneCell' = true := by
  induction l with
  | nil => intro v hv; cases hv
  | cons u r ih =>
    intro v hv
    rcases List.mem_append.1 hv with hv | hv
    · exact E.one u v hv
    · exact ih v hv
theorem Enc.flat_get (l : List α) : ∀ j c (h : j < l.length), c < E.sz → (E.flat l)[j * E.sz + c]? = (E.enc l[j])[c]? := by
  induction l with
  | nil => intro j c h; cases h
  | cons u r ih =>
    intro j c h hc
    cases j with
    | zero =>
      rw [Nat.zero_mul, Nat.zero_add, Enc.flat, List.getElem?_append_left (by rw [E.len]; exact hc)]
      rfl
    | succ j =>
      have h' : j < r.length := by simpa using h
      rw [Enc.flat, List.getElem?_append_right (by rw [E.len, Nat.succ_mul]; omega), E.len]
      rw [show (j + 1) * E.sz + c - E.sz = j * E.sz + c from by rw [Nat.succ_mul]; omega]
      exact ih j c h' hc
theorem Enc.flat_take (l : List α) : ∀ n, (E.flat l).take (n * E.sz) = E.flat (l.take n) := by
  induction l with
  | nil => intro n; simp [Enc.flat]
  | cons u r ih =>
    intro n
    cases n with
    | zero => simp [Enc.flat]
    | succ n =>
      rw [List.take_succ_cons, Enc.flat, Enc.flat, List.take_append, E.len, Nat.succ_mul, List.take_of_length_le (by rw [E.len]; omega)]
      rw [show n * E.sz + E.sz - E.sz = n * E.sz from by omega, ih]
end

/-- The slice v reads as l. -/
def RdE {α : Type} (E : Enc α) (v : Value) (l : List α) (w : World) : Prop :=
  ∃ a cap, v = .slice a l.length cap ∧ l.length ≤ cap ∧ cap ≤ maxLen ∧ (l.length = 0 ∨ ∃ g off, a = some ⟨g, off, none⟩ ∧ ∀ j c (hj : j < l.length), c < E.sz → w.cell? ⟨g, off + (j * E.sz + c), none⟩ = (E.enc l[j])[c]?)
/-- The row v, of a block from B on, holds l, and may be appended to. -/
def OwE {α : Type} (E : Enc α) (T : TypeId) (B : Nat) (v : Value) (l : List α) (w : World) : Prop := w.ownsRow B T E.sz v l.length (E.flat l)
section
variable {α : Type} {E : Enc α} {T : TypeId} {B : Nat} {v : Value} {l : List α} {w w' : World}
theorem RdE.keep (h : RdE E v l w) (hw : ∀ g, v.ownBlock = some g → g < w.heap.size → w'.heap[g]? = w.heap[g]?) : RdE E v l w' := by
  obtain ⟨a, cap, rfl, h1, h2, h3⟩ := h
  refine ⟨a, cap, rfl, h1, h2, ?_⟩
  rcases h3 with h3 | ⟨g, off, rfl, h3⟩
  · exact Or.inl h3
  · refine Or.inr ⟨g, off, rfl, fun j c hj hc => ?_⟩
    have c0 := h3 j c hj hc
    have hlt : g < w.heap.size := by
      obtain ⟨x, hx⟩ : ∃ x, (E.enc l[j])[c]? = some x := ⟨_, List.getElem?_eq_getElem (by rw [E.len l[j]]; exact hc)⟩
      rw [hx] at c0
      exact World.block_lt_of_cell? _ _ c0
    exact (World.cell?_of_block (w := w) (hw g rfl hlt)).trans c0
theorem RdE.below (h : RdE E v l w) (hb : Below w.heap.size w w') : RdE E v l w' := h.keep fun g _ hg => hb.block g hg
theorem RdE.nil (E : Enc α) (w : World) : RdE E (.slice none 0 0) [] w := ⟨none, 0, rfl, Nat.le_refl _, Nat.zero_le _, Or.inl rfl⟩
theorem OwE.keep (h : OwE E T B v l w) (e : ∀ g, v.ownBlock = some g → g < w.heap.size → w'.heap[g]? = w.heap[g]?) : OwE E T B v l w' := by
  refine ⟨h.1, ?_⟩
  rcases h.2 with hn | ⟨g, cap, cur, rfl, hb, hg, rest⟩
  · exact Or.inl hn
  · exact Or.inr ⟨g, cap, cur, rfl, hb, (e g rfl (Array.getElem?_eq_some_iff.1 hg).1).trans hg, rest⟩
theorem OwE.below (h : OwE E T B v l w) (b : Below w.heap.size w w') : OwE E T B v l w' := h.keep fun g _ hg => b.block g hg
theorem OwE.lt (h : OwE E T B v l w) : ∀ g, v.ownBlock = some g → B ≤ g ∧ g < w.heap.size := World.ownsRow.lt h
theorem OwE.nil (E : Enc α) (T : TypeId) (B : Nat) (w : World) : OwE E T B (.slice none 0 0) [] w := ⟨by simp [Enc.flat], Or.inl ⟨rfl, rfl⟩⟩
theorem OwE.mono {C : Nat} (h : OwE E T C v l w) (hB : B ≤ C) : OwE E T B v l w := by
  refine ⟨h.1, ?_⟩
  rcases h.2 with hn | ⟨g, cap, cur, rfl, hb, rest⟩
  · exact Or.inl hn
  · exact Or.inr ⟨g, cap, cur, rfl, Nat.le_trans hB hb, rest⟩
/-- From its own block on. -/
theorem OwE.raise {C : Nat} (h : OwE E T B v l w) (hB : ∀ g, v.ownBlock = some g → C ≤ g) : OwE E T C v l w := by
  refine ⟨h.1, ?_⟩
  rcases h.2 with hn | ⟨g, cap, cur, rfl, hb, rest⟩
  · exact Or.inl hn
  · exact Or.inr ⟨g, cap, cur, rfl, hB g rfl, rest⟩
theorem OwE.len (h : OwE E T B v l w) : ∃ a cap, v = .slice a l.length cap ∧ l.length ≤ cap ∧ cap ≤ maxLen := by
  rcases h.2 with ⟨rfl, h0⟩ | ⟨g, cap, cur, rfl, hb, hg, h1, h2, _⟩
  · exact ⟨none, 0, by rw [h0], by omega, Nat.zero_le _⟩
  · exact ⟨_, cap, rfl, h1, h2⟩
theorem OwE.rd (h : OwE E T B v l w) : RdE E v l w := by
  rcases h.2 with ⟨rfl, h0⟩ | ⟨g, cap, cur, rfl, hb, hg, h1, h2, h3, h4⟩
  · exact ⟨none, 0, by rw [h0], by omega, Nat.zero_le _, Or.inl h0⟩
  · refine ⟨_, cap, rfl, h1, h2, Or.inr ⟨g, 0, rfl, fun j c hj hc => ?_⟩⟩
    have hx := E.flat_get l j c hj hc
    obtain ⟨x, hx'⟩ : ∃ x, (E.enc l[j])[c]? = some x := ⟨_, List.getElem?_eq_getElem (by rw [E.len l[j]]; exact hc)⟩
    rw [hx'] at hx ⊢
    have k := World.ownsRow.cells h (g := g) rfl _ _ hx
    rw [add_off] at k
    exact k
/-- The cells of a slice that reads as l. -/
theorem RdE.cells {g off : Nat} {cap : Nat} (h : RdE E (.slice (some ⟨g, off, none⟩) l.length cap) l w) : ∀ j u, (E.flat l)[j]? = some u → w.cell? ((⟨g, off, none⟩ : Addr).add j) = some u := by
  intro j u hu
  obtain ⟨_, _, e, _, _, h3⟩ := h
  cases e
  have hj : j < l.length * E.sz := by
    rw [← E.flat_length]
    exact (List.getElem?_eq_some_iff.1 hu).1
  have hq : j / E.sz < l.length := (Nat.div_lt_iff_lt_mul E.pos).2 hj
  rcases h3 with h3 | ⟨g', off', e, h3⟩
  · rw [h3] at hq; cases hq
  · cases e
    have hc := Nat.mod_lt j E.pos
    have k := h3 (j / E.sz) (j % E.sz) hq hc
    have f := E.flat_get l (j / E.sz) (j % E.sz) hq hc
    have e : j / E.sz * E.sz + j % E.sz = j := by rw [Nat.mul_comm]; exact Nat.div_add_mod j E.sz
    rw [e] at k f
    rw [add_off, k, ← f, hu]
/-- What an append to such a row does. -/
theorem wp_appE {o : Oper} {a : Act} {K : Act → World → Prop} {Q : Exit → Act → World → Prop} {ST : TypeId} {z : Value} {bytes : Nat} (hST : Try.prog.underlying ST = some (.slice T)) (hinfo : (Try.prog.info? T).map (fun i => (i.zero, i.size, i.bytes)) = some (some z, E.sz, bytes)) (hz : z.cells.size = E.sz) (hby : bytes ≤ 1000) (w : World) (s x : Operand)
    (ho : o.op = .call { callee := .builtin .append, args := #[s, x], argTypes := #[ST, ST] }) (B : Nat) (v : Value) (l : List α) (hs : a.eval s = v) (hown : OwE E T B v l w) (hB : B ≤ w.heap.size)
    (g off c : Nat) (r : List α) (m : Nat) (hm : m = r.length) (hx : a.eval x = .slice (some ⟨g, off, none⟩) m c) (hu : RdE E (.slice (some ⟨g, off, none⟩) m c) r w) (hl : l.length + r.length ≤ 1000000)
    (h : ∀ v' w', OwE E T B v' (l ++ r) w' → w.grownBy w' v.ownBlock → (v'.ownBlock = v.ownBlock ∨ v'.ownBlock = some w.heap.size) → K (a.put o.dst v') w') : o.wp Try.prog a w K Q := by
  obtain ⟨i0, hi, hz0, hz1, hz2⟩ := info_parts hinfo
  subst hm
  obtain ⟨v', w', hr, h2, h3, _, h5⟩ := run_append_own_at (P := Try.prog) w B ST o.type T i0 z E.sz bytes hST hi hz0 hz1 hz2 hz E.pos v l.length (E.flat l) hown ⟨g, off, none⟩ r.length c (E.flat r) (E.flat_length r) hu.cells (E.flat_cell r) (by unfold maxLen; omega) (Nat.le_trans (Nat.mul_le_mul hl hby) (by decide)) hB
  unfold Oper.wp execOp
  simp only [ho, resolve, invoke, builtin, Sem.run_bind, Sem.run_pure, Result.andThen_ok, List.map_toArray, List.map_cons, List.map_nil, hs, hx, hr]
  refine h v' w' ?_ h3 h5
  unfold OwE
  rw [E.flat_append, List.length_append]
  exact h2
theorem wpList_appE {ops : Array Oper} {rest : List Oper} {o : Oper} {a : Act} {Q : Exit → Act → World → Prop} {ST : TypeId} {z : Value} {bytes : Nat} (hST : Try.prog.underlying ST = some (.slice T)) (hinfo : (Try.prog.info? T).map (fun i => (i.zero, i.size, i.bytes)) = some (some z, E.sz, bytes)) (hz : z.cells.size = E.sz) (hby : bytes ≤ 1000) (w : World) (hgd : o.guard = none) (s x : Operand)
    (ho : o.op = .call { callee := .builtin .append, args := #[s, x], argTypes := #[ST, ST] }) (B : Nat) (v : Value) (l : List α) (hs : a.eval s = v) (hown : OwE E T B v l w) (hB : B ≤ w.heap.size)
    (g off c : Nat) (r : List α) (m : Nat) (hm : m = r.length) (hx : a.eval x = .slice (some ⟨g, off, none⟩) m c) (hu : RdE E (.slice (some ⟨g, off, none⟩) m c) r w) (hl : l.length + r.length ≤ 1000000)
    (h : ∀ v' w', OwE E T B v' (l ++ r) w' → w.grownBy w' v.ownBlock → (v'.ownBlock = v.ownBlock ∨ v'.ownBlock = some w.heap.size) → wpList Try.prog ops Q rest (a.put o.dst v') w') : wpList Try.prog ops Q (o :: rest) a w :=
  wpList_plain hgd fun _ hK => wp_appE hST hinfo hz hby w s x ho B v l hs hown hB g off c r m hm hx hu hl fun v' w' h2 h3 h4 => hK _ _ (h v' w' h2 h3 h4)
theorem step_appE {ops : Array Oper} {o : Oper} {a : Act} {K : Act → World → Prop} {Q : Exit → Act → World → Prop} {F : Prop} {ST : TypeId} {z : Value} {bytes : Nat} (hST : Try.prog.underlying ST = some (.slice T)) (hinfo : (Try.prog.info? T).map (fun i => (i.zero, i.size, i.bytes)) = some (some z, E.sz, bytes)) (hz : z.cells.size = E.sz) (hby : bytes ≤ 1000) (w : World) (hgd : o.guard = none) (s x : Operand)
    (ho : o.op = .call { callee := .builtin .append, args := #[s, x], argTypes := #[ST, ST] }) (B : Nat) (v : Value) (l : List α) (hs : a.eval s = v) (hown : OwE E T B v l w) (hB : B ≤ w.heap.size)
    (g off c : Nat) (r : List α) (m : Nat) (hm : m = r.length) (hx : a.eval x = .slice (some ⟨g, off, none⟩) m c) (hu : RdE E (.slice (some ⟨g, off, none⟩) m c) r w) (hl : l.length + r.length ≤ 1000000)
    (h : ∀ v' w', OwE E T B v' (l ++ r) w' → w.grownBy w' v.ownBlock → (v'.ownBlock = v.ownBlock ∨ v'.ownBlock = some w.heap.size) → K (a.put o.dst v') w') :
    if Region.wanted o (yielded ops a.tmps) = true then Oper.wp Try.prog o a w K Q else F := by
  have hw : Region.wanted o (yielded ops a.tmps) = true := by simp [Region.wanted, hgd]
  rw [if_pos hw]
  exact wp_appE hST hinfo hz hby w s x ho B v l hs hown hB g off c r m hm hx hu hl h
end
end Go.Proofs.Ytlbeincgknmijaa
