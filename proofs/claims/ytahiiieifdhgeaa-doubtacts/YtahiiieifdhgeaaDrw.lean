/-
  Rows of doubts: cells; a row that is appended to; boxes.
-/
import Derived.Test.YtahiiieifdhgeaaDmt
import Derived.Maps.AppendAt
import Derived.OwnWalk
import Derived.KernelRfl
namespace Go.Proofs.Ytahiiieifdhgeaa
open Go.RowKit

def Dbt.cs (x : Dbt) : List Value := [.int .i64 x.n, .int .u64 x.i, .int .i64 x.s, .int .u64 (x.f : Int), .int .u64 x.a, .int .u64 x.t, .int .u64 x.u]
def dV (x : Dbt) : Value := .agg #[.int .i64 x.n, .int .u64 x.i, .int .i64 x.s, .int .u64 (x.f : Int), .int .u64 x.a, .int .u64 x.t, .int .u64 x.u]
def dC (x : Dbt) (T : TypeId) : Obj := .cells #[.int .i64 x.n, .int .u64 x.i, .int .i64 x.s, .int .u64 (x.f : Int), .int .u64 x.a, .int .u64 x.t, .int .u64 x.u] T

/-- The slice v reads as the doubts l. -/
def Rb (v : Value) (l : List Dbt) (w : World) : Prop :=
  ∃ a cap, v = .slice a l.length cap ∧ l.length ≤ cap ∧ cap ≤ maxLen ∧ (l.length = 0 ∨ ∃ g off, a = some ⟨g, off, none⟩ ∧ ∀ j (hj : j < l.length) k, k < 7 → w.cell? ⟨g, off + j * 7 + k, none⟩ = l[j].cs[k]?)
theorem Rb.keep {v : Value} {l : List Dbt} {w w' : World} (h : Rb v l w) (hw : ∀ g, v.ownBlock = some g → g < w.heap.size → w'.heap[g]? = w.heap[g]?) : Rb v l w' := by
  obtain ⟨a, cap, rfl, h1, h2, h3⟩ := h
  refine ⟨a, cap, rfl, h1, h2, ?_⟩
  rcases h3 with h3 | ⟨g, off, rfl, h3⟩
  · exact Or.inl h3
  · refine Or.inr ⟨g, off, rfl, fun j hj k hk => ?_⟩
    have hlt : g < w.heap.size := World.block_lt_of_cell? _ _ (h3 j hj 0 (by omega))
    exact (World.cell?_of_block (w := w) (hw g rfl hlt)).trans (h3 j hj k hk)
theorem Rb.below {v : Value} {l : List Dbt} {w w' : World} (h : Rb v l w) (hb : Below w.heap.size w w') : Rb v l w' := h.keep fun g _ hg => hb.block g hg
theorem Rb.nil (w : World) : Rb (.slice none 0 0) [] w := ⟨none, 0, rfl, Nat.le_refl _, Nat.zero_le _, Or.inl rfl⟩
/-- The cells of one of them. -/
structure C7 (g o : Nat) (x : Dbt) (w : World) : Prop where
  c0 : w.cell? ⟨g, o, none⟩ = some (.int .i64 x.n)
  c1 : w.cell? ⟨g, o + 1, none⟩ = some (.int .u64 x.i)
  c2 : w.cell? ⟨g, o + 2, none⟩ = some (.int .i64 x.s)
  c3 : w.cell? ⟨g, o + 3, none⟩ = some (.int .u64 (x.f : Int))
  c4 : w.cell? ⟨g, o + 4, none⟩ = some (.int .u64 x.a)
  c5 : w.cell? ⟨g, o + 5, none⟩ = some (.int .u64 x.t)
  c6 : w.cell? ⟨g, o + 6, none⟩ = some (.int .u64 x.u)
theorem Rb.at {v : Value} {l : List Dbt} {w : World} (h : Rb v l w) {j : Nat} (hj : j < l.length) : ∃ g off cap, v = .slice (some ⟨g, off, none⟩) l.length cap ∧ l.length ≤ cap ∧ cap ≤ maxLen ∧ g < w.heap.size ∧ C7 g (off + j * 7) l[j] w := by
  obtain ⟨a, cap, rfl, h1, h2, h3⟩ := h
  rcases h3 with h3 | ⟨g, off, rfl, h3⟩
  · omega
  · exact ⟨g, off, cap, rfl, h1, h2, World.block_lt_of_cell? _ _ (h3 j hj 0 (by omega)), h3 j hj 0 (by omega), h3 j hj 1 (by omega), h3 j hj 2 (by omega), h3 j hj 3 (by omega), h3 j hj 4 (by omega), h3 j hj 5 (by omega), h3 j hj 6 (by omega)⟩
theorem C7.keep {g o : Nat} {x : Dbt} {w w' : World} (h : C7 g o x w) (e : w'.heap[g]? = w.heap[g]?) : C7 g o x w' :=
  ⟨(World.cell?_of_block (w := w) e).trans h.c0, (World.cell?_of_block (w := w) e).trans h.c1, (World.cell?_of_block (w := w) e).trans h.c2, (World.cell?_of_block (w := w) e).trans h.c3, (World.cell?_of_block (w := w) e).trans h.c4, (World.cell?_of_block (w := w) e).trans h.c5, (World.cell?_of_block (w := w) e).trans h.c6⟩
theorem C7.lt {g o : Nat} {x : Dbt} {w : World} (h : C7 g o x w) : g < w.heap.size := World.block_lt_of_cell? _ _ h.c0
theorem C7.below {g o : Nat} {x : Dbt} {w w' : World} (h : C7 g o x w) (b : Below w.heap.size w w') : C7 g o x w' := h.keep (b.block g h.lt)

def flatD : List Dbt → List Value
  | [] => []
  | x :: r => x.cs ++ flatD r
theorem cs_length (x : Dbt) : x.cs.length = 7 := rfl
theorem flatD_length (l : List Dbt) : (flatD l).length = l.length * 7 := by
  induction l with
  | nil => rfl
  | cons u r ih => simp [flatD, cs_length, ih]; omega
theorem flatD_append (l r : List Dbt) : flatD (l ++ r) = flatD l ++ flatD r := by
  induction l with
  | nil => rfl
  | cons u l ih => simp [flatD, ih]
theorem flatD_cell (l : List Dbt) : ∀ v ∈ flatD l, v.oneCell' = true := by
  induction l with
  | nil => intro v hv; cases hv
  | cons u r ih =>
    intro v hv
    rcases List.mem_append.1 hv with hv | hv
    · simp only [Dbt.cs, List.mem_cons, List.not_mem_nil, or_false] at hv
      rcases hv with rfl | rfl | rfl | rfl | rfl | rfl | rfl <;> rfl
    · exact ih v hv
theorem flatD_get (l : List Dbt) : ∀ j c (h : j < l.length), c < 7 → (flatD l)[j * 7 + c]? = l[j].cs[c]? := by
  induction l with
  | nil => intro j c h; cases h
  | cons u r ih =>
    intro j c h hc
    cases j with
    | zero =>
      rw [flatD, List.getElem?_append_left (by rw [cs_length]; omega), Nat.zero_mul, Nat.zero_add]
      rfl
    | succ j =>
      have h' : j < r.length := by simpa using h
      rw [flatD, List.getElem?_append_right (by rw [cs_length]; omega), cs_length, show (j + 1) * 7 + c - 7 = j * 7 + c from by omega, ih j c h' hc]
      rfl
theorem add_offD (g off j : Nat) : (⟨g, off, none⟩ : Addr).add j = ⟨g, off + j, none⟩ := by unfold Addr.add; split <;> simp_all
theorem Rb.cells {g off : Nat} {cap : Nat} {l : List Dbt} {w : World} (h : Rb (.slice (some ⟨g, off, none⟩) l.length cap) l w) : ∀ j u, (flatD l)[j]? = some u → w.cell? ((⟨g, off, none⟩ : Addr).add j) = some u := by
  intro j u hu
  obtain ⟨_, _, e, _, _, h3⟩ := h
  cases e
  have hj : j < l.length * 7 := by
    rw [← flatD_length]
    exact (List.getElem?_eq_some_iff.1 hu).1
  have hq : j / 7 < l.length := by omega
  rcases h3 with h3 | ⟨g', off', e, h3⟩
  · omega
  · cases e
    have := h3 (j / 7) hq (j % 7) (by omega)
    rw [add_offD]
    rw [Nat.add_assoc, show j / 7 * 7 + j % 7 = j from by omega] at this
    rw [this, ← flatD_get l (j / 7) (j % 7) hq (by omega), show j / 7 * 7 + j % 7 = j from by omega]
    exact hu

/-- The row v, of a block from B on, holds the doubts l (each of type T), and may be appended to. -/
def OwD (T : TypeId) (B : Nat) (v : Value) (l : List Dbt) (w : World) : Prop := w.ownsRow B T 7 v l.length (flatD l)
section
variable {T : TypeId} {B : Nat} {v : Value} {l : List Dbt} {w w' : World}
theorem OwD.rb (h : OwD T B v l w) : Rb v l w := by
  rcases h.2 with ⟨rfl, h0⟩ | ⟨g, cap, cur, rfl, hb, hg, h1, h2, h3, h4⟩
  · exact ⟨none, 0, by rw [h0], by omega, by unfold maxLen; omega, Or.inl h0⟩
  · refine ⟨_, cap, rfl, h1, h2, Or.inr ⟨g, 0, rfl, fun j hj k hk => ?_⟩⟩
    rw [Nat.zero_add, World.ownsRow.cellAt h (j * 7 + k) (by omega), flatD_get l j k hj hk]
theorem OwD.keep (h : OwD T B v l w) (e : ∀ g, v.ownBlock = some g → g < w.heap.size → w'.heap[g]? = w.heap[g]?) : OwD T B v l w' := by
  refine ⟨h.1, ?_⟩
  rcases h.2 with hn | ⟨g, cap, cur, rfl, hb, hg, rest⟩
  · exact Or.inl hn
  · exact Or.inr ⟨g, cap, cur, rfl, hb, (e g rfl (Array.getElem?_eq_some_iff.1 hg).1).trans hg, rest⟩
theorem OwD.below (h : OwD T B v l w) (b : Below w.heap.size w w') : OwD T B v l w' := h.keep fun g _ hg => b.block g hg
theorem OwD.lt (h : OwD T B v l w) : ∀ g, v.ownBlock = some g → B ≤ g ∧ g < w.heap.size := World.ownsRow.lt h
theorem OwD.nil (T : TypeId) (B : Nat) (w : World) : OwD T B (.slice none 0 0) [] w := ⟨rfl, Or.inl ⟨rfl, rfl⟩⟩
theorem OwD.empty {g : Nat} (h : w.heap[g]? = some (.cells #[] T (0, 0))) (hB : B ≤ g) : OwD T B (.slice (some ⟨g, 0, none⟩) 0 0) [] w :=
  ⟨rfl, Or.inr ⟨g, 0, #[], rfl, hB, h, Nat.le_refl _, Nat.zero_le _, rfl, rfl⟩⟩
theorem OwD.mono {C : Nat} (h : OwD T C v l w) (hB : B ≤ C) : OwD T B v l w := by
  refine ⟨h.1, ?_⟩
  rcases h.2 with hn | ⟨g, cap, cur, e, hb, rest⟩
  · exact Or.inl hn
  · exact Or.inr ⟨g, cap, cur, e, Nat.le_trans hB hb, rest⟩
/-- The row's block bears its type. -/
theorem OwD.ne_type (h : OwD T B v l w) {g : Nat} {cs : Array Value} {S : TypeId} {z : Nat × Nat} (hg : w.heap[g]? = some (.cells cs S z)) (hS : S ≠ T) : v.ownBlock ≠ some g := by
  intro e
  rcases h.2 with ⟨rfl, _⟩ | ⟨g', cap, cur, rfl, hb, hg', _⟩
  · cases e
  · have : g' = g := by simpa [Value.ownBlock] using e
    subst this
    rw [hg] at hg'
    cases hg'
    exact hS rfl
end

/-- Block g is a box of type T, in which a doubt lies. -/
structure Bd (T : TypeId) (g : Nat) (x : Dbt) (w : World) : Prop where
  heap : w.heap[g]? = some (.cells #[.int .i64 x.n, .int .u64 x.i, .int .i64 x.s, .int .u64 (x.f : Int), .int .u64 x.a, .int .u64 x.t, .int .u64 x.u] T (0, 0))
section
variable {T : TypeId} {g : Nat} {x : Dbt} {w w' : World}
theorem Bd.c7 (h : Bd T g x w) : C7 g 0 x w := by constructor <;> simp [World.cell?, h.heap]
theorem Bd.c0 (h : Bd T g x w) : w.cell? ⟨g, 0, none⟩ = some (.int .i64 x.n) := h.c7.c0
theorem Bd.c1 (h : Bd T g x w) : w.cell? ⟨g, 1, none⟩ = some (.int .u64 x.i) := h.c7.c1
theorem Bd.c2 (h : Bd T g x w) : w.cell? ⟨g, 2, none⟩ = some (.int .i64 x.s) := h.c7.c2
theorem Bd.c3 (h : Bd T g x w) : w.cell? ⟨g, 3, none⟩ = some (.int .u64 (x.f : Int)) := h.c7.c3
theorem Bd.c4 (h : Bd T g x w) : w.cell? ⟨g, 4, none⟩ = some (.int .u64 x.a) := h.c7.c4
theorem Bd.c5 (h : Bd T g x w) : w.cell? ⟨g, 5, none⟩ = some (.int .u64 x.t) := h.c7.c5
theorem Bd.c6 (h : Bd T g x w) : w.cell? ⟨g, 6, none⟩ = some (.int .u64 x.u) := h.c7.c6
theorem Bd.lt (h : Bd T g x w) : g < w.heap.size := (Array.getElem?_eq_some_iff.1 h.heap).1
theorem Bd.keep (h : Bd T g x w) (e : w'.heap[g]? = w.heap[g]?) : Bd T g x w' := ⟨e.trans h.heap⟩
theorem Bd.below (h : Bd T g x w) (b : Below w.heap.size w w') : Bd T g x w' := h.keep (b.block g h.lt)
theorem Bd.free (h : Bd T g x w) (j : Nat) : w.frozen? ⟨g, j, none⟩ = false := by simp [World.frozen?, h.heap]
theorem Bd.new (T : TypeId) (x : Dbt) (w : World) : Bd T w.heap.size x (w.alloc (dC x T)) := ⟨heap_alloc_new w _⟩
end
theorem Rb.one {T : TypeId} {g : Nat} {x : Dbt} {w : World} (h : Bd T g x w) : Rb (.slice (some ⟨g, 0, none⟩) 1 1) [x] w :=
  ⟨_, 1, rfl, Nat.le_refl _, by unfold maxLen; omega, Or.inr ⟨g, 0, rfl, fun j hj k hk => by
    have : j = 0 := by simpa using hj
    subst this
    have hc := h.c7
    have hk' : k = 0 ∨ k = 1 ∨ k = 2 ∨ k = 3 ∨ k = 4 ∨ k = 5 ∨ k = 6 := by omega
    rcases hk' with rfl | rfl | rfl | rfl | rfl | rfl | rfl
    · exact hc.c0
    · exact hc.c1
    · exact hc.c2
    · exact hc.c3
    · exact hc.c4
    · exact hc.c5
    · exact hc.c6⟩⟩

abbrev zV : Value := .agg #[.int .i64 0, .int .u64 0, .int .i64 0, .int .u64 0, .int .u64 0, .int .u64 0, .int .u64 0]
set_option maxRecDepth 100000 in
theorem Try.infoD : (Try.prog.info? 55).map (fun i => (i.zero, i.size, i.bytes)) = some (some zV, 7, 56) := by kernel_rfl
set_option maxRecDepth 100000 in
theorem Try.infoE : (Try.prog.info? 68).map (fun i => (i.zero, i.size, i.bytes)) = some (some zV, 7, 56) := by kernel_rfl

/-- What an append to such a row does. -/
theorem wp_appD {S T : TypeId} (hS : Try.prog.underlying S = some (.slice T)) (hI : (Try.prog.info? T).map (fun i => (i.zero, i.size, i.bytes)) = some (some zV, 7, 56)) {o : Oper} {a : Act} {K : Act → World → Prop} {Q : Exit → Act → World → Prop} (w : World) (s x : Operand)
    (ho : o.op = .call { callee := .builtin .append, args := #[s, x], argTypes := #[S, S] }) (B : Nat) (v : Value) (l : List Dbt) (hs : a.eval s = v) (hown : OwD T B v l w) (hB : B ≤ w.heap.size)
    (g off c : Nat) (r : List Dbt) (m : Nat) (hm : m = r.length) (hx : a.eval x = .slice (some ⟨g, off, none⟩) m c) (hu : Rb (.slice (some ⟨g, off, none⟩) m c) r w) (hl : l.length + r.length ≤ 1000000)
    (h : ∀ v' w', OwD T B v' (l ++ r) w' → w.grownBy w' v.ownBlock → (v'.ownBlock = v.ownBlock ∨ v'.ownBlock = some w.heap.size) → K (a.put o.dst v') w') : o.wp Try.prog a w K Q := by
  obtain ⟨i0, hi, hz0, hz1, hz2⟩ := info_parts hI
  subst hm
  obtain ⟨v', w', hr, h2, h3, _, h5⟩ := run_append_own_at (P := Try.prog) w B S o.type T i0 _ 7 56 hS hi hz0 hz1 hz2 rfl (by decide) v l.length (flatD l) hown ⟨g, off, none⟩ r.length c (flatD r) (flatD_length r) hu.cells (flatD_cell r) (by unfold maxLen; omega) (by omega) hB
  unfold Oper.wp execOp
  simp only [ho, resolve, invoke, builtin, Sem.run_bind, Sem.run_pure, Result.andThen_ok, List.map_toArray, List.map_cons, List.map_nil, hs, hx, hr]
  refine h v' w' ?_ h3 h5
  unfold OwD
  rw [flatD_append, List.length_append]
  exact h2
theorem wpList_appD {S T : TypeId} (hS : Try.prog.underlying S = some (.slice T)) (hI : (Try.prog.info? T).map (fun i => (i.zero, i.size, i.bytes)) = some (some zV, 7, 56)) {ops : Array Oper} {rest : List Oper} {o : Oper} {a : Act} {Q : Exit → Act → World → Prop} (w : World) (hgd : o.guard = none) (s x : Operand)
    (ho : o.op = .call { callee := .builtin .append, args := #[s, x], argTypes := #[S, S] }) (B : Nat) (v : Value) (l : List Dbt) (hs : a.eval s = v) (hown : OwD T B v l w) (hB : B ≤ w.heap.size)
    (g off c : Nat) (r : List Dbt) (m : Nat) (hm : m = r.length) (hx : a.eval x = .slice (some ⟨g, off, none⟩) m c) (hu : Rb (.slice (some ⟨g, off, none⟩) m c) r w) (hl : l.length + r.length ≤ 1000000)
    (h : ∀ v' w', OwD T B v' (l ++ r) w' → w.grownBy w' v.ownBlock → (v'.ownBlock = v.ownBlock ∨ v'.ownBlock = some w.heap.size) → wpList Try.prog ops Q rest (a.put o.dst v') w') : wpList Try.prog ops Q (o :: rest) a w :=
  wpList_plain hgd fun _ hK => wp_appD hS hI w s x ho B v l hs hown hB g off c r m hm hx hu hl fun v' w' h2 h3 h4 => hK _ _ (h v' w' h2 h3 h4)
end Go.Proofs.Ytahiiieifdhgeaa
