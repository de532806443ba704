/-
  Doubts: a map by nodes, behind a pointer.
-/
import Derived.Test.YtahiiieifdhgeaaDrw
import Derived.Maps.RangeWalk
import Derived.Maps.OwnSet
import Derived.Maps.OwnOps
import Derived.Laws.IdiomRangeMap
namespace Go.Proofs.Ytahiiieifdhgeaa
open Go.RowKit Go.Maps

theorem law3 : Keyed Try.prog 3 := int_keyed Try.underlying3
def dat (x : Dbt) : DataW Unit := .agg [.lit (.int .i64 x.n), .lit (.int .u64 x.i), .lit (.int .i64 x.s), .lit (.int .u64 (x.f : Int)), .lit (.int .u64 x.a), .lit (.int .u64 x.t), .lit (.int .u64 x.u)]
theorem dat_inj {x y : Dbt} (h : dat x = dat y) : x = y := by
  obtain ⟨a, b, c, d, e, f, g⟩ := x
  obtain ⟨a', b', c', d', e', f', g'⟩ := y
  simp [dat] at h
  simp [h]
  omega
/-- How a doubt reads that lies in a map. -/
def dElem (v : Value) : Option (DataW Unit × List MemPlace) :=
  match v with
  | .agg a => match a.toList with
    | [.int .i64 n, .int .u64 i, .int .i64 s, .int .u64 (.ofNat f), .int .u64 c, .int .u64 t, .int .u64 u] => some (dat ⟨n, i, s, f, c, t, u⟩, [])
    | _ => none
  | _ => none
theorem dElem_mk (x : Dbt) : dElem (dV x) = some (dat x, []) := rfl
theorem dElem_inv {v : Value} {z : DataW Unit × List MemPlace} (h : dElem v = some z) : ∃ x, v = dV x ∧ z = (dat x, []) := by
  unfold dElem at h
  split at h
  · rename_i a
    split at h
    · rename_i n i s f c t u e
      refine ⟨⟨n, i, s, f, c, t, u⟩, ?_, by simpa using h.symm⟩
      obtain ⟨l⟩ := a
      simp at e
      subst e
      rfl
    · cases h
  · cases h

/-- The map reads as the doubts L. -/
structure Mp (D : DataW Unit) (L : List Dbt) : Prop where
  is : ∀ x ∈ L, ∀ z, D.atKey (.int .i64 x.n) z = dat x
  has : ∀ k, Maps.has D (.int .i64 k) = true → ∃ x ∈ L, x.n = k
  size : Maps.size D = L.length
theorem Mp.hit {D : DataW Unit} {L : List Dbt} (h : Mp D L) {x : Dbt} (hx : x ∈ L) : Maps.has D (.int .i64 x.n) = true := has_true_of_atKey (h.is x hx)
theorem Mp.miss {D : DataW Unit} {L : List Dbt} (h : Mp D L) {k : Int} (hx : ∀ x ∈ L, x.n ≠ k) : Maps.has D (.int .i64 k) = false := by
  cases e : Maps.has D (.int .i64 k)
  · rfl
  · obtain ⟨x, h1, h2⟩ := h.has k e
    exact absurd h2 (hx x h1)
theorem lit_ne {a b : Int} (h : a ≠ b) : (Lit.int .i64 a) ≠ .int .i64 b := fun e => h (by cases e; rfl)
theorem Mp.put {D : DataW Unit} {L : List Dbt} (h : Mp D L) (hL : Di L) (hD : Tidy D) (x : Dbt) : Mp (D.put (.int .i64 x.n) (dat x)) (keepD L x) := by
  refine ⟨fun y hy z => ?_, fun k hk => ?_, ?_⟩
  · rcases keepD_mem.1 hy with rfl | ⟨h1, h2⟩
    · exact atKey_put_same hD.isMap (show WideAt.IsKeyLit (.int .i64 y.n) from trivial) _ _
    · rw [atKey_put_other (lit_ne h2)]
      exact h.is y h1 z
  · by_cases e : k = x.n
    · exact ⟨x, keepD_mem.2 (Or.inl rfl), e.symm⟩
    · rw [has_put_other (lit_ne e)] at hk
      obtain ⟨y, h1, h2⟩ := h.has k hk
      exact ⟨y, keepD_mem.2 (Or.inr ⟨h1, by rw [h2]; exact e⟩), h2⟩
  · rw [size_put hD, h.size]
    by_cases e : ∃ y ∈ L, y.n = x.n
    · obtain ⟨y, h1, h2⟩ := e
      rw [keepD_length_same hL x ⟨y, h1, h2⟩, ← h2, h.hit h1]
      rfl
    · have e' : ∀ y ∈ L, y.n ≠ x.n := fun y hy h => e ⟨y, hy, h⟩
      rw [h.miss e', keepD_length_new e']
      rfl
theorem Mp.del {D : DataW Unit} {L : List Dbt} (h : Mp D L) (hL : Di L) (hD : Tidy D) (n : Int) : Mp (D.del (.int .i64 n)) (lessD L n) := by
  refine ⟨fun y hy z => ?_, fun k hk => ?_, ?_⟩
  · obtain ⟨h1, h2⟩ := lessD_mem.1 hy
    rw [atKey_del_other (lit_ne h2)]
    exact h.is y h1 z
  · by_cases e : k = n
    · subst e
      rw [has_del_same] at hk
      cases hk
    · rw [has_del_other (lit_ne e)] at hk
      obtain ⟨y, h1, h2⟩ := h.has k hk
      exact ⟨y, lessD_mem.2 ⟨h1, by rw [h2]; exact e⟩, h2⟩
  · have hs := size_del (k := .int .i64 n) hD
    rw [h.size] at hs
    by_cases e : ∃ y ∈ L, y.n = n
    · obtain ⟨y, h1, rfl⟩ := e
      rw [h.hit h1] at hs
      have := lessD_length hL h1
      simp at hs
      omega
    · have e' : ∀ y ∈ L, y.n ≠ n := fun y hy h => e ⟨y, hy, h⟩
      rw [h.miss e'] at hs
      rw [lessD_none e']
      simpa using hs
theorem Mp.empty : Mp (.map []) [] := ⟨(fun _ h => by cases h), (fun _ h => by rw [has_eq] at h; simp at h), rfl⟩

/-- At most as many entries as it has. -/
theorem ownsMap_tight {P : Program} {k : TypeId} {R : Value → Option (DataW Unit × List MemPlace)} {w : World} {b n m : Nat} {D : DataW Unit} (h : w.ownsMap P k R b n D) (hm : Maps.size D ≤ m) : w.ownsMap P k R b m D := by
  obtain ⟨es, clock, hb, F, hs, hD⟩ := h
  refine ⟨es, clock, hb, F, ?_, hD⟩
  rw [hD] at hm
  simpa [Maps.size, length_sorted] using hm

/-- Block b is a map of doubts. -/
def Mo (b : Nat) (L : List Dbt) (w : World) : Prop := ∃ D, w.ownsMap Try.prog 3 dElem b 64 D ∧ Mp D L
theorem Mo.keep {b : Nat} {L : List Dbt} {w w' : World} (h : Mo b L w) (e : w'.heap[b]? = w.heap[b]?) : Mo b L w' := by
  obtain ⟨D, ⟨es, clock, hb, r⟩, hp⟩ := h
  exact ⟨D, ⟨es, clock, e.trans hb, r⟩, hp⟩
theorem Mo.lt {b : Nat} {L : List Dbt} {w : World} (h : Mo b L w) : b < w.heap.size := by
  obtain ⟨D, h, _⟩ := h
  exact h.lt
theorem Mo.below {b : Nat} {L : List Dbt} {w w' : World} (h : Mo b L w) (k : Below w.heap.size w w') : Mo b L w' := h.keep (k.block b h.lt)
theorem Mo.made (w : World) : Mo w.heap.size [] (w.alloc (.map #[] 0)) := ⟨_, (World.ownsMap_made w _ _ _).mono (Nat.zero_le _), Mp.empty⟩
theorem Mo.ne_cells {b g : Nat} {L : List Dbt} {w : World} (h : Mo b L w) {cs : Array Value} {T : TypeId} {z : Nat × Nat} (hg : w.heap[g]? = some (.cells cs T z)) : b ≠ g := by
  rintro rfl
  obtain ⟨D, ⟨es, clock, h1, _⟩, _⟩ := h
  rw [hg] at h1
  cases h1

theorem wf_node {x : Int} (h0 : 0 ≤ x) (h1 : x < 64) : (Lit.int .i64 x).wf = true := WalkArith.wf_i64 (by omega)
/-- 'm[x.Node] = x'. -/
theorem Mo.put {b : Nat} {L : List Dbt} {w : World} (h : Mo b L w) (hL : Di L) {x : Dbt} (hx : DbtOk x) :
    ∃ w', (Instr.mapUpdate 25 (.map (some b)) (.int .i64 x.n) (dV x)).run Try.prog w = .ok () w' ∧ Mo b (keepD L x) w' ∧ w.grownBy w' (some b) := by
  obtain ⟨D, ho, hp⟩ := h
  obtain ⟨w', hr, h1, h2⟩ := ho.update law3 Try.underlying25 (by unfold maxLen; omega) (keyOf_int_mk Try.underlying3 (wf_node hx.n0 hx.n1)) (dElem_mk x)
  have hp' := hp.put hL (ho.tidy law3) x
  exact ⟨w', hr, ⟨_, ownsMap_tight h1 (by rw [hp'.size]; exact (hL.keep hx).length), hp'⟩, h2⟩
/-- 'delete(m, n)'. -/
theorem Mo.del {b : Nat} {L : List Dbt} {w : World} (h : Mo b L w) (hL : Di L) {n : Int} (hn : (Lit.int .i64 n).wf = true) (ty : TypeId) :
    ∃ w', (Builtin.delete_ #[25, 3] ty #[.map (some b), .int .i64 n]).run Try.prog w = .ok (.tuple #[]) w' ∧ Mo b (lessD L n) w' ∧ w.grownBy w' (some b) := by
  obtain ⟨D, ho, hp⟩ := h
  obtain ⟨w', hr, k1, k2⟩ := ho.drop law3 Try.underlying25 (keyOf_int_mk Try.underlying3 hn) ty
  exact ⟨w', hr, ⟨_, k1, hp.del hL (ho.tidy law3) n⟩, k2.grown⟩

set_option maxRecDepth 100000 in
theorem zeroD (w : World) : (zeroValue 55).run Try.prog w = .ok (dV zD) w := by kernel_rfl
/-- 'v, ok := m[n]'. -/
theorem Mo.look {b : Nat} {L : List Dbt} {w : World} (h : Mo b L w) {n : Int} (hn : (Lit.int .i64 n).wf = true) :
    (Instr.lookup 25 (.map (some b)) (.int .i64 n) true).run Try.prog w = .ok (.tuple #[dV (getD L n), .bool (hasD L n)]) w := by
  obtain ⟨D, ho, hp⟩ := h
  obtain ⟨v, ps, hr, hv⟩ := ho.look_ok law3 Try.underlying25 (zeroD _) (dElem_mk zD) (keyOf_int_mk Try.underlying3 hn)
  rw [hr]
  obtain ⟨x, rfl, e⟩ := dElem_inv hv
  have e' : D.atKey (.int .i64 n) (dat zD) = dat x := by simpa using congrArg Prod.fst e
  cases hh : hasD L n
  case false =>
    obtain ⟨k1, k2⟩ := hasD_false hh
    have hm := hp.miss k1
    rw [atKey_of_not_has hm] at e'
    rw [hm, k2, dat_inj e']
  case true =>
    obtain ⟨k1, k2⟩ := hasD_true hh
    have hm := hp.hit k1
    rw [k2] at hm
    have := hp.is _ k1 (dat zD)
    rw [k2, e'] at this
    rw [hm, dat_inj this]
end Go.Proofs.Ytahiiieifdhgeaa
