/-
  A queue: a map by nodes, behind a pointer.
-/
import Derived.Test.YtagdacfgpgcbcaaRwi
import Derived.Maps.RangeWalk
import Derived.Maps.OwnSet
import Derived.Maps.OwnOps
import Derived.Laws.IdiomRangeMap
namespace Go.Proofs.Ytagdacfgpgcbcaa
open Go.RowKit Go.Maps

theorem law3 : Keyed Try.prog 3 := int_keyed Try.underlying3
def dat (x : Itm) : DataW Unit := .agg [.lit (.int .i64 x.1), .lit (.int .u64 x.2.1), .lit (.int .i64 x.2.2.1), .lit (.int .i64 x.2.2.2)]
theorem dat_inj {x y : Itm} (h : dat x = dat y) : x = y := by
  obtain ⟨a, b, c, d⟩ := x
  obtain ⟨a', b', c', d'⟩ := y
  simp [dat] at h
  simp [h]
/-- How a rumor reads that lies in a map. -/
def itmElem (v : Value) : Option (DataW Unit × List MemPlace) :=
  match v with
  | .agg a => match a.toList with
    | [.int .i64 n, .int .u64 i, .int .i64 s, .int .i64 t] => some (dat (n, i, s, t), [])
    | _ => none
  | _ => none
theorem itmElem_mk (x : Itm) : itmElem (itmV x) = some (dat x, []) := rfl
theorem itmElem_inv {v : Value} {z : DataW Unit × List MemPlace} (h : itmElem v = some z) : ∃ x, v = itmV x ∧ z = (dat x, []) := by
  unfold itmElem at h
  split at h
  · rename_i a
    split at h
    · rename_i n i s t e
      refine ⟨(n, i, s, t), ?_, by simpa using h.symm⟩
      obtain ⟨l⟩ := a
      simp at e
      subst e
      rfl
    · cases h
  · cases h

/-- The map reads as the rumors L. -/
structure Mp (D : DataW Unit) (L : List Itm) : Prop where
  is : ∀ x ∈ L, ∀ z, D.atKey (.int .i64 x.1) z = dat x
  has : ∀ k, Maps.has D (.int .i64 k) = true → ∃ x ∈ L, x.1 = k
  size : Maps.size D = L.length
theorem Mp.hit {D : DataW Unit} {L : List Itm} (h : Mp D L) {x : Itm} (hx : x ∈ L) : Maps.has D (.int .i64 x.1) = true := has_true_of_atKey (h.is x hx)
theorem Mp.miss {D : DataW Unit} {L : List Itm} (h : Mp D L) {k : Int} (hx : ∀ x ∈ L, x.1 ≠ k) : Maps.has D (.int .i64 k) = false := by
  cases e : Maps.has D (.int .i64 k)
  · rfl
  · obtain ⟨x, h1, h2⟩ := h.has k e
    exact absurd h2 (hx x h1)
theorem lit_ne {a b : Int} (h : a ≠ b) : (Lit.int .i64 a) ≠ .int .i64 b := fun e => h (by cases e; rfl)
theorem Mp.put {D : DataW Unit} {L : List Itm} (h : Mp D L) (hL : Qi L) (hD : Tidy D) (x : Itm) : Mp (D.put (.int .i64 x.1) (dat x)) (keepQ L x) := by
  refine ⟨fun y hy z => ?_, fun k hk => ?_, ?_⟩
  · rcases (insQ_mem _ _ _).1 hy with rfl | hy
    · exact atKey_put_same hD.isMap (show WideAt.IsKeyLit (.int .i64 y.1) from trivial) _ _
    · obtain ⟨h1, h2⟩ := (lessQ_mem _ _ _).1 hy
      rw [atKey_put_other (lit_ne h2)]
      exact h.is y h1 z
  · by_cases e : k = x.1
    · exact ⟨x, (insQ_mem _ _ _).2 (Or.inl rfl), e.symm⟩
    · rw [has_put_other (lit_ne e)] at hk
      obtain ⟨y, h1, h2⟩ := h.has k hk
      exact ⟨y, (insQ_mem _ _ _).2 (Or.inr ((lessQ_mem _ _ _).2 ⟨h1, by rw [h2]; exact e⟩)), h2⟩
  · rw [size_put hD, h.size]
    by_cases e : ∃ y ∈ L, y.1 = x.1
    · obtain ⟨y, h1, h2⟩ := e
      rw [keepQ_length_same hL x ⟨y, h1, h2⟩, ← h2, h.hit h1]
      rfl
    · have e' : ∀ y ∈ L, y.1 ≠ x.1 := fun y hy h => e ⟨y, hy, h⟩
      rw [h.miss e']
      unfold keepQ
      rw [insQ_length, lessQ_none e']
      rfl
theorem Mp.del {D : DataW Unit} {L : List Itm} (h : Mp D L) (hL : Qi L) (hD : Tidy D) (n : Int) : Mp (D.del (.int .i64 n)) (lessQ L n) := by
  refine ⟨fun y hy z => ?_, fun k hk => ?_, ?_⟩
  · obtain ⟨h1, h2⟩ := (lessQ_mem _ _ _).1 hy
    rw [atKey_del_other (lit_ne h2)]
    exact h.is y h1 z
  · by_cases e : k = n
    · subst e
      rw [has_del_same] at hk
      cases hk
    · rw [has_del_other (lit_ne e)] at hk
      obtain ⟨y, h1, h2⟩ := h.has k hk
      exact ⟨y, (lessQ_mem _ _ _).2 ⟨h1, by rw [h2]; exact e⟩, h2⟩
  · have hs := size_del (k := .int .i64 n) hD
    rw [h.size] at hs
    by_cases e : ∃ y ∈ L, y.1 = n
    · obtain ⟨y, h1, rfl⟩ := e
      rw [h.hit h1] at hs
      have := lessQ_length hL h1
      simp at hs
      omega
    · have e' : ∀ y ∈ L, y.1 ≠ n := fun y hy h => e ⟨y, hy, h⟩
      rw [h.miss e'] at hs
      rw [lessQ_none e']
      simpa using hs
theorem Mp.empty : Mp (.map []) [] := ⟨(fun _ h => by cases h), (fun _ h => by rw [has_eq] at h; simp at h), rfl⟩

/-- At most as many entries as it has. -/
theorem ownsMap_tight {P : Program} {k : TypeId} {R : Value → Option (DataW Unit × List MemPlace)} {w : World} {b n m : Nat} {D : DataW Unit} (h : w.ownsMap P k R b n D) (hm : Maps.size D ≤ m) : w.ownsMap P k R b m D := by
  obtain ⟨es, clock, hb, F, hs, hD⟩ := h
  refine ⟨es, clock, hb, F, ?_, hD⟩
  rw [hD] at hm
  simpa [Maps.size, length_sorted] using hm

/-- Block b is a map of rumors. -/
def Mo (b : Nat) (L : List Itm) (w : World) : Prop := ∃ D, w.ownsMap Try.prog 3 itmElem b 40 D ∧ Mp D L
theorem Mo.keep {b : Nat} {L : List Itm} {w w' : World} (h : Mo b L w) (e : w'.heap[b]? = w.heap[b]?) : Mo b L w' := by
  obtain ⟨D, ⟨es, clock, hb, r⟩, hp⟩ := h
  exact ⟨D, ⟨es, clock, e.trans hb, r⟩, hp⟩
theorem Mo.lt {b : Nat} {L : List Itm} {w : World} (h : Mo b L w) : b < w.heap.size := by
  obtain ⟨D, h, _⟩ := h
  exact h.lt
theorem Mo.below {b : Nat} {L : List Itm} {w w' : World} (h : Mo b L w) (k : Below w.heap.size w w') : Mo b L w' := h.keep (k.block b h.lt)
theorem Mo.made (w : World) : Mo w.heap.size [] (w.alloc (.map #[] 0)) := ⟨_, (World.ownsMap_made w _ _ _).mono (Nat.zero_le _), Mp.empty⟩

theorem wf_node {x : Int} (h0 : 0 ≤ x) (h1 : x < 64) : (Lit.int .i64 x).wf = true := WalkArith.wf_i64 (by omega)
/-- 'm[x.Node] = x'. -/
theorem Mo.put {b : Nat} {L : List Itm} {w : World} (h : Mo b L w) (hL : Qi L) {x : Itm} (hx : ItmOk x) (hl : (keepQ L x).length ≤ 40) :
    ∃ w', (Instr.mapUpdate 25 (.map (some b)) (.int .i64 x.1) (itmV x)).run Try.prog w = .ok () w' ∧ Mo b (keepQ L x) w' ∧ w.grownBy w' (some b) := by
  obtain ⟨D, ho, hp⟩ := h
  obtain ⟨w', hr, h1, h2⟩ := ho.update law3 Try.underlying25 (by unfold maxLen; omega) (keyOf_int_mk Try.underlying3 (wf_node hx.n0 hx.n1)) (itmElem_mk x)
  have hp' := hp.put hL (ho.tidy law3) x
  exact ⟨w', hr, ⟨_, ownsMap_tight h1 (by rw [hp'.size]; exact hl), hp'⟩, h2⟩
/-- 'delete(m, n)'. -/
theorem Mo.del {b : Nat} {L : List Itm} {w : World} (h : Mo b L w) (hL : Qi L) {n : Int} (h0 : 0 ≤ n) (h1 : n < 64) (ty : TypeId) :
    ∃ w', (Builtin.delete_ #[25, 3] ty #[.map (some b), .int .i64 n]).run Try.prog w = .ok (.tuple #[]) w' ∧ Mo b (lessQ L n) w' ∧ w.grownBy w' (some b) := by
  obtain ⟨D, ho, hp⟩ := h
  obtain ⟨w', hr, k1, k2⟩ := ho.drop law3 Try.underlying25 (keyOf_int_mk Try.underlying3 (wf_node h0 h1)) ty
  exact ⟨w', hr, ⟨_, k1, hp.del hL (ho.tidy law3) n⟩, k2.grown⟩

theorem zeroI (w : World) : (zeroValue 53).run Try.prog w = .ok (itmV (0, 0, 0, 0)) w := by kernel_rfl
/-- Is there a rumor of this node? -/
def hasQ (L : List Itm) (n : Int) : Bool := L.any (fun x => x.1 == n)
def getQ (L : List Itm) (n : Int) : Itm := (L.find? (fun x => x.1 == n)).getD (0, 0, 0, 0)
theorem hasQ_true {L : List Itm} {n : Int} (h : hasQ L n = true) : getQ L n ∈ L ∧ (getQ L n).1 = n := by
  unfold hasQ at h
  unfold getQ
  cases e : L.find? (fun x => x.1 == n)
  case none =>
    rw [List.find?_eq_none] at e
    obtain ⟨x, h1, h2⟩ := List.any_eq_true.1 h
    exact absurd h2 (e x h1)
  case some y => exact ⟨List.mem_of_find?_eq_some e, by simpa using List.find?_some e⟩
theorem hasQ_false {L : List Itm} {n : Int} (h : hasQ L n = false) : (∀ x ∈ L, x.1 ≠ n) ∧ getQ L n = (0, 0, 0, 0) := by
  have h1 : ∀ x ∈ L, x.1 ≠ n := fun x hx e => by
    have : hasQ L n = true := List.any_eq_true.2 ⟨x, hx, by simpa using e⟩
    rw [h] at this; cases this
  refine ⟨h1, ?_⟩
  unfold getQ
  rw [List.find?_eq_none.2 fun x hx => by simpa using h1 x hx]
  rfl
/-- 'v, ok := m[n]'. -/
theorem Mo.look {b : Nat} {L : List Itm} {w : World} (h : Mo b L w) {n : Int} (h0 : 0 ≤ n) (h1 : n < 64) :
    (Instr.lookup 25 (.map (some b)) (.int .i64 n) true).run Try.prog w = .ok (.tuple #[itmV (getQ L n), .bool (hasQ L n)]) w := by
  obtain ⟨D, ho, hp⟩ := h
  obtain ⟨v, ps, hr, hv⟩ := ho.look_ok law3 Try.underlying25 (zeroI _) (itmElem_mk (0, 0, 0, 0)) (keyOf_int_mk Try.underlying3 (wf_node h0 h1))
  rw [hr]
  obtain ⟨x, rfl, e⟩ := itmElem_inv hv
  have e' : D.atKey (.int .i64 n) (dat (0, 0, 0, 0)) = dat x := by simpa using congrArg Prod.fst e
  cases hh : hasQ L n
  case false =>
    obtain ⟨k1, k2⟩ := hasQ_false hh
    have hm := hp.miss k1
    rw [atKey_of_not_has hm] at e'
    rw [hm, k2, dat_inj e']
  case true =>
    obtain ⟨k1, k2⟩ := hasQ_true hh
    have hm := hp.hit k1
    rw [k2] at hm
    have := hp.is _ k1 (dat (0, 0, 0, 0))
    rw [k2, e'] at this
    rw [hm, dat_inj this]
end Go.Proofs.Ytagdacfgpgcbcaa
