/-
  A map of messages by their numbers.
-/
import Derived.Test.YtajklinlcmkjmaaTbl
import Derived.Maps.OwnOps
import Derived.Maps.OwnSet
import Derived.Maps.RangeWalk
import Derived.Laws.IdiomRangeMap
namespace Go.Proofs.Ytajklinlcmkjmaa
open Go.RowKit Go.Maps

theorem law25 : Keyed Try.prog 25 := int_keyed Try.underlying25
def datM (g : Ms) : DataW Unit := .agg [.lit (.int .i64 g.s), .lit (.int .u64 g.m), .lit (.string g.x.data.toList)]
theorem datM_inj {x y : Ms} (h : datM x = datM y) : x = y := by
  obtain ⟨a, b, ⟨⟨c⟩⟩⟩ := x
  obtain ⟨a', b', ⟨⟨c'⟩⟩⟩ := y
  simp [datM] at h
  simp [h]
/-- How a message reads that lies in a map. -/
def msgElem (v : Value) : Option (DataW Unit × List MemPlace) :=
  match v with
  | .agg a => match a.toList with
    | [.int .i64 s, .int .u64 m, .string x] => some (datM ⟨s, m, x⟩, [])
    | _ => none
  | _ => none
theorem msgElem_mk (g : Ms) : msgElem (.agg #[.int .i64 g.s, .int .u64 g.m, .string g.x]) = some (datM g, []) := rfl
theorem msgElem_inv {v : Value} {z : DataW Unit × List MemPlace} (h : msgElem v = some z) : ∃ g : Ms, v = .agg #[.int .i64 g.s, .int .u64 g.m, .string g.x] ∧ z = (datM g, []) := by
  unfold msgElem at h
  split at h
  · rename_i a
    split at h
    · rename_i s m x e
      refine ⟨⟨s, m, x⟩, ?_, by simpa using h.symm⟩
      obtain ⟨l⟩ := a
      simp at e
      subst e
      rfl
    · cases h
  · cases h
theorem zeroM (w : World) : (zeroValue 27).run Try.prog w = .ok (.agg #[.int .i64 0, .int .u64 0, .string ⟨#[]⟩]) w := by kernel_rfl
theorem lit_ne {a b : Int} (h : a ≠ b) : (Lit.int .u64 a) ≠ .int .u64 b := fun e => h (by cases e; rfl)
theorem ownsMap_tight {P : Program} {k : TypeId} {R : Value → Option (DataW Unit × List MemPlace)} {w : World} {b n m : Nat} {D : DataW Unit} (h : w.ownsMap P k R b n D) (hm : Maps.size D ≤ m) : w.ownsMap P k R b m D := by
  obtain ⟨es, clock, hb, F, hs, hD⟩ := h
  refine ⟨es, clock, hb, F, ?_, hD⟩
  rw [hD] at hm
  simpa [Maps.size, length_sorted] using hm
theorem wf_u64 {x : Int} (h0 : 0 ≤ x) (h1 : x ≤ 18446744073709551615) : (Lit.int .u64 x).wf = true := by simp [Lit.wf, IntKind.min, IntKind.max, IntKind.signed, IntKind.bits]; omega

def setF (f : Int → Option Ms) (x : Int) (y : Ms) : Int → Option Ms := fun z => if z = x then some y else f z
/-- D has f x at x; n entries. -/
structure Md (f : Int → Option Ms) (n : Nat) (D : DataW Unit) : Prop where
  has : ∀ x, Maps.has D (.int .u64 x) = (f x).isSome
  at_ : ∀ x y, f x = some y → ∀ z, D.atKey (.int .u64 x) z = datM y
  size : Maps.size D = n
/-- Block b is a map that has f x at x; n entries. -/
def Mm (b : Nat) (f : Int → Option Ms) (n : Nat) (w : World) : Prop := ∃ D : DataW Unit, w.ownsMap Try.prog 25 msgElem b 1000 D ∧ Md f n D
section
variable {f : Int → Option Ms} {b n : Nat} {w w' : World}
theorem Mm.keep (h : Mm b f n w) (e : w'.heap[b]? = w.heap[b]?) : Mm b f n w' := by
  obtain ⟨D, ⟨es, clock, hb, r⟩, hp⟩ := h
  exact ⟨D, ⟨es, clock, e.trans hb, r⟩, hp⟩
theorem Mm.lt (h : Mm b f n w) : b < w.heap.size := by
  obtain ⟨D, h, _⟩ := h
  exact h.lt
theorem Mm.below (h : Mm b f n w) (k : Below w.heap.size w w') : Mm b f n w' := h.keep (k.block b h.lt)
theorem Mm.but {p : Nat} (h : Mm b f n w) (k : But w.heap.size p w w') (hp : b ≠ p) : Mm b f n w' := h.keep (k.block b h.lt hp)
theorem Mm.made (w : World) : Mm w.heap.size (fun _ => none) 0 (w.alloc (.map #[] 0)) :=
  ⟨_, (World.ownsMap_made w _ _ _).mono (Nat.zero_le _), (fun x => by rw [has_eq]; simp), (fun x y e => by cases e), rfl⟩
theorem Mm.look (h : Mm b f n w) {x : Int} (h0 : 0 ≤ x) (h1 : x ≤ 18446744073709551615) :
    (Instr.lookup 50 (.map (some b)) (.int .u64 x) true).run Try.prog w = .ok (.tuple #[.agg #[.int .i64 ((f x).getD zM).s, .int .u64 ((f x).getD zM).m, .string ((f x).getD zM).x], .bool (f x).isSome]) w := by
  obtain ⟨D, ho, hd⟩ := h
  obtain ⟨v, ps, hr, hv⟩ := ho.look_ok law25 Try.underlying50 (zeroM _) (msgElem_mk zM) (keyOf_int_mk Try.underlying25 (wf_u64 h0 h1))
  rw [hr, hd.has x]
  obtain ⟨y, rfl, e⟩ := msgElem_inv hv
  have e' : D.atKey (.int .u64 x) (datM zM) = datM y := by simpa using congrArg Prod.fst e
  cases hf : f x with
  | none =>
    rw [atKey_of_not_has (by rw [hd.has x, hf]; rfl)] at e'
    obtain rfl := datM_inj e'
    rfl
  | some z =>
    rw [hd.at_ x z hf] at e'
    obtain rfl := datM_inj e'
    rfl
theorem Mm.put (h : Mm b f n w) {x : Int} (y : Ms) (h0 : 0 ≤ x) (h1 : x ≤ 18446744073709551615) (hn : n < 1000) :
    ∃ w', (Instr.mapUpdate 50 (.map (some b)) (.int .u64 x) (.agg #[.int .i64 y.s, .int .u64 y.m, .string y.x])).run Try.prog w = .ok () w' ∧ Mm b (setF f x y) (if (f x).isSome then n else n + 1) w' ∧ w.grownBy w' (some b) := by
  obtain ⟨D, ho, hd⟩ := h
  obtain ⟨w', hr, k1, k2⟩ := ho.update law25 Try.underlying50 (by unfold maxLen; omega) (keyOf_int_mk Try.underlying25 (wf_u64 h0 h1)) (msgElem_mk y)
  have hsz : Maps.size (D.put (.int .u64 x) (datM y)) = if (f x).isSome then n else n + 1 := by
    rw [size_put (ho.tidy law25), hd.has x, hd.size]
  refine ⟨w', hr, ⟨_, ownsMap_tight k1 (by rw [hsz]; split <;> omega), fun z => ?_, fun z u hz => ?_, hsz⟩, k2⟩
  · by_cases e : z = x
    · subst e
      rw [has_put_same ho.isMap (show WideAt.IsKeyLit (.int .u64 z) from trivial)]; simp [setF]
    · rw [has_put_other (lit_ne e), hd.has z]; simp [setF, e]
  · by_cases e : z = x
    · subst e
      obtain rfl : y = u := by simpa [setF] using hz
      exact atKey_put_same ho.isMap (show WideAt.IsKeyLit (.int .u64 z) from trivial) _
    · intro d
      rw [atKey_put_other (lit_ne e)]
      exact hd.at_ z u (by simpa [setF, e] using hz) d
theorem Mm.len (h : Mm b f n w) (ty : TypeId) : (Builtin.len_ #[50] ty #[.map (some b)]).run Try.prog w = .ok (.int .i64 n) w := by
  obtain ⟨D, ho, hd⟩ := h
  rw [ho.len Try.underlying50 ty, hd.size]
end
theorem grown_of_below {w w' : World} (h : Below w.heap.size w w') : w.grownBy w' none := ⟨h.os, h.tape, h.output, h.size, fun i hi _ => h.block i hi⟩
end Go.Proofs.Ytajklinlcmkjmaa
