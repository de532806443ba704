/-
  A map of nodes to true: which are in it, and how many.
-/
import Derived.Test.YtahiiieifdhgeaaDke
import Derived.Maps.OwnOps
import Derived.Maps.OwnSet
namespace Go.Proofs.Ytahiiieifdhgeaa
open Go.RowKit Go.Maps

theorem zero4 (w : World) : (zeroValue 4).run Try.prog w = .ok (.bool false) w := by kernel_rfl
theorem plainElem_bool_inv {P : Program} {e : TypeId} (he : P.underlying e = some .bool) {v : Value} {z : DataW Unit × List MemPlace} (h : plainElem P e v = some z) : ∃ x : Bool, v = .bool x ∧ z = (.lit (.bool x), []) := by
  cases v with
  | bool x =>
    rw [plainElem_bool he] at h
    exact ⟨x, rfl, (Option.some.inj h).symm⟩
  | _ => simp [plainElem, he] at h
/-- Block b is a map that has just those x for which c is true, n of them; each is true. -/
def Wm (b : Nat) (c : Int → Bool) (n : Nat) (w : World) : Prop :=
  ∃ D : DataW Unit, w.ownsMap Try.prog 3 (plainElem Try.prog 4) b 1000 D ∧ (∀ x, Maps.has D (.int .i64 x) = c x) ∧ (∀ x, c x = true → ∀ z, D.atKey (.int .i64 x) z = .lit (.bool true)) ∧ Maps.size D = n
section
variable {c : Int → Bool} {b n : Nat} {w w' : World}
theorem Wm.keep (h : Wm b c n w) (e : w'.heap[b]? = w.heap[b]?) : Wm b c n w' := by
  obtain ⟨D, ⟨es, clock, hb, r⟩, hp⟩ := h
  exact ⟨D, ⟨es, clock, e.trans hb, r⟩, hp⟩
theorem Wm.lt (h : Wm b c n w) : b < w.heap.size := by
  obtain ⟨D, h, _⟩ := h
  exact h.lt
theorem Wm.below (h : Wm b c n w) (k : Below w.heap.size w w') : Wm b c n w' := h.keep (k.block b h.lt)
theorem Wm.heap (h : Wm b c n w) : ∃ es clock, w.heap[b]? = some (.map es clock) := by
  obtain ⟨D, ⟨es, clock, hb, r⟩, hp⟩ := h
  exact ⟨es, clock, hb⟩
theorem Wm.made (w : World) : Wm w.heap.size (fun _ => false) 0 (w.alloc (.map #[] 0)) :=
  ⟨_, (World.ownsMap_made w _ _ _).mono (Nat.zero_le _), (fun x => by rw [has_eq]; simp), (fun x e => by cases e), rfl⟩
theorem Wm.cong (h : Wm b c n w) {c' : Int → Bool} {n' : Nat} (hc : ∀ x, c' x = c x) (hn : n' = n) : Wm b c' n' w := by
  have : c' = c := funext hc
  rw [this, hn]
  exact h
theorem Wm.get (h : Wm b c n w) {x : Int} (hx : (Lit.int .i64 x).wf = true) :
    (Instr.lookup 53 (.map (some b)) (.int .i64 x) false).run Try.prog w = .ok (.bool (c x)) w := by
  obtain ⟨D, ho, hh, hp, _⟩ := h
  obtain ⟨v, ps, hr, hv⟩ := ho.lookup law3 Try.underlying53 (zero4 _) (plainElem_bool Try.underlying4 false) (keyOf_int_mk Try.underlying3 hx)
  rw [hr]
  obtain ⟨y, rfl, e⟩ := plainElem_bool_inv Try.underlying4 hv
  have e' : D.atKey (.int .i64 x) (.lit (.bool false)) = .lit (.bool y) := by simpa using congrArg Prod.fst e
  cases hf : c x with
  | false =>
    rw [atKey_of_not_has (by rw [hh x, hf])] at e'
    simp at e'
    simp [e']
  | true =>
    rw [hp x hf] at e'
    simp at e'
    simp [e']
theorem Wm.put (h : Wm b c n w) {x : Int} (hx : (Lit.int .i64 x).wf = true) (hn : n < 1000) :
    ∃ w', (Instr.mapUpdate 53 (.map (some b)) (.int .i64 x) (.bool true)).run Try.prog w = .ok () w' ∧ Wm b (fun z => z == x || c z) (if c x then n else n + 1) w' ∧ w.grownBy w' (some b) := by
  obtain ⟨D, ho, hh, hp, hs⟩ := h
  obtain ⟨w', hr, k1, k2⟩ := ho.update law3 Try.underlying53 (by unfold maxLen; omega) (keyOf_int_mk Try.underlying3 hx) (plainElem_bool Try.underlying4 true)
  have hsz : Maps.size (D.put (.int .i64 x) (.lit (.bool true))) = if c x then n else n + 1 := by
    rw [size_put (ho.tidy law3), hh x, hs]
  refine ⟨w', hr, ⟨_, ownsMap_tight k1 (by rw [hsz]; split <;> omega), fun z => ?_, fun z hz => ?_, hsz⟩, k2⟩
  · by_cases e : z = x
    · subst e
      rw [has_put_same ho.isMap (show WideAt.IsKeyLit (.int .i64 z) from trivial)]; simp
    · rw [has_put_other (lit_ne e), hh z]; simp [e]
  · by_cases e : z = x
    · subst e
      exact atKey_put_same ho.isMap (show WideAt.IsKeyLit (.int .i64 z) from trivial) _
    · intro d
      rw [atKey_put_other (lit_ne e)]
      exact hp z (by simpa [e] using hz) d
theorem Wm.del (h : Wm b c n w) {x : Int} (hx : (Lit.int .i64 x).wf = true) (ty : TypeId) :
    ∃ w', (Builtin.delete_ #[53, 3] ty #[.map (some b), .int .i64 x]).run Try.prog w = .ok (.tuple #[]) w' ∧ Wm b (fun z => z != x && c z) (if c x then n - 1 else n) w' ∧ w.grownBy w' (some b) := by
  obtain ⟨D, ho, hh, hp, hs⟩ := h
  obtain ⟨w', hr, k1, k2⟩ := ho.drop law3 Try.underlying53 (keyOf_int_mk Try.underlying3 hx) ty
  have hsz := size_del (k := .int .i64 x) (ho.tidy law3)
  rw [hh x, hs] at hsz
  refine ⟨w', hr, ⟨_, k1, fun z => ?_, fun z hz => ?_, ?_⟩, k2.grown⟩
  · by_cases e : z = x
    · subst e
      rw [has_del_same]; simp
    · rw [has_del_other (lit_ne e), hh z]; simp [e]
  · by_cases e : z = x
    · subst e; simp at hz
    · intro d
      rw [atKey_del_other (lit_ne e)]
      exact hp z (by simpa [e] using hz) d
  · cases hc : c x <;> simp [hc] at hsz ⊢ <;> omega
theorem Wm.len (h : Wm b c n w) (ty : TypeId) : (Builtin.len_ #[53] ty #[.map (some b)]).run Try.prog w = .ok (.int .i64 n) w := by
  obtain ⟨D, ho, _, _, hs⟩ := h
  rw [ho.len Try.underlying53 ty, hs]
end
end Go.Proofs.Ytahiiieifdhgeaa
