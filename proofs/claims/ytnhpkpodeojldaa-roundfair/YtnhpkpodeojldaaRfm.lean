/-
  Mathematics of turns: each is told once before any is told again; a map of numbers.
-/
import Derived.Test.YtnhpkpodeojldaaRsd
import Derived.Maps.OwnOps
import Derived.Maps.OwnSet
namespace Go.Proofs.Ytnhpkpodeojldaa
open Go.RowKit Go.Maps

/-! ## A map of numbers -/

theorem law3 : Keyed Try.prog 3 := int_keyed Try.underlying3
theorem zero3 (w : World) : (zeroValue 3).run Try.prog w = .ok (.int .i64 0) w := by kernel_rfl
theorem lit_ne {a b : Int} (h : a ≠ b) : (Lit.int .i64 a) ≠ .int .i64 b := fun e => h (by cases e; rfl)
theorem wf_node {x : Int} (h0 : 0 ≤ x) (h1 : x < 64) : (Lit.int .i64 x).wf = true := WalkArith.wf_i64 (by omega)
theorem ownsMap_tight {P : Program} {k : TypeId} {R : Value → Option (DataW Unit × List MemPlace)} {w : World} {b n m : Nat} {D : DataW Unit} (h : w.ownsMap P k R b n D) (hm : Maps.size D ≤ m) : w.ownsMap P k R b m D := by
  obtain ⟨es, clock, hb, F, hs, hD⟩ := h
  refine ⟨es, clock, hb, F, ?_, hD⟩
  rw [hD] at hm
  simpa [Maps.size, length_sorted] using hm

def setF (f : Int → Option Int) (x y : Int) : Int → Option Int := fun z => if z = x then some y else f z
/-- Block b is a map that has f x at x; n entries. -/
def Mo (b : Nat) (f : Int → Option Int) (n : Nat) (w : World) : Prop :=
  ∃ D : DataW Unit, w.ownsMap Try.prog 3 (plainElem Try.prog 3) b 1000 D ∧ (∀ x, Maps.has D (.int .i64 x) = (f x).isSome) ∧ (∀ x y, f x = some y → ∀ z, D.atKey (.int .i64 x) z = .lit (.int .i64 y)) ∧ Maps.size D = n
section
variable {f : Int → Option Int} {b n : Nat} {w w' : World}
theorem Mo.keep (h : Mo b f n w) (e : w'.heap[b]? = w.heap[b]?) : Mo b f n w' := by
  obtain ⟨D, ⟨es, clock, hb, r⟩, hp⟩ := h
  exact ⟨D, ⟨es, clock, e.trans hb, r⟩, hp⟩
theorem Mo.lt (h : Mo b f n w) : b < w.heap.size := by
  obtain ⟨D, h, _⟩ := h
  exact h.lt
theorem Mo.made (w : World) : Mo w.heap.size (fun _ => none) 0 (w.alloc (.map #[] 0)) :=
  ⟨_, (World.ownsMap_made w _ _ _).mono (Nat.zero_le _), (fun x => by rw [has_eq]; simp), (fun x y e => by cases e), rfl⟩
theorem Mo.look (h : Mo b f n w) {x : Int} (h0 : 0 ≤ x) (h1 : x < 64) :
    (Instr.lookup 52 (.map (some b)) (.int .i64 x) true).run Try.prog w = .ok (.tuple #[.int .i64 ((f x).getD 0), .bool (f x).isSome]) w := by
  obtain ⟨D, ho, hh, hp, _⟩ := h
  obtain ⟨v, ps, hr, hv⟩ := ho.look_ok law3 Try.underlying52 (zero3 _) (plainElem_int Try.underlying3 (WalkArith.wf_i64 (by omega : -9223372036854775808 ≤ (0 : Int) ∧ (0 : Int) ≤ 9223372036854775807))) (keyOf_int_mk Try.underlying3 (wf_node h0 h1))
  rw [hr, hh x]
  obtain ⟨y, rfl, e, _⟩ := plainElem_int_inv Try.underlying3 hv
  have e' : D.atKey (.int .i64 x) (.lit (.int .i64 0)) = .lit (.int .i64 y) := by simpa using congrArg Prod.fst e
  cases hf : f x with
  | none =>
    rw [atKey_of_not_has (by rw [hh x, hf]; rfl)] at e'
    simp at e'
    simp [e']
  | some z =>
    rw [hp x z hf] at e'
    simp at e'
    simp [e']
theorem Mo.put (h : Mo b f n w) {x y : Int} (h0 : 0 ≤ x) (h1 : x < 64) (hy : 0 ≤ y ∧ y ≤ 1000000) (hn : n < 1000) :
    ∃ w', (Instr.mapUpdate 52 (.map (some b)) (.int .i64 x) (.int .i64 y)).run Try.prog w = .ok () w' ∧ Mo b (setF f x y) (if (f x).isSome then n else n + 1) w' ∧ w.grownBy w' (some b) := by
  obtain ⟨D, ho, hh, hp, hs⟩ := h
  obtain ⟨w', hr, k1, k2⟩ := ho.update law3 Try.underlying52 (by unfold maxLen; omega) (keyOf_int_mk Try.underlying3 (wf_node h0 h1)) (plainElem_int Try.underlying3 (WalkArith.wf_i64 (by omega : -9223372036854775808 ≤ y ∧ y ≤ 9223372036854775807)))
  have hsz : Maps.size (D.put (.int .i64 x) (.lit (.int .i64 y))) = if (f x).isSome then n else n + 1 := by
    rw [size_put (ho.tidy law3), hh x, hs]
  refine ⟨w', hr, ⟨_, ownsMap_tight k1 (by rw [hsz]; split <;> omega), fun z => ?_, fun z u hz => ?_, hsz⟩, k2⟩
  · unfold setF
    by_cases e : z = x
    · subst e
      rw [has_put_same ho.isMap (show WideAt.IsKeyLit (.int .i64 z) from trivial), if_pos rfl]; rfl
    · rw [has_put_other (lit_ne e), hh z, if_neg e]
  · unfold setF at hz
    by_cases e : z = x
    · subst e
      rw [if_pos rfl] at hz
      cases hz
      exact atKey_put_same ho.isMap (show WideAt.IsKeyLit (.int .i64 z) from trivial) _
    · rw [if_neg e] at hz
      intro d
      rw [atKey_put_other (lit_ne e)]
      exact hp z u hz d
theorem Mo.len (h : Mo b f n w) (ty : TypeId) : (Builtin.len_ #[52] ty #[.map (some b)]).run Try.prog w = .ok (.int .i64 n) w := by
  obtain ⟨D, ho, _, _, hs⟩ := h
  rw [ho.len Try.underlying52 ty, hs]
end

/-! ## Turns -/

/-- So many whole turns m, then T was told, s is left; f: when each was told last; n: how many were told at all. -/
structure Inv (o T s : List Int) (m i : Nat) (f : Int → Option Int) (n : Nat) : Prop where
  perm : T ≠ [] → (T ++ s).Perm o
  none : T = [] → s = []
  at_ : i = m * o.length + T.length
  lt : T.length < o.length
  now : ∀ x ∈ T, ∃ j : Nat, f x = some (j : Int) ∧ m * o.length ≤ j ∧ j < i
  old : ∀ x ∈ o, x ∉ T → (m = 0 ∧ f x = Option.none) ∨ ∃ j m' : Nat, m = m' + 1 ∧ f x = some (j : Int) ∧ m' * o.length ≤ j ∧ j < m * o.length
  size : n = if m = 0 then T.length else o.length
theorem Inv.start {o : List Int} (ho : 0 < o.length) : Inv o [] [] 0 0 (fun _ => Option.none) 0 :=
  ⟨fun h => absurd rfl h, fun _ => rfl, by simp, ho, (fun x h => by cases h), fun x _ _ => Or.inl ⟨rfl, rfl⟩, rfl⟩
/-- Who is told next was not yet told in this turn. -/
theorem Inv.next {o T s : List Int} {m i n : Nat} {f : Int → Option Int} (h : Inv o T s m i f n) (hn : o.Nodup) (l : List Int) :
    ∃ a s' l', nxtS s o l = ((a, true), s', l') ∧ a ∈ o ∧ a ∉ T ∧ (T ++ [a] ++ s').Perm o := by
  have ho : o ≠ [] := fun e => by have := h.lt; rw [e] at this; simp at this
  by_cases hT : T = []
  · obtain rfl := h.none hT
    subst hT
    have hd : ([] : List Int).drop (List.findIdx (fun x => decide (x ∈ o)) []) = [] := rfl
    have e := nxtS_new (l := l) ho hd
    have hp := shufS_perm o l
    have hl := shufS_length o l
    cases hs : (shufS o l).1 with
    | nil => rw [hs] at hl; exact absurd (List.length_eq_zero_iff.1 hl.symm) ho
    | cons a s' =>
      rw [hs] at e hp
      exact ⟨a, s', _, e, hp.mem_iff.1 (by simp), by simp, by simpa using hp⟩
  · have hp := h.perm hT
    cases s with
    | nil =>
      have := hp.length_eq
      have := h.lt
      simp at *
      omega
    | cons a s' =>
      have ha : a ∈ o := hp.mem_iff.1 (by simp)
      refine ⟨a, s', l, ?_, ha, ?_, by simpa using hp⟩
      · unfold nxtS
        rw [if_neg ho, List.dropWhile_cons_of_neg (by simp [ha]), if_neg (by simp)]
        rfl
      · have hnd := (hp.nodup_iff).2 hn
        rw [List.nodup_append] at hnd
        intro hm
        exact hnd.2.2 a hm a (by simp) rfl
/-- When it was told before. -/
theorem Inv.before {o T s : List Int} {m i n : Nat} {f : Int → Option Int} (h : Inv o T s m i f n) {a : Int} (ha : a ∈ o) (hT : a ∉ T) {y : Int} (hy : f a = some y) : ∃ j : Nat, y = j ∧ j / o.length ≠ i / o.length ∧ j < i ∧ i - j - 1 ≤ 2 * o.length - 2 := by
  rcases h.old a ha hT with ⟨_, e⟩ | ⟨j, m', rfl, e, h1, h2⟩
  · rw [e] at hy; cases hy
  · rw [e] at hy
    cases hy
    have hN := h.lt
    have hat := h.at_
    generalize o.length = N at *
    generalize T.length = t at *
    have e1 : (m' + 1) * N = m' * N + N := Nat.succ_mul _ _
    have hj : j / N = m' := by
      rw [Nat.div_eq_iff (by omega)]
      rw [Nat.mul_comm m' N] at *
      omega
    have hi : i / N = m' + 1 := by
      rw [Nat.div_eq_iff (by omega)]
      omega
    exact ⟨j, rfl, by omega, by omega, by omega⟩
/-- One more is told. -/
theorem Inv.step {o T s : List Int} {m i n : Nat} {f : Int → Option Int} (h : Inv o T s m i f n) {a : Int} {s' : List Int} (ha : a ∈ o) (hT : a ∉ T) (hp : (T ++ [a] ++ s').Perm o) :
    ∃ T' m', Inv o T' s' m' (i + 1) (setF f a i) (if (f a).isSome then n else n + 1) := by
  have hN := h.lt
  have hat := h.at_
  have hsz : (if (f a).isSome then n else n + 1) = if m = 0 then T.length + 1 else o.length := by
    have := h.size
    rcases h.old a ha hT with ⟨rfl, e⟩ | ⟨j, m', rfl, e, _, _⟩
    · rw [e]; simpa using this
    · rw [e]; simpa using this
  have hnow : ∀ x ∈ T ++ [a], ∃ j : Nat, setF f a i x = some (j : Int) ∧ m * o.length ≤ j ∧ j < i + 1 := fun x hx => by
    unfold setF
    by_cases e : x = a
    · rw [if_pos e]
      exact ⟨i, rfl, by omega, by omega⟩
    · rw [if_neg e]
      rcases List.mem_append.1 hx with hx | hx
      · obtain ⟨j, h1, h2, h3⟩ := h.now x hx
        exact ⟨j, h1, h2, by omega⟩
      · exact absurd (by simpa using hx) e
  by_cases hc : T.length + 1 < o.length
  · refine ⟨T ++ [a], m, fun _ => hp, fun e => by simp at e, by simp; omega, by simpa using hc, hnow, fun x hx hx' => ?_, ?_⟩
    · have e : x ≠ a := fun e => hx' (by simp [e])
      have e2 : x ∉ T := fun e => hx' (by simp [e])
      unfold setF
      rw [if_neg e]
      exact h.old x hx e2
    · rw [hsz]; simp
  · have hl := hp.length_eq
    have hs' : s' = [] := List.length_eq_zero_iff.1 (by simp at hl; omega)
    subst hs'
    refine ⟨[], m + 1, fun e => absurd rfl e, fun _ => rfl, by simp [Nat.succ_mul]; omega, by simp; omega, (fun x hx => by cases hx), fun x hx _ => ?_, ?_⟩
    · obtain ⟨j, h1, h2, h3⟩ := hnow x (by have := hp.mem_iff.2 hx; simpa using this)
      exact Or.inr ⟨j, m, rfl, h1, h2, by rw [Nat.succ_mul]; omega⟩
    · rw [hsz, if_neg (show ¬ (m + 1 = 0) by omega)]
      split <;> omega
/-- At a turn's end. -/
theorem Inv.end_ {o T s : List Int} {m i n k : Nat} {f : Int → Option Int} (h : Inv o T s m i f n) (hi : i = k * o.length) : (∀ x ∈ o, (f x).isSome = decide (0 < i)) ∧ (n = o.length ∨ i = 0) := by
  have hN := h.lt
  have hat := h.at_
  have hmk : m = k ∧ T = [] := by
    have h1 : i / o.length = m := by
      rw [Nat.div_eq_iff (by omega)]
      omega
    have h2 : i / o.length = k := by rw [hi]; exact Nat.mul_div_cancel _ (by omega)
    have h3 : m = k := by omega
    refine ⟨h3, List.length_eq_zero_iff.1 ?_⟩
    rw [h3] at hat
    omega
  obtain ⟨rfl, rfl⟩ := hmk
  have hz := h.size
  refine ⟨fun x hx => ?_, ?_⟩
  · rcases h.old x hx (by simp) with ⟨e, e'⟩ | ⟨j, m', rfl, e, _, _⟩
    · subst e
      rw [e']
      simp at hat
      simp [hat]
    · rw [e]
      have : 0 < (m' + 1) * o.length := Nat.mul_pos (by omega) (by omega)
      have : 0 < i := by omega
      simp [this]
  · by_cases e : m = 0
    · subst e
      right; simpa using hi
    · left; rw [hz, if_neg e]
end Go.Proofs.Ytnhpkpodeojldaa
