/-
  The numbers of spans, one by one: mathematics; what a round keeps.
-/
import Derived.Test.YtlbeincgknmijaaBas
import Derived.RangeFuncBox
namespace Go.Proofs.Ytlbeincgknmijaa
open Go.RowKit

def seqI (a : Int) (k : Nat) : List Int := (List.range k).map fun (i : Nat) => a + i
def cntS (s : Sn) : Nat := (s.t + 1 - s.f).toNat
def numS : List Sn → List Int
  | [] => []
  | s :: r => seqI s.f (cntS s) ++ numS r
theorem seqI_succ (a : Int) (k : Nat) : seqI a (k + 1) = seqI a k ++ [a + k] := by simp [seqI, List.range_succ]
theorem seqI_length (a : Int) (k : Nat) : (seqI a k).length = k := by simp [seqI]
theorem mem_seqI {a x : Int} {k : Nat} : x ∈ seqI a k ↔ a ≤ x ∧ x < a + k := by
  simp only [seqI, List.mem_map, List.mem_range]
  constructor
  · rintro ⟨i, hi, rfl⟩; omega
  · rintro ⟨h1, h2⟩; exact ⟨(x - a).toNat, by omega, by omega⟩
theorem seqI_prefix (a : Int) {k m : Nat} (h : k ≤ m) : seqI a k <+: seqI a m := by
  obtain ⟨d, rfl⟩ := Nat.le.dest h
  induction d with
  | zero => exact List.prefix_refl _
  | succ d ih => rw [show k + (d + 1) = k + d + 1 from rfl, seqI_succ]; exact (ih (by omega)).trans (List.prefix_append _ _)
theorem seqI_sorted (a : Int) (k : Nat) : (seqI a k).Pairwise (· < ·) := by
  induction k with
  | zero => exact List.Pairwise.nil
  | succ k ih =>
    rw [seqI_succ, List.pairwise_append]
    refine ⟨ih, List.pairwise_singleton _ _, fun x hx y hy => ?_⟩
    rw [List.mem_singleton] at hy
    subst hy
    exact (mem_seqI.1 hx).2
theorem numS_append (l r : List Sn) : numS (l ++ r) = numS l ++ numS r := by
  induction l with
  | nil => rfl
  | cons s l ih => simp [numS, ih]
theorem numS_take {l : List Sn} {j : Nat} (h : j < l.length) : numS (l.take (j + 1)) = numS (l.take j) ++ seqI (el l j).f (cntS (el l j)) := by
  rw [List.take_add_one, List.getElem?_eq_getElem h, numS_append, el_get h]
  simp [numS]
theorem numS_prefix (l : List Sn) (j : Nat) : numS (l.take j) <+: numS l := by
  conv => rhs; rw [← List.take_append_drop j l]
  rw [numS_append]
  exact List.prefix_append _ _
theorem mem_numS {l : List Sn} {x : Int} : x ∈ numS l ↔ hasS l x = true := by
  induction l with
  | nil => simp [numS, hasS]
  | cons s l ih =>
    rw [hasS_cons, numS, List.mem_append, mem_seqI, ih]
    unfold cntS
    simp only [Bool.or_eq_true, Bool.and_eq_true, decide_eq_true_eq]
    constructor
    · rintro (h | h)
      · exact Or.inl (by omega)
      · exact Or.inr h
    · rintro (h | h)
      · exact Or.inl (by omega)
      · exact Or.inr h
theorem numS_sorted {l : List Sn} : ∀ {lo : Int}, Up lo l → (numS l).Pairwise (· < ·) := by
  induction l with
  | nil => intro lo _; exact List.Pairwise.nil
  | cons s l ih =>
    rintro lo ⟨h1, h2, h3, h4⟩
    rw [numS, List.pairwise_append]
    refine ⟨seqI_sorted _ _, ih h4, fun x hx y hy => ?_⟩
    have a := (mem_seqI.1 hx).2
    have b := (h4.has (mem_numS.1 hy)).1
    unfold cntS at a
    omega
/-- Two rising lists with the same members are the same. -/
theorem sorted_uniq : ∀ (a b : List Int), a.Pairwise (· < ·) → b.Pairwise (· < ·) → (∀ x, x ∈ a ↔ x ∈ b) → a = b := by
  intro a
  induction a with
  | nil =>
    intro b _ _ h
    cases b with
    | nil => rfl
    | cons y b => exact absurd ((h y).2 List.mem_cons_self) (by simp)
  | cons x a ih =>
    intro b ha hb h
    cases b with
    | nil => exact absurd ((h x).1 List.mem_cons_self) (by simp)
    | cons y b =>
      have ha' := List.pairwise_cons.1 ha
      have hb' := List.pairwise_cons.1 hb
      have e : x = y := by
        rcases List.mem_cons.1 ((h x).1 List.mem_cons_self) with e | e
        · exact e
        · rcases List.mem_cons.1 ((h y).2 List.mem_cons_self) with e' | e'
          · exact e'.symm
          · have := ha'.1 y e'
            have := hb'.1 x e
            omega
      subst e
      rw [ih b ha'.2 hb'.2 fun z => ?_]
      constructor
      · intro hz
        rcases List.mem_cons.1 ((h z).1 (List.mem_cons_of_mem _ hz)) with e | e
        · subst e; exact absurd (ha'.1 z hz) (by omega)
        · exact e
      · intro hz
        rcases List.mem_cons.1 ((h z).2 (List.mem_cons_of_mem _ hz)) with e | e
        · subst e; exact absurd (hb'.1 z hz) (by omega)
        · exact e

/-! ## What a round keeps: every block of spans -/

structure Ks (W W' : World) : Prop where
  size : W.heap.size ≤ W'.heap.size
  same : ∀ (b : Nat) (cs : Array Value) (g : Nat × Nat), W.heap[b]? = some (.cells cs 51 g) → W'.heap[b]? = some (.cells cs 51 g)
theorem Ks.refl (W : World) : Ks W W := ⟨Nat.le_refl _, fun _ _ _ h => h⟩
theorem Ks.trans {A B C : World} (h : Ks A B) (k : Ks B C) : Ks A C := ⟨Nat.le_trans h.size k.size, fun b cs g e => k.same b cs g (h.same b cs g e)⟩
theorem Ks.below {W W' : World} (h : Below W.heap.size W W') : Ks W W' := ⟨h.size, fun b _ _ e => (h.block b (Array.getElem?_eq_some_iff.1 e).1).trans e⟩
theorem Ks.alloc (W : World) (o : Obj) : Ks W (W.alloc o) := Ks.below (below_alloc W o)
/-- One block turns: one that holds no spans. -/
theorem Ks.grown {W W' : World} {r : Nat} (h : W.grownBy W' (some r)) (hr : ∀ cs g, W.heap[r]? ≠ some (.cells cs 51 g)) : Ks W W' :=
  ⟨h.size, fun b cs g e => (h.block b (Array.getElem?_eq_some_iff.1 e).1 (by rintro e'; cases e'; exact hr cs g e)).trans e⟩
theorem Ks.grown0 {W W' : World} (h : W.grownBy W' none) : Ks W W' := ⟨h.size, fun b _ _ e => (h.block b (Array.getElem?_eq_some_iff.1 e).1 (by simp)).trans e⟩
theorem Ks.set {W : World} {r i : Nat} (hr : ∀ cs g, W.heap[r]? ≠ some (.cells cs 51 g)) (v : Value) : Ks W (W.setCell ⟨r, i, none⟩ v) :=
  ⟨(KeepsWalks.setCell W _ v).size, fun b cs g e => (Below.heap_setCell _ _ _ _ (by rintro rfl; exact hr cs g e)).trans e⟩
theorem Ks.put {W : World} {l : Nat} {o : Obj} (o' : Obj) (hl : W.heap[l]? = some o) (ho : o.isCells = false) : Ks W (W.putObj l o') :=
  Ks.grown (grownBy_putObj' W l o') fun _ _ e => by rw [hl] at e; cases e; cases ho
theorem Ow.ks {B : Nat} {v : Value} {l : List Sn} {W W' : World} (h : Ow B v l W) (k : Ks W W') : Ow B v l W' := by
  refine ⟨h.1, ?_⟩
  rcases h.2 with hn | ⟨g, cap, cur, rfl, hb, hg, rest⟩
  · exact Or.inl hn
  · exact Or.inr ⟨g, cap, cur, rfl, hb, k.same _ _ _ hg, rest⟩
end Go.Proofs.Ytlbeincgknmijaa
