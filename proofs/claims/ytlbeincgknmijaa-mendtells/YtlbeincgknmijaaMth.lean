/-
  Plain mathematics of spans: runs of numbers; which may be, what has a number, how many there are; one list for one set. No program is known here.
-/
import Derived.WalkKit
namespace Go.Proofs.Ytlbeincgknmijaa

/-- A span. -/
structure Sn where
  f : Int
  t : Int

structure SnOk (s : Sn) : Prop where
  f0 : 0 ≤ s.f
  f1 : s.f ≤ 18446744073709551615
  t0 : 0 ≤ s.t
  t1 : s.t ≤ 18446744073709551615

def el (l : List Sn) (i : Nat) : Sn := l.getD i ⟨0, 0⟩
theorem el_get {l : List Sn} {i : Nat} (h : i < l.length) : el l i = l[i] := by simp [el, List.getD, h]
theorem el_mem {l : List Sn} {i : Nat} (h : i < l.length) : el l i ∈ l := by rw [el_get h]; exact List.getElem_mem h
theorem el_zero (s : Sn) (r : List Sn) : el (s :: r) 0 = s := rfl
theorem el_succ (s : Sn) (r : List Sn) (i : Nat) : el (s :: r) (i + 1) = el r i := by simp [el, List.getD]

/-- From lo on, spans that rise, neither touch nor meet. -/
def Up : Int → List Sn → Prop
  | _, [] => True
  | lo, s :: r => lo ≤ s.f ∧ s.f ≤ s.t ∧ s.t < 18446744073709551615 ∧ Up (s.t + 2) r

def upS : Int → List Sn → Bool
  | _, [] => true
  | lo, s :: r => decide (lo ≤ s.f) && (decide (s.f ≤ s.t) && (decide (s.t < 18446744073709551615) && upS (s.t + 2) r))
theorem upS_iff (l : List Sn) : ∀ lo, upS lo l = true ↔ Up lo l := by
  induction l with
  | nil => intro lo; simp [upS, Up]
  | cons s r ih => intro lo; simp [upS, Up, ih]
def mayS (l : List Sn) : Bool := upS 0 l
theorem mayS_iff (l : List Sn) : mayS l = true ↔ Up 0 l := upS_iff l 0

def hasS (l : List Sn) (n : Int) : Bool := l.any fun s => decide (s.f ≤ n) && decide (n ≤ s.t)
theorem hasS_nil (n : Int) : hasS [] n = false := rfl
theorem hasS_cons (s : Sn) (r : List Sn) (n : Int) : hasS (s :: r) n = ((decide (s.f ≤ n) && decide (n ≤ s.t)) || hasS r n) := rfl
theorem hasS_append (a b : List Sn) (n : Int) : hasS (a ++ b) n = (hasS a n || hasS b n) := by simp [hasS, List.any_append]
theorem hasS_iff {l : List Sn} {n : Int} : hasS l n = true ↔ ∃ s ∈ l, s.f ≤ n ∧ n ≤ s.t := by simp [hasS]

theorem Up.mono {lo lo' : Int} {l : List Sn} (h : Up lo l) (hl : lo' ≤ lo) : Up lo' l := by
  cases l with
  | nil => trivial
  | cons s r => exact ⟨by have := h.1; omega, h.2⟩
theorem Up.mem {l : List Sn} : ∀ {lo : Int}, Up lo l → ∀ s ∈ l, lo ≤ s.f ∧ s.f ≤ s.t ∧ s.t < 18446744073709551615 := by
  induction l with
  | nil => intro lo h s hs; cases hs
  | cons x r ih =>
    intro lo h s hs
    rcases List.mem_cons.1 hs with rfl | hs
    · exact ⟨h.1, h.2.1, h.2.2.1⟩
    · have := ih h.2.2.2 s hs
      have h1 := h.1
      have h2 := h.2.1
      omega
theorem Up.ok {l : List Sn} (h : Up 0 l) : ∀ s ∈ l, SnOk s := fun s hs => by
  have := h.mem s hs
  exact ⟨by omega, by omega, by omega, by omega⟩
theorem Up.has {lo : Int} {l : List Sn} {n : Int} (h : Up lo l) (hn : hasS l n = true) : lo ≤ n ∧ n < 18446744073709551615 := by
  obtain ⟨s, hs, h1, h2⟩ := hasS_iff.1 hn
  have := h.mem s hs
  omega
theorem Up.not {lo : Int} {l : List Sn} {n : Int} (h : Up lo l) (hn : n < lo) : hasS l n = false := by
  cases e : hasS l n with
  | false => rfl
  | true => have := h.has e; omega

/-- Of one set of numbers there is one list. -/
theorem uniq (a : List Sn) : ∀ (b : List Sn) (lo : Int), Up lo a → Up lo b → (∀ n, hasS a n = hasS b n) → a = b := by
  induction a with
  | nil =>
    intro b lo _ hb h
    cases b with
    | nil => rfl
    | cons s r =>
      have := h s.f
      rw [hasS_nil, hasS_cons] at this
      have h2 := hb.2.1
      simp [h2] at this
  | cons x a ih =>
    intro b lo ha hb h
    cases b with
    | nil =>
      have := h x.f
      rw [hasS_nil, hasS_cons] at this
      have h2 := ha.2.1
      simp [h2] at this
    | cons y b =>
      obtain ⟨a1, a2, a3, a4⟩ := ha
      obtain ⟨b1, b2, b3, b4⟩ := hb
      have key : ∀ n, (x.f ≤ n ∧ n ≤ x.t) ∨ hasS a n = true ↔ (y.f ≤ n ∧ n ≤ y.t) ∨ hasS b n = true := by
        intro n
        have := h n
        rw [hasS_cons, hasS_cons] at this
        constructor
        · intro hl
          have e : ((decide (x.f ≤ n) && decide (n ≤ x.t)) || hasS a n) = true := by simpa using hl
          rw [this] at e
          simpa using e
        · intro hl
          have e : ((decide (y.f ≤ n) && decide (n ≤ y.t)) || hasS b n) = true := by simpa using hl
          rw [← this] at e
          simpa using e
      have hf : x.f = y.f := by
        have e1 : y.f ≤ x.f := by
          rcases (key x.f).1 (Or.inl ⟨Int.le_refl _, a2⟩) with e | e
          · exact e.1
          · have := b4.has e; omega
        have e2 : x.f ≤ y.f := by
          rcases (key y.f).2 (Or.inl ⟨Int.le_refl _, b2⟩) with e | e
          · exact e.1
          · have := a4.has e; omega
        omega
      have ht : x.t = y.t := by
        have e1 : ¬ x.t < y.t := by
          intro hlt
          rcases (key (x.t + 1)).2 (Or.inl ⟨by omega, by omega⟩) with e | e
          · omega
          · have := a4.has e; omega
        have e2 : ¬ y.t < x.t := by
          intro hlt
          rcases (key (y.t + 1)).1 (Or.inl ⟨by omega, by omega⟩) with e | e
          · omega
          · have := b4.has e; omega
        omega
      have hxy : x = y := by
        cases x; cases y
        simp at hf ht
        simp [hf, ht]
      subst hxy
      congr 1
      refine ih b (x.t + 2) a4 b4 fun n => ?_
      cases ea : hasS a n with
      | true =>
        have := a4.has ea
        rcases (key n).1 (Or.inr ea) with e | e
        · omega
        · exact e.symm
      | false =>
        cases eb : hasS b n with
        | false => rfl
        | true =>
          have := b4.has eb
          rcases (key n).2 (Or.inr eb) with e | e
          · omega
          · rw [ea] at e; exact e

/-! ## What the loops ask, one by one -/

def Ok1 (l : List Sn) (i : Nat) : Prop := (el l i).f ≤ (el l i).t ∧ (el l i).t ≠ 18446744073709551615 ∧ (0 < i → (el l (i - 1)).t + 1 < (el l i).f)
theorem up_ok1 (l : List Sn) : ∀ lo, (∀ s ∈ l, s.t ≤ 18446744073709551615) → (Up lo l ↔ (∀ i, i < l.length → Ok1 l i) ∧ (0 < l.length → lo ≤ (el l 0).f)) := by
  induction l with
  | nil => intro lo _; simp [Up]
  | cons s r ih =>
    intro lo hs
    have hst := hs s (List.mem_cons_self ..)
    have ih := ih (s.t + 2) fun x hx => hs x (List.mem_cons_of_mem _ hx)
    unfold Up
    rw [ih]
    constructor
    · rintro ⟨h1, h2, h3, h4, h5⟩
      refine ⟨fun i hi => ?_, fun _ => h1⟩
      cases i with
      | zero => exact ⟨h2, by rw [el_zero]; omega, fun h => absurd h (Nat.lt_irrefl 0)⟩
      | succ i =>
        have hi : i < r.length := by simpa using hi
        obtain ⟨k1, k2, k3⟩ := h4 i hi
        refine ⟨by rw [el_succ]; exact k1, by rw [el_succ]; exact k2, fun _ => ?_⟩
        rw [el_succ, Nat.add_sub_cancel]
        cases i with
        | zero => rw [el_zero]; have := h5 hi; omega
        | succ i => rw [el_succ]; exact k3 (Nat.succ_pos _)
    · rintro ⟨h1, h2⟩
      obtain ⟨k1, k2, _⟩ := h1 0 (by simp)
      refine ⟨h2 (by simp), k1, by rw [el_zero] at k2; omega, fun i hi => ?_, fun h => ?_⟩
      · obtain ⟨k1, k2, k3⟩ := h1 (i + 1) (by simpa using hi)
        rw [el_succ] at k1 k2 k3
        refine ⟨k1, k2, fun h => ?_⟩
        have := k3 (Nat.succ_pos _)
        rw [Nat.add_sub_cancel] at this
        obtain ⟨j, rfl⟩ : ∃ j, i = j + 1 := ⟨i - 1, by omega⟩
        rwa [el_succ] at this
      · obtain ⟨_, _, k3⟩ := h1 1 (by simpa using h)
        rw [el_succ] at k3
        have := k3 (by omega)
        rw [Nat.sub_self, el_zero] at this
        omega
theorem mayS_ok1 {l : List Sn} (h : ∀ s ∈ l, SnOk s) : mayS l = true ↔ ∀ i, i < l.length → Ok1 l i := by
  rw [mayS_iff, up_ok1 l 0 fun s hs => (h s hs).t1]
  exact ⟨fun h => h.1, fun k => ⟨k, fun h0 => (h _ (el_mem h0)).f0⟩⟩
theorem mayS_not {l : List Sn} (h : ∀ s ∈ l, SnOk s) {i : Nat} (hi : i < l.length) (hn : ¬ Ok1 l i) : mayS l = false := by
  cases e : mayS l with
  | false => rfl
  | true => exact absurd ((mayS_ok1 h).1 e i hi) hn

theorem Up.append {lo : Int} {l : List Sn} {s : Sn} (h : Up lo l) (h1 : lo ≤ s.f) (h2 : s.f ≤ s.t) (h3 : s.t < 18446744073709551615) (h4 : ∀ x ∈ l, x.t + 1 < s.f) : Up lo (l ++ [s]) := by
  induction l generalizing lo with
  | nil => exact ⟨h1, h2, h3, trivial⟩
  | cons x r ih =>
    refine ⟨h.1, h.2.1, h.2.2.1, ih h.2.2.2 ?_ fun y hy => h4 y (List.mem_cons_of_mem _ hy)⟩
    have := h4 x (List.mem_cons_self ..)
    omega
theorem Up.take {l : List Sn} : ∀ {lo : Int} (k : Nat), Up lo l → Up lo (l.take k) := by
  induction l with
  | nil => intro lo k _; simp [Up]
  | cons s r ih =>
    intro lo k h
    cases k with
    | zero => trivial
    | succ k => exact ⟨h.1, h.2.1, h.2.2.1, ih k h.2.2.2⟩
/-- Where a span ends no other one begins. -/
theorem Up.next {l : List Sn} : ∀ {lo : Int}, Up lo l → ∀ s ∈ l, hasS l (s.t + 1) = false := by
  induction l with
  | nil => intro lo _ s hs; cases hs
  | cons x r ih =>
    intro lo h s hs
    rw [hasS_cons]
    rcases List.mem_cons.1 hs with rfl | hs
    · have := h.2.2.2.not (n := s.t + 1) (by omega)
      simp [this]
      omega
    · have := ih h.2.2.2 s hs
      have h2 := h.2.2.2.mem s hs
      simp [this]
      omega

/-! ## How many -/

def manyS : List Sn → Int
  | [] => 0
  | s :: r => s.t - s.f + 1 + manyS r
theorem manyS_append (a b : List Sn) : manyS (a ++ b) = manyS a + manyS b := by
  induction a with
  | nil => simp [manyS]
  | cons s r ih => simp [manyS, ih]; omega
theorem Up.many0 {l : List Sn} : ∀ {lo : Int}, Up lo l → 0 ≤ manyS l := by
  induction l with
  | nil => intro lo _; simp [manyS]
  | cons s r ih =>
    intro lo h
    have := ih h.2.2.2
    have := h.2.1
    simp only [manyS]
    omega
theorem Up.many1 {l : List Sn} : ∀ {lo : Int}, Up lo l → manyS l = 0 ∨ manyS l ≤ 18446744073709551615 - lo := by
  induction l with
  | nil => intro lo _; exact Or.inl rfl
  | cons s r ih =>
    intro lo h
    have h0 := ih h.2.2.2
    have h1 := h.1
    have h2 := h.2.1
    have h3 := h.2.2.1
    simp only [manyS]
    omega
theorem manyS_take_succ {l : List Sn} {k : Nat} (h : k < l.length) : manyS (l.take (k + 1)) = manyS (l.take k) + ((el l k).t - (el l k).f + 1) := by
  rw [List.take_add_one, List.getElem?_eq_getElem h, Option.toList_some, manyS_append, el_get h]
  simp [manyS]

/-- How many of the first N numbers p says. -/
def cnt (p : Int → Bool) : Nat → Int
  | 0 => 0
  | N + 1 => cnt p N + if p N then 1 else 0
theorem cnt_congr {p q : Int → Bool} (N : Nat) (h : ∀ n : Nat, n < N → p n = q n) : cnt p N = cnt q N := by
  induction N with
  | zero => rfl
  | succ N ih => simp only [cnt]; rw [ih fun n hn => h n (by omega), h N (by omega)]
theorem cnt_or {p q : Int → Bool} (N : Nat) (h : ∀ n : Nat, n < N → p n = true → q n = false) : cnt (fun n => p n || q n) N = cnt p N + cnt q N := by
  induction N with
  | zero => rfl
  | succ N ih =>
    simp only [cnt]
    rw [ih fun n hn => h n (by omega)]
    have := h N (by omega)
    by_cases hp : p N = true
    · have hq := this hp
      simp [hp, hq]
      omega
    · simp only [Bool.not_eq_true] at hp
      simp [hp]
      omega
theorem cnt_none {p : Int → Bool} (N : Nat) (h : ∀ n : Nat, n < N → p n = false) : cnt p N = 0 := by
  induction N with
  | zero => rfl
  | succ N ih =>
    simp only [cnt]
    rw [ih fun n hn => h n (by omega), h N (by omega)]
    simp
theorem cnt_run (f t : Int) (hf : 0 ≤ f) (h : f ≤ t) (N : Nat) : cnt (fun n => decide (f ≤ n) && decide (n ≤ t)) N = if (N : Int) ≤ f then 0 else if (N : Int) ≤ t + 1 then N - f else t - f + 1 := by
  induction N with
  | zero => simp [cnt]; omega
  | succ N ih =>
    simp only [cnt]
    rw [ih]
    by_cases h1 : f ≤ (N : Int) <;> by_cases h2 : (N : Int) ≤ t <;> simp [h1, h2] <;> (repeat' split) <;> omega
theorem manyS_cnt {l : List Sn} : ∀ {lo : Int} (N : Nat), 0 ≤ lo → Up lo l → (∀ s ∈ l, s.t < N) → manyS l = cnt (hasS l) N := by
  induction l with
  | nil => intro lo N _ _ _; rw [cnt_none]; rfl; intro n _; rfl
  | cons s r ih =>
    intro lo N h0 h hN
    obtain ⟨h1, h2, h3, h4⟩ := h
    have hsN := hN s (List.mem_cons_self ..)
    have e : cnt (hasS (s :: r)) N = cnt (fun n => (decide (s.f ≤ n) && decide (n ≤ s.t)) || hasS r n) N := cnt_congr N fun n _ => rfl
    rw [e, cnt_or, cnt_run _ _ (by omega) h2, ← ih N (by omega) h4 fun x hx => hN x (List.mem_cons_of_mem _ hx)]
    · simp only [manyS]
      rw [if_neg (by omega)]
      split <;> omega
    · intro n _ hp
      have hp' : s.f ≤ (n : Int) ∧ (n : Int) ≤ s.t := by simpa using hp
      exact h4.not (by omega)

/-! ## Up to what is reached -/

def reachS : List Sn → Int → Int
  | [], n => n
  | s :: r, n => if n < s.t ∧ s.f ≤ n + 1 then s.t else reachS r n
theorem reachS_cases (l : List Sn) (n : Int) : (reachS l n = n ∧ ∀ s ∈ l, ¬ (n < s.t ∧ s.f ≤ n + 1)) ∨ ∃ s ∈ l, n < s.t ∧ s.f ≤ n + 1 ∧ reachS l n = s.t := by
  induction l with
  | nil => exact Or.inl ⟨rfl, fun s hs => by cases hs⟩
  | cons s r ih =>
    by_cases h : n < s.t ∧ s.f ≤ n + 1
    · exact Or.inr ⟨s, List.mem_cons_self .., h.1, h.2, by simp [reachS, h]⟩
    · have e : reachS (s :: r) n = reachS r n := by simp only [reachS]; rw [if_neg h]
      rw [e]
      rcases ih with ⟨h1, h2⟩ | ⟨x, hx, h1, h2, h3⟩
      · exact Or.inl ⟨h1, fun x hx => by
          rcases List.mem_cons.1 hx with rfl | hx
          · exact h
          · exact h2 x hx⟩
      · exact Or.inr ⟨x, List.mem_cons_of_mem _ hx, h1, h2, h3⟩
theorem reachS_ge (l : List Sn) (n : Int) : n ≤ reachS l n := by
  rcases reachS_cases l n with ⟨h, _⟩ | ⟨s, _, h1, _, h3⟩ <;> omega
theorem reachS_all {l : List Sn} {n i : Int} (h1 : n < i) (h2 : i ≤ reachS l n) : hasS l i = true := by
  rcases reachS_cases l n with ⟨h, _⟩ | ⟨s, hs, k1, k2, k3⟩
  · omega
  · exact hasS_iff.2 ⟨s, hs, by omega, by omega⟩
theorem reachS_next {lo : Int} {l : List Sn} {n : Int} (h : Up lo l) : hasS l (reachS l n + 1) = false := by
  rcases reachS_cases l n with ⟨h1, h2⟩ | ⟨s, hs, k1, k2, k3⟩
  · rw [h1]
    cases e : hasS l (n + 1) with
    | false => rfl
    | true =>
      obtain ⟨s, hs, k1, k2⟩ := hasS_iff.1 e
      exact absurd ⟨by omega, k1⟩ (h2 s hs)
  · rw [k3]; exact h.next s hs

/-! ## The first ones -/

def firstS : List Sn → Int → List Sn
  | [], _ => []
  | s :: r, n => if n ≤ 0 then [] else ⟨s.f, s.f + min (n - 1) (s.t - s.f)⟩ :: firstS r (n - (min (n - 1) (s.t - s.f) + 1))
theorem firstS_zero (l : List Sn) {n : Int} (h : n ≤ 0) : firstS l n = [] := by cases l <;> simp [firstS, h]
theorem firstS_up {l : List Sn} : ∀ {lo n : Int}, Up lo l → Up lo (firstS l n) := by
  induction l with
  | nil => intro lo n _; trivial
  | cons s r ih =>
    intro lo n h
    obtain ⟨h1, h2, h3, h4⟩ := h
    by_cases hn : n ≤ 0
    · rw [firstS_zero _ hn]; trivial
    · simp only [firstS, if_neg hn]
      exact ⟨h1, by show s.f ≤ s.f + min (n - 1) (s.t - s.f); omega, by show s.f + min (n - 1) (s.t - s.f) < _; omega, (ih h4).mono (by show s.f + min (n - 1) (s.t - s.f) + 2 ≤ _; omega)⟩
theorem firstS_len (l : List Sn) : ∀ n : Int, (firstS l n).length ≤ l.length := by
  induction l with
  | nil => intro n; simp [firstS]
  | cons s r ih =>
    intro n
    by_cases hn : n ≤ 0
    · rw [firstS_zero _ hn]; simp
    · simp only [firstS, if_neg hn, List.length_cons]
      have := ih (n - (min (n - 1) (s.t - s.f) + 1))
      omega
theorem firstS_has {l : List Sn} : ∀ {lo n m : Int}, Up lo l → hasS (firstS l n) m = true → hasS l m = true := by
  induction l with
  | nil => intro lo n m _ h; exact h
  | cons s r ih =>
    intro lo n m h hm
    obtain ⟨h1, h2, h3, h4⟩ := h
    by_cases hn : n ≤ 0
    · rw [firstS_zero _ hn] at hm; cases hm
    · simp only [firstS, if_neg hn] at hm
      rw [hasS_cons] at hm ⊢
      simp only [Bool.or_eq_true, Bool.and_eq_true, decide_eq_true_eq] at hm ⊢
      rcases hm with hm | hm
      · exact Or.inl ⟨hm.1, by have := hm.2; omega⟩
      · exact Or.inr (ih h4 hm)
theorem firstS_lt {l : List Sn} : ∀ {lo n m : Int}, Up lo l → hasS l m = true → hasS (firstS l n) m = false → ∀ x ∈ firstS l n, x.t < m := by
  induction l with
  | nil => intro lo n m _ _ _ x hx; cases hx
  | cons s r ih =>
    intro lo n m h hm hf x hx
    obtain ⟨h1, h2, h3, h4⟩ := h
    by_cases hn : n ≤ 0
    · rw [firstS_zero _ hn] at hx; cases hx
    · simp only [firstS, if_neg hn] at hf hx
      rw [hasS_cons] at hm hf
      simp only [Bool.or_eq_true, Bool.and_eq_true, decide_eq_true_eq] at hm
      simp only [Bool.or_eq_false_iff, Bool.and_eq_false_iff, decide_eq_false_iff_not] at hf
      obtain ⟨hf1, hf2⟩ := hf
      by_cases hmn : n - 1 < s.t - s.f
      · rw [firstS_zero r (show n - (min (n - 1) (s.t - s.f) + 1) ≤ 0 by omega)] at hx
        rcases List.mem_cons.1 hx with rfl | hx
        · rcases hm with hm | hm
          · show s.f + min (n - 1) (s.t - s.f) < m
            have := hm.1
            omega
          · have := h4.has hm
            show s.f + min (n - 1) (s.t - s.f) < m
            omega
        · cases hx
      · rcases hm with hm | hm
        · have := hm.1
          have := hm.2
          omega
        · rcases List.mem_cons.1 hx with rfl | hx
          · have := h4.has hm
            show s.f + min (n - 1) (s.t - s.f) < m
            omega
          · exact ih h4 hm hf2 x hx
theorem firstS_many {l : List Sn} : ∀ {lo n : Int}, 0 ≤ n → Up lo l → manyS (firstS l n) = min n (manyS l) := by
  induction l with
  | nil => intro lo n h0 _; simp [firstS, manyS]; omega
  | cons s r ih =>
    intro lo n h0 h
    obtain ⟨h1, h2, h3, h4⟩ := h
    have hm := h4.many0
    by_cases hn : n ≤ 0
    · rw [firstS_zero _ hn]; simp only [manyS]; omega
    · simp only [firstS, if_neg hn, manyS]
      rw [ih (by omega) h4]
      omega
end Go.Proofs.Ytlbeincgknmijaa
