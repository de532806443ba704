/-
  Doubts as a list by rising nodes: plain mathematics. No program is known here.
-/
import Derived.Test.YtahiiieifdhgeaaBbn
import Derived.Test.YtahiiieifdhgeaaXww
import Derived.Test.YtahiiieifdhgeaaXrt
import Derived.Test.YtahiiieifdhgeaaBas
namespace Go.Proofs.Ytahiiieifdhgeaa
open Go.RowKit

/-- A doubt: node, incarnation, state, who told it, since when, how many more told it, until when. -/
structure Dbt where
  n : Int
  i : Int
  s : Int
  f : Nat
  a : Int
  t : Int
  u : Int

abbrev mx : Int := 18446744073709551615
structure DbtOk (x : Dbt) : Prop where
  n0 : 0 ≤ x.n
  n1 : x.n < 64
  i0 : 0 ≤ x.i
  i1 : x.i ≤ 18446744073709551615
  s : x.s = 1
  f : x.f < Bnd.lim
  a0 : 0 ≤ x.a
  a1 : x.a ≤ 18446744073709551615
  t0 : 0 ≤ x.t
  t1 : x.t + 1 = Bnd.manyS x.f
  u0 : 0 ≤ x.u
  u1 : x.u ≤ 18446744073709551615

/-! ## Lists by rising nodes -/
structure Di (L : List Dbt) : Prop where
  sort : L.Pairwise (fun x y => x.n < y.n)
  ok : ∀ x ∈ L, DbtOk x
def insD (x : Dbt) : List Dbt → List Dbt
  | [] => [x]
  | y :: r => if x.n < y.n then x :: y :: r else y :: insD x r
def lessD (L : List Dbt) (n : Int) : List Dbt := L.filter (fun x => x.n != n)
def keepD (L : List Dbt) (x : Dbt) : List Dbt := insD x (lessD L x.n)
def zD : Dbt := ⟨0, 0, 0, 0, 0, 0, 0⟩
def hasD (L : List Dbt) (n : Int) : Bool := L.any (fun x => x.n == n)
def getD (L : List Dbt) (n : Int) : Dbt := (L.find? (fun x => x.n == n)).getD zD

theorem insD_mem (x y : Dbt) (L : List Dbt) : y ∈ insD x L ↔ y = x ∨ y ∈ L := by
  induction L with
  | nil => simp [insD]
  | cons z r ih =>
    unfold insD
    split
    · simp
    · simp [ih]
      constructor
      · rintro (h | h | h)
        · exact Or.inr (Or.inl h)
        · exact Or.inl h
        · exact Or.inr (Or.inr h)
      · rintro (h | h | h)
        · exact Or.inr (Or.inl h)
        · exact Or.inl h
        · exact Or.inr (Or.inr h)
theorem insD_length (x : Dbt) (L : List Dbt) : (insD x L).length = L.length + 1 := by
  induction L with
  | nil => rfl
  | cons z r ih => unfold insD; split <;> simp [ih]
theorem lessD_mem {L : List Dbt} {n : Int} {y : Dbt} : y ∈ lessD L n ↔ y ∈ L ∧ y.n ≠ n := by simp [lessD]
theorem lessD_none {L : List Dbt} {n : Int} (h : ∀ x ∈ L, x.n ≠ n) : lessD L n = L := List.filter_eq_self.2 fun x hx => by simpa using h x hx
theorem lessD_length_le (L : List Dbt) (n : Int) : (lessD L n).length ≤ L.length := List.length_filter_le _ _
theorem keepD_mem {L : List Dbt} {x y : Dbt} : y ∈ keepD L x ↔ y = x ∨ (y ∈ L ∧ y.n ≠ x.n) := by unfold keepD; rw [insD_mem, lessD_mem]

section
variable {L : List Dbt}
theorem Di.nil : Di [] := ⟨List.Pairwise.nil, fun _ h => by cases h⟩
theorem Di.less (h : Di L) (n : Int) : Di (lessD L n) := ⟨h.sort.filter _, fun x hx => h.ok x (lessD_mem.1 hx).1⟩
theorem ins_sorted {x : Dbt} (h : L.Pairwise (fun x y => x.n < y.n)) (hx : ∀ y ∈ L, y.n ≠ x.n) : (insD x L).Pairwise (fun x y => x.n < y.n) := by
  induction L with
  | nil => exact List.pairwise_singleton _ _
  | cons z r ih =>
    rw [List.pairwise_cons] at h
    unfold insD
    split
    · rename_i hlt
      refine List.pairwise_cons.2 ⟨fun y hy => ?_, List.pairwise_cons.2 h⟩
      rcases List.mem_cons.1 hy with rfl | hy
      · exact hlt
      · exact Int.lt_trans hlt (h.1 y hy)
    · rename_i hlt
      refine List.pairwise_cons.2 ⟨fun y hy => ?_, ih h.2 fun y hy => hx y (List.mem_cons_of_mem _ hy)⟩
      rcases (insD_mem _ _ _).1 hy with rfl | hy
      · have := hx z List.mem_cons_self
        omega
      · exact h.1 y hy
theorem Di.keep (h : Di L) {x : Dbt} (hx : DbtOk x) : Di (keepD L x) :=
  ⟨ins_sorted (h.less _).sort fun y hy => (lessD_mem.1 hy).2, fun y hy => by
    rcases (insD_mem _ _ _).1 hy with rfl | hy
    · exact hx
    · exact (h.less _).ok y hy⟩
theorem Di.one (h : Di L) {x y : Dbt} (hx : x ∈ L) (hy : y ∈ L) (e : x.n = y.n) : x = y := by
  have hs := h.sort
  clear h
  induction L with
  | nil => cases hx
  | cons z r ih =>
    rw [List.pairwise_cons] at hs
    rcases List.mem_cons.1 hx with e1 | hx1
    · rcases List.mem_cons.1 hy with e2 | hy2
      · rw [e1, e2]
      · have := hs.1 y hy2; rw [← e1] at this; omega
    · rcases List.mem_cons.1 hy with e2 | hy2
      · have := hs.1 x hx1; rw [← e2] at this; omega
      · exact ih hx1 hy2 hs.2
theorem Di.nodup (h : Di L) : L.Nodup := h.sort.imp fun h e => by subst e; omega
theorem Di.tail {x : Dbt} {r : List Dbt} (h : Di (x :: r)) : Di r := ⟨(List.pairwise_cons.1 h.sort).2, fun y hy => h.ok y (List.mem_cons_of_mem _ hy)⟩
theorem lessD_length (h : Di L) {x : Dbt} (hx : x ∈ L) : (lessD L x.n).length + 1 = L.length := by
  have hs := h.sort
  clear h
  induction L with
  | nil => cases hx
  | cons z r ih =>
    rw [List.pairwise_cons] at hs
    rcases List.mem_cons.1 hx with rfl | hx
    · have : lessD (x :: r) x.n = r := by
        unfold lessD
        rw [List.filter_cons_of_neg (by simp)]
        exact List.filter_eq_self.2 fun y hy => by have := hs.1 y hy; simp; omega
      rw [this]; rfl
    · have hne : z.n ≠ x.n := by have := hs.1 x hx; omega
      have : lessD (z :: r) x.n = z :: lessD r x.n := List.filter_cons_of_pos (by simpa using hne)
      rw [this, List.length_cons, List.length_cons, ih hx hs.2]
theorem keepD_length_same (h : Di L) (x : Dbt) (hy : ∃ y ∈ L, y.n = x.n) : (keepD L x).length = L.length := by
  obtain ⟨y, h1, h2⟩ := hy
  unfold keepD
  rw [insD_length, ← h2]
  exact lessD_length h h1
theorem keepD_length_new {x : Dbt} (hy : ∀ y ∈ L, y.n ≠ x.n) : (keepD L x).length = L.length + 1 := by
  unfold keepD
  rw [insD_length, lessD_none hy]
theorem keepD_length_le (L : List Dbt) (x : Dbt) : (keepD L x).length ≤ L.length + 1 := by
  unfold keepD
  rw [insD_length]
  have := lessD_length_le L x.n
  omega
/-- At most as many as there are nodes. -/
theorem sorted_length (l : List Int) : ∀ (m : Nat), l.Pairwise (· < ·) → (∀ x ∈ l, 64 - (m : Int) ≤ x ∧ x < 64) → l.length ≤ m := by
  induction l with
  | nil => intro m _ _; exact Nat.zero_le _
  | cons x r ih =>
    intro m hs hr
    rw [List.pairwise_cons] at hs
    have hx := hr x List.mem_cons_self
    have := ih (m - 1) hs.2 fun y hy => by
      have := hs.1 y hy
      have := hr y (List.mem_cons_of_mem _ hy)
      omega
    simp
    omega
theorem Di.length (h : Di L) : L.length ≤ 64 := by
  have := sorted_length (L.map Dbt.n) 64 (List.pairwise_map.2 h.sort) fun x hx => by
    obtain ⟨y, hy, rfl⟩ := List.mem_map.1 hx
    have := (h.ok y hy).n0
    have := (h.ok y hy).n1
    omega
  simpa using this
theorem hasD_true {n : Int} (h : hasD L n = true) : getD L n ∈ L ∧ (getD L n).n = n := by
  unfold hasD at h
  unfold getD
  cases e : L.find? (fun x => x.n == n)
  case none =>
    rw [List.find?_eq_none] at e
    obtain ⟨x, h1, h2⟩ := List.any_eq_true.1 h
    exact absurd h2 (e x h1)
  case some y => exact ⟨List.mem_of_find?_eq_some e, by simpa using List.find?_some e⟩
theorem hasD_false {n : Int} (h : hasD L n = false) : (∀ x ∈ L, x.n ≠ n) ∧ getD L n = zD := by
  have h1 : ∀ x ∈ L, x.n ≠ n := fun x hx e => by
    have : hasD L n = true := List.any_eq_true.2 ⟨x, hx, by simpa using e⟩
    rw [h] at this; cases this
  refine ⟨h1, ?_⟩
  unfold getD
  rw [List.find?_eq_none.2 fun x hx => by simpa using h1 x hx]
  rfl
theorem hasD_of {x : Dbt} (hx : x ∈ L) : hasD L x.n = true := List.any_eq_true.2 ⟨x, hx, by simp⟩
theorem getD_of (h : Di L) {x : Dbt} (hx : x ∈ L) : getD L x.n = x := by
  obtain ⟨h1, h2⟩ := hasD_true (hasD_of hx)
  exact h.one h1 hx h2
end

/-! ## What is answered -/
/-- How many ticks are waited. -/
def tkS (base : Nat) (nodes told : Int) : Int := (Re.ticksS (Re.waitS (Re.cleanS base 0 Re.K1000) (Re.bitsS nodes) told 3) : Nat)
def laterS (a k : Int) : Int := a + min k (18446744073709551615 - a)
def untilS (base : Nat) (nodes a told : Int) : Int := laterS a (tkS base nodes told)
theorem laterS_range {a k : Int} (h0 : 0 ≤ a) (h1 : a ≤ 18446744073709551615) (hk : 0 ≤ k) : a ≤ laterS a k ∧ laterS a k ≤ 18446744073709551615 := by
  unfold laterS
  omega
theorem tkS_nonneg (base : Nat) (nodes told : Int) : 0 ≤ tkS base nodes told := Int.natCast_nonneg _

/-- May this be raised? -/
def argS (n s from_ : Int) : Bool := mayS n s && (s == 1 && (decide (0 ≤ from_) && decide (from_ < 64)))
def newD (n i from_ now : Int) (nodes : Int) (base : Nat) : Dbt := ⟨n, i, 1, Bnd.withS 0 from_, now, 0, untilS base nodes now 0⟩
def moreD (x : Dbt) (from_ nodes : Int) (base : Nat) : Dbt := ⟨x.n, x.i, x.s, Bnd.withS x.f from_, x.a, x.t + 1, untilS base nodes x.a (x.t + 1)⟩
/-- What Raise answers, and what the doubts are then. -/
def raiseS (L : List Dbt) (n i s from_ now nodes : Int) (base : Nat) : Bool × Int × List Dbt :=
  if argS n s from_ = false then (false, 1, L)
  else if hasD L n = false ∨ (getD L n).i < i then (true, 0, keepD L (newD n i from_ now nodes base))
  else if i < (getD L n).i then (false, 70, L)
  else if Bnd.hasS (getD L n).f from_ then (false, 0, L)
  else (true, 0, keepD L (moreD (getD L n) from_ nodes base))
/-- Those that are over, and those that are not. -/
def overD (L : List Dbt) (now : Int) : List Dbt := L.filter (fun x => decide (x.u ≤ now))
def stayD (L : List Dbt) (now : Int) : List Dbt := L.filter (fun x => !decide (x.u ≤ now))

theorem argS_true {n s from_ : Int} (h : argS n s from_ = true) : 0 ≤ n ∧ n < 64 ∧ s = 1 ∧ 0 ≤ from_ ∧ from_ < 64 := by
  simp [argS, mayS] at h
  omega
theorem newD_ok {n i s from_ now nodes : Int} {base : Nat} (h : argS n s from_ = true) (hi : 0 ≤ i ∧ i ≤ 18446744073709551615) (hn : 0 ≤ now ∧ now ≤ 18446744073709551615) : DbtOk (newD n i from_ now nodes base) := by
  obtain ⟨h0, h1, h2, h3, h4⟩ := argS_true h
  have hu := laterS_range hn.1 hn.2 (tkS_nonneg base nodes 0)
  have hm := Bnd.many_with (b := 0) ((Bnd.nodeS_iff from_).2 ⟨h3, h4⟩) (by simp [Bnd.hasS])
  have hz : Bnd.manyS 0 = 0 := by decide
  rw [hz] at hm
  refine ⟨h0, h1, hi.1, hi.2, rfl, Bnd.withS_lt (by decide) _, hn.1, hn.2, Int.le_refl _, ?_, Int.le_trans hn.1 hu.1, hu.2⟩
  unfold newD
  simp only
  omega
theorem moreD_ok {x : Dbt} (hx : DbtOk x) {n s from_ nodes : Int} {base : Nat} (h : argS n s from_ = true) (hh : Bnd.hasS x.f from_ = false) : DbtOk (moreD x from_ nodes base) := by
  obtain ⟨_, _, _, h3, h4⟩ := argS_true h
  have hu := laterS_range hx.a0 hx.a1 (tkS_nonneg base nodes (x.t + 1))
  have hm := Bnd.many_with ((Bnd.nodeS_iff from_).2 ⟨h3, h4⟩) hh
  have ht := hx.t1
  have ht0 := hx.t0
  refine ⟨hx.n0, hx.n1, hx.i0, hx.i1, hx.s, Bnd.withS_lt hx.f _, hx.a0, hx.a1, ?_, ?_, Int.le_trans hx.a0 hu.1, hu.2⟩
  · unfold moreD; simp only; omega
  · unfold moreD; simp only; omega
theorem DbtOk.t64 {x : Dbt} (h : DbtOk x) : x.t < 64 := by
  have := h.t1
  have := Bnd.many_le x.f
  omega
theorem raise_di {L : List Dbt} (hL : Di L) {n i s from_ now nodes : Int} {base : Nat} (hi : 0 ≤ i ∧ i ≤ 18446744073709551615) (hn : 0 ≤ now ∧ now ≤ 18446744073709551615) : Di (raiseS L n i s from_ now nodes base).2.2 := by
  unfold raiseS
  split
  · exact hL
  · rename_i ha
    have ha : argS n s from_ = true := by simpa using ha
    split
    · exact hL.keep (newD_ok ha hi hn)
    · rename_i hh
      have hh : hasD L n = true := by
        cases e : hasD L n
        · exact absurd (Or.inl e) hh
        · rfl
      split
      · exact hL
      · split
        · exact hL
        · rename_i hf
          exact hL.keep (moreD_ok (hL.ok _ (hasD_true hh).1) ha (by simpa using hf))
theorem Di.stay {L : List Dbt} (h : Di L) (now : Int) : Di (stayD L now) := ⟨h.sort.filter _, fun x hx => h.ok x (List.mem_filter.1 hx).1⟩
end Go.Proofs.Ytahiiieifdhgeaa
