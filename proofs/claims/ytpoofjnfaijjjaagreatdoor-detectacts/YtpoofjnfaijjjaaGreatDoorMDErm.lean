/-
  Doubts as a list by rising nodes: plain mathematics. No program is known here. Rows of doubts: cells; a row that is appended to; boxes. Doubts: a map by nodes, behind a pointer. What Raise answers, case by case: plain mathematics.
-/
import Derived.Test.YtpoofjnfaijjjaaGreatDoorMDBbn
import Derived.Test.YtpoofjnfaijjjaaGreatDoorMDXww
import Derived.Test.YtpoofjnfaijjjaaGreatDoorMRRfr
import Derived.Maps.AppendAt
import Derived.OwnWalk
import Derived.KernelRfl
import Derived.Maps.RangeWalk
import Derived.Maps.OwnSet
import Derived.Maps.OwnOps
import Derived.Laws.IdiomRangeMap
namespace Go.Proofs.YtpoofjnfaijjjaaGreatDoor.Do
open Go.RowKit Go.Proofs.YtpoofjnfaijjjaaGreatDoor.Ro
structure Dbt where
  n : Int
  i : Int
  s : Int
  f : Nat
  a : Int
  t : Int
  u : Int
structure DbtOk (x : Dbt) : Prop where
  n0 : 0 ≤ x.n
  n1 : x.n < 64
  i0 : 0 ≤ x.i
  i1 : x.i ≤ 18446744073709551615
  s : x.s = 1
  f : x.f < Bnd.lim
  a0 : 0 ≤ x.a
  a1 : x.a ≤ 18446744073709551615
  t0 : 0 ≤ x.t
  t1 : x.t + 1 = Bnd.manyS x.f
  u0 : 0 ≤ x.u
  u1 : x.u ≤ 18446744073709551615
structure Di (L : List Dbt) : Prop where
  sort : L.Pairwise (fun x y => x.n < y.n)
  ok : ∀ x ∈ L, DbtOk x
def insD (x : Dbt) : List Dbt → List Dbt
  | [] => [x]
  | y :: r => if x.n < y.n then x :: y :: r else y :: insD x r
def lessD (L : List Dbt) (n : Int) : List Dbt := L.filter (fun x => x.n != n)
def keepD (L : List Dbt) (x : Dbt) : List Dbt := insD x (lessD L x.n)
def zD : Dbt := ⟨0, 0, 0, 0, 0, 0, 0⟩
def hasD (L : List Dbt) (n : Int) : Bool := L.any (fun x => x.n == n)
def getD (L : List Dbt) (n : Int) : Dbt := (L.find? (fun x => x.n == n)).getD zD
theorem insD_mem (x y : Dbt) (L : List Dbt) : y ∈ insD x L ↔ y = x ∨ y ∈ L := by
  induction L with
  | nil => simp [insD]
  | cons z r ih =>
    unfold insD
    split
    · simp
    · simp [ih]
      constructor
      · rintro (h | h | h)
        · exact Or.inr (Or.inl h)
        · exact Or.inl h
        · exact Or.inr (Or.inr h)
      · rintro (h | h | h)
        · exact Or.inr (Or.inl h)
        · exact Or.inl h
        · exact Or.inr (Or.inr h)
theorem insD_length (x : Dbt) (L : List Dbt) : (insD x L).length = L.length + 1 := by
  induction L with
  | nil => rfl
  | cons z r ih => unfold insD; split <;> simp [ih]
theorem lessD_mem {L : List Dbt} {n : Int} {y : Dbt} : y ∈ lessD L n ↔ y ∈ L ∧ y.n ≠ n := by simp [lessD]
theorem lessD_none {L : List Dbt} {n : Int} (h : ∀ x ∈ L, x.n ≠ n) : lessD L n = L := List.filter_eq_self.2 fun x hx => by simpa using h x hx
theorem lessD_length_le (L : List Dbt) (n : Int) : (lessD L n).length ≤ L.length := List.length_filter_le _ _
theorem keepD_mem {L : List Dbt} {x y : Dbt} : y ∈ keepD L x ↔ y = x ∨ (y ∈ L ∧ y.n ≠ x.n) := by unfold keepD; rw [insD_mem, lessD_mem]
section
variable {L : List Dbt}
theorem Di.nil : Di [] := ⟨List.Pairwise.nil, fun _ h => by cases h⟩
theorem Di.less (h : Di L) (n : Int) : Di (lessD L n) := ⟨h.sort.filter _, fun x hx => h.ok x (lessD_mem.1 hx).1⟩
theorem ins_sorted {x : Dbt} (h : L.Pairwise (fun x y => x.n < y.n)) (hx : ∀ y ∈ L, y.n ≠ x.n) : (insD x L).Pairwise (fun x y => x.n < y.n) := by
  induction L with
  | nil => exact List.pairwise_singleton _ _
  | cons z r ih =>
    rw [List.pairwise_cons] at h
    unfold insD
    split
    · rename_i hlt
      refine List.pairwise_cons.2 ⟨fun y hy => ?_, List.pairwise_cons.2 h⟩
      rcases List.mem_cons.1 hy with rfl | hy
      · exact hlt
      · exact Int.lt_trans hlt (h.1 y hy)
    · rename_i hlt
      refine List.pairwise_cons.2 ⟨fun y hy => ?_, ih h.2 fun y hy => hx y (List.mem_cons_of_mem _ hy)⟩
      rcases (insD_mem _ _ _).1 hy with rfl | hy
      · have := hx z List.mem_cons_self
        omega
      · exact h.1 y hy
theorem Di.keep (h : Di L) {x : Dbt} (hx : DbtOk x) : Di (keepD L x) :=
  ⟨ins_sorted (h.less _).sort fun y hy => (lessD_mem.1 hy).2, fun y hy => by
    rcases (insD_mem _ _ _).1 hy with rfl | hy
    · exact hx
    · exact (h.less _).ok y hy⟩
theorem Di.one (h : Di L) {x y : Dbt} (hx : x ∈ L) (hy : y ∈ L) (e : x.n = y.n) : x = y := by
  have hs := h.sort
  clear h
  induction L with
  | nil => cases hx
  | cons z r ih =>
    rw [List.pairwise_cons] at hs
    rcases List.mem_cons.1 hx with e1 | hx1
    · rcases List.mem_cons.1 hy with e2 | hy2
      · rw [e1, e2]
      · have := hs.1 y hy2; rw [← e1] at this; omega
    · rcases List.mem_cons.1 hy with e2 | hy2
      · have := hs.1 x hx1; rw [← e2] at this; omega
      · exact ih hx1 hy2 hs.2
theorem lessD_length (h : Di L) {x : Dbt} (hx : x ∈ L) : (lessD L x.n).length + 1 = L.length := by
  have hs := h.sort
  clear h
  induction L with
  | nil => cases hx
  | cons z r ih =>
    rw [List.pairwise_cons] at hs
    rcases List.mem_cons.1 hx with rfl | hx
    · have : lessD (x :: r) x.n = r := by
        unfold lessD
        rw [List.filter_cons_of_neg (by simp)]
        exact List.filter_eq_self.2 fun y hy => by have := hs.1 y hy; simp; omega
      rw [this]; rfl
    · have hne : z.n ≠ x.n := by have := hs.1 x hx; omega
      have : lessD (z :: r) x.n = z :: lessD r x.n := List.filter_cons_of_pos (by simpa using hne)
      rw [this, List.length_cons, List.length_cons, ih hx hs.2]
theorem keepD_length_same (h : Di L) (x : Dbt) (hy : ∃ y ∈ L, y.n = x.n) : (keepD L x).length = L.length := by
  obtain ⟨y, h1, h2⟩ := hy
  unfold keepD
  rw [insD_length, ← h2]
  exact lessD_length h h1
theorem keepD_length_new {x : Dbt} (hy : ∀ y ∈ L, y.n ≠ x.n) : (keepD L x).length = L.length + 1 := by
  unfold keepD
  rw [insD_length, lessD_none hy]
theorem sorted_length (l : List Int) : ∀ (m : Nat), l.Pairwise (· < ·) → (∀ x ∈ l, 64 - (m : Int) ≤ x ∧ x < 64) → l.length ≤ m := by
  induction l with
  | nil => intro m _ _; exact Nat.zero_le _
  | cons x r ih =>
    intro m hs hr
    rw [List.pairwise_cons] at hs
    have hx := hr x List.mem_cons_self
    have := ih (m - 1) hs.2 fun y hy => by
      have := hs.1 y hy
      have := hr y (List.mem_cons_of_mem _ hy)
      omega
    simp
    omega
theorem Di.length (h : Di L) : L.length ≤ 64 := by
  have := sorted_length (L.map Dbt.n) 64 (List.pairwise_map.2 h.sort) fun x hx => by
    obtain ⟨y, hy, rfl⟩ := List.mem_map.1 hx
    have := (h.ok y hy).n0
    have := (h.ok y hy).n1
    omega
  simpa using this
theorem hasD_true {n : Int} (h : hasD L n = true) : getD L n ∈ L ∧ (getD L n).n = n := by
  unfold hasD at h
  unfold getD
  cases e : L.find? (fun x => x.n == n)
  case none =>
    rw [List.find?_eq_none] at e
    obtain ⟨x, h1, h2⟩ := List.any_eq_true.1 h
    exact absurd h2 (e x h1)
  case some y => exact ⟨List.mem_of_find?_eq_some e, by simpa using List.find?_some e⟩
theorem hasD_false {n : Int} (h : hasD L n = false) : (∀ x ∈ L, x.n ≠ n) ∧ getD L n = zD := by
  have h1 : ∀ x ∈ L, x.n ≠ n := fun x hx e => by
    have : hasD L n = true := List.any_eq_true.2 ⟨x, hx, by simpa using e⟩
    rw [h] at this; cases this
  refine ⟨h1, ?_⟩
  unfold getD
  rw [List.find?_eq_none.2 fun x hx => by simpa using h1 x hx]
  rfl
theorem hasD_of {x : Dbt} (hx : x ∈ L) : hasD L x.n = true := List.any_eq_true.2 ⟨x, hx, by simp⟩
theorem getD_of (h : Di L) {x : Dbt} (hx : x ∈ L) : getD L x.n = x := by
  obtain ⟨h1, h2⟩ := hasD_true (hasD_of hx)
  exact h.one h1 hx h2
end
def tkS (base : Nat) (nodes told : Int) : Int := (Re.ticksS (Re.waitS (Re.cleanS base 0 Re.K1000) (Re.bitsS nodes) told 3) : Nat)
def laterS (a k : Int) : Int := a + min k (18446744073709551615 - a)
def untilS (base : Nat) (nodes a told : Int) : Int := laterS a (tkS base nodes told)
theorem laterS_range {a k : Int} (h0 : 0 ≤ a) (h1 : a ≤ 18446744073709551615) (hk : 0 ≤ k) : a ≤ laterS a k ∧ laterS a k ≤ 18446744073709551615 := by
  unfold laterS
  omega
theorem tkS_nonneg (base : Nat) (nodes told : Int) : 0 ≤ tkS base nodes told := Int.natCast_nonneg _
def argS (n s from_ : Int) : Bool := mayS n s && (s == 1 && (decide (0 ≤ from_) && decide (from_ < 64)))
def newD (n i from_ now : Int) (nodes : Int) (base : Nat) : Dbt := ⟨n, i, 1, Bnd.withS 0 from_, now, 0, untilS base nodes now 0⟩
def moreD (x : Dbt) (from_ nodes : Int) (base : Nat) : Dbt := ⟨x.n, x.i, x.s, Bnd.withS x.f from_, x.a, x.t + 1, untilS base nodes x.a (x.t + 1)⟩
def raiseS (L : List Dbt) (n i s from_ now nodes : Int) (base : Nat) : Bool × Int × List Dbt :=
  if argS n s from_ = false then (false, 1, L)
  else if hasD L n = false ∨ (getD L n).i < i then (true, 0, keepD L (newD n i from_ now nodes base))
  else if i < (getD L n).i then (false, 70, L)
  else if Bnd.hasS (getD L n).f from_ then (false, 0, L)
  else (true, 0, keepD L (moreD (getD L n) from_ nodes base))
def overD (L : List Dbt) (now : Int) : List Dbt := L.filter (fun x => decide (x.u ≤ now))
def stayD (L : List Dbt) (now : Int) : List Dbt := L.filter (fun x => !decide (x.u ≤ now))
theorem argS_true {n s from_ : Int} (h : argS n s from_ = true) : 0 ≤ n ∧ n < 64 ∧ s = 1 ∧ 0 ≤ from_ ∧ from_ < 64 := by
  simp [argS, mayS] at h
  omega
theorem newD_ok {n i s from_ now nodes : Int} {base : Nat} (h : argS n s from_ = true) (hi : 0 ≤ i ∧ i ≤ 18446744073709551615) (hn : 0 ≤ now ∧ now ≤ 18446744073709551615) : DbtOk (newD n i from_ now nodes base) := by
  obtain ⟨h0, h1, h2, h3, h4⟩ := argS_true h
  have hu := laterS_range hn.1 hn.2 (tkS_nonneg base nodes 0)
  have hm := Bnd.many_with (b := 0) ((Bnd.nodeS_iff from_).2 ⟨h3, h4⟩) (by simp [Bnd.hasS])
  have hz : Bnd.manyS 0 = 0 := by decide
  rw [hz] at hm
  refine ⟨h0, h1, hi.1, hi.2, rfl, Bnd.withS_lt (by decide) _, hn.1, hn.2, Int.le_refl _, ?_, Int.le_trans hn.1 hu.1, hu.2⟩
  unfold newD
  simp only
  omega
theorem moreD_ok {x : Dbt} (hx : DbtOk x) {n s from_ nodes : Int} {base : Nat} (h : argS n s from_ = true) (hh : Bnd.hasS x.f from_ = false) : DbtOk (moreD x from_ nodes base) := by
  obtain ⟨_, _, _, h3, h4⟩ := argS_true h
  have hu := laterS_range hx.a0 hx.a1 (tkS_nonneg base nodes (x.t + 1))
  have hm := Bnd.many_with ((Bnd.nodeS_iff from_).2 ⟨h3, h4⟩) hh
  have ht := hx.t1
  have ht0 := hx.t0
  refine ⟨hx.n0, hx.n1, hx.i0, hx.i1, hx.s, Bnd.withS_lt hx.f _, hx.a0, hx.a1, ?_, ?_, Int.le_trans hx.a0 hu.1, hu.2⟩
  · unfold moreD; simp only; omega
  · unfold moreD; simp only; omega
theorem DbtOk.t64 {x : Dbt} (h : DbtOk x) : x.t < 64 := by
  have := h.t1
  have := Bnd.many_le x.f
  omega
theorem raise_di {L : List Dbt} (hL : Di L) {n i s from_ now nodes : Int} {base : Nat} (hi : 0 ≤ i ∧ i ≤ 18446744073709551615) (hn : 0 ≤ now ∧ now ≤ 18446744073709551615) : Di (raiseS L n i s from_ now nodes base).2.2 := by
  unfold raiseS
  split
  · exact hL
  · rename_i ha
    have ha : argS n s from_ = true := by simpa using ha
    split
    · exact hL.keep (newD_ok ha hi hn)
    · rename_i hh
      have hh : hasD L n = true := by
        cases e : hasD L n
        · exact absurd (Or.inl e) hh
        · rfl
      split
      · exact hL
      · split
        · exact hL
        · rename_i hf
          exact hL.keep (moreD_ok (hL.ok _ (hasD_true hh).1) ha (by simpa using hf))
theorem Di.stay {L : List Dbt} (h : Di L) (now : Int) : Di (stayD L now) := ⟨h.sort.filter _, fun x hx => h.ok x (List.mem_filter.1 hx).1⟩
def Dbt.cs (x : Dbt) : List Value := [.int .i64 x.n, .int .u64 x.i, .int .i64 x.s, .int .u64 (x.f : Int), .int .u64 x.a, .int .u64 x.t, .int .u64 x.u]
def dV (x : Dbt) : Value := .agg #[.int .i64 x.n, .int .u64 x.i, .int .i64 x.s, .int .u64 (x.f : Int), .int .u64 x.a, .int .u64 x.t, .int .u64 x.u]
def dC (x : Dbt) (T : TypeId) : Obj := .cells #[.int .i64 x.n, .int .u64 x.i, .int .i64 x.s, .int .u64 (x.f : Int), .int .u64 x.a, .int .u64 x.t, .int .u64 x.u] T
def Rb (v : Value) (l : List Dbt) (w : World) : Prop :=
  ∃ a cap, v = .slice a l.length cap ∧ l.length ≤ cap ∧ cap ≤ maxLen ∧ (l.length = 0 ∨ ∃ g off, a = some ⟨g, off, none⟩ ∧ ∀ j (hj : j < l.length) k, k < 7 → w.cell? ⟨g, off + j * 7 + k, none⟩ = l[j].cs[k]?)
theorem Rb.keep {v : Value} {l : List Dbt} {w w' : World} (h : Rb v l w) (hw : ∀ g, v.ownBlock = some g → g < w.heap.size → w'.heap[g]? = w.heap[g]?) : Rb v l w' := by
  obtain ⟨a, cap, rfl, h1, h2, h3⟩ := h
  refine ⟨a, cap, rfl, h1, h2, ?_⟩
  rcases h3 with h3 | ⟨g, off, rfl, h3⟩
  · exact Or.inl h3
  · refine Or.inr ⟨g, off, rfl, fun j hj k hk => ?_⟩
    have hlt : g < w.heap.size := World.block_lt_of_cell? _ _ (h3 j hj 0 (by omega))
    exact (World.cell?_of_block (w := w) (hw g rfl hlt)).trans (h3 j hj k hk)
structure C7 (g o : Nat) (x : Dbt) (w : World) : Prop where
  c0 : w.cell? ⟨g, o, none⟩ = some (.int .i64 x.n)
  c1 : w.cell? ⟨g, o + 1, none⟩ = some (.int .u64 x.i)
  c2 : w.cell? ⟨g, o + 2, none⟩ = some (.int .i64 x.s)
  c3 : w.cell? ⟨g, o + 3, none⟩ = some (.int .u64 (x.f : Int))
  c4 : w.cell? ⟨g, o + 4, none⟩ = some (.int .u64 x.a)
  c5 : w.cell? ⟨g, o + 5, none⟩ = some (.int .u64 x.t)
  c6 : w.cell? ⟨g, o + 6, none⟩ = some (.int .u64 x.u)
theorem Rb.at {v : Value} {l : List Dbt} {w : World} (h : Rb v l w) {j : Nat} (hj : j < l.length) : ∃ g off cap, v = .slice (some ⟨g, off, none⟩) l.length cap ∧ l.length ≤ cap ∧ cap ≤ maxLen ∧ g < w.heap.size ∧ C7 g (off + j * 7) l[j] w := by
  obtain ⟨a, cap, rfl, h1, h2, h3⟩ := h
  rcases h3 with h3 | ⟨g, off, rfl, h3⟩
  · omega
  · exact ⟨g, off, cap, rfl, h1, h2, World.block_lt_of_cell? _ _ (h3 j hj 0 (by omega)), h3 j hj 0 (by omega), h3 j hj 1 (by omega), h3 j hj 2 (by omega), h3 j hj 3 (by omega), h3 j hj 4 (by omega), h3 j hj 5 (by omega), h3 j hj 6 (by omega)⟩
theorem C7.keep {g o : Nat} {x : Dbt} {w w' : World} (h : C7 g o x w) (e : w'.heap[g]? = w.heap[g]?) : C7 g o x w' :=
  ⟨(World.cell?_of_block (w := w) e).trans h.c0, (World.cell?_of_block (w := w) e).trans h.c1, (World.cell?_of_block (w := w) e).trans h.c2, (World.cell?_of_block (w := w) e).trans h.c3, (World.cell?_of_block (w := w) e).trans h.c4, (World.cell?_of_block (w := w) e).trans h.c5, (World.cell?_of_block (w := w) e).trans h.c6⟩
def flatD : List Dbt → List Value
  | [] => []
  | x :: r => x.cs ++ flatD r
theorem cs_length (x : Dbt) : x.cs.length = 7 := rfl
theorem flatD_length (l : List Dbt) : (flatD l).length = l.length * 7 := by
  induction l with
  | nil => rfl
  | cons u r ih => simp [flatD, cs_length, ih]; omega
theorem flatD_append (l r : List Dbt) : flatD (l ++ r) = flatD l ++ flatD r := by
  induction l with
  | nil => rfl
  | cons u l ih => simp [flatD, ih]
theorem flatD_cell (l : List Dbt) : ∀ v ∈ flatD l, v.oneCell' = true := by
  induction l with
  | nil => intro v hv; cases hv
  | cons u r ih =>
    intro v hv
    rcases List.mem_append.1 hv with hv | hv
    · simp only [Dbt.cs, List.mem_cons, List.not_mem_nil, or_false] at hv
      rcases hv with rfl | rfl | rfl | rfl | rfl | rfl | rfl <;> rfl
    · exact ih v hv
theorem flatD_get (l : List Dbt) : ∀ j c (h : j < l.length), c < 7 → (flatD l)[j * 7 + c]? = l[j].cs[c]? := by
  induction l with
  | nil => intro j c h; cases h
  | cons u r ih =>
    intro j c h hc
    cases j with
    | zero =>
      rw [flatD, List.getElem?_append_left (by rw [cs_length]; omega), Nat.zero_mul, Nat.zero_add]
      rfl
    | succ j =>
      have h' : j < r.length := by simpa using h
      rw [flatD, List.getElem?_append_right (by rw [cs_length]; omega), cs_length, show (j + 1) * 7 + c - 7 = j * 7 + c from by omega, ih j c h' hc]
      rfl
theorem add_offD (g off j : Nat) : (⟨g, off, none⟩ : Addr).add j = ⟨g, off + j, none⟩ := by unfold Addr.add; split <;> simp_all
theorem Rb.cells {g off : Nat} {cap : Nat} {l : List Dbt} {w : World} (h : Rb (.slice (some ⟨g, off, none⟩) l.length cap) l w) : ∀ j u, (flatD l)[j]? = some u → w.cell? ((⟨g, off, none⟩ : Addr).add j) = some u := by
  intro j u hu
  obtain ⟨_, _, e, _, _, h3⟩ := h
  cases e
  have hj : j < l.length * 7 := by
    rw [← flatD_length]
    exact (List.getElem?_eq_some_iff.1 hu).1
  have hq : j / 7 < l.length := by omega
  rcases h3 with h3 | ⟨g', off', e, h3⟩
  · omega
  · cases e
    have := h3 (j / 7) hq (j % 7) (by omega)
    rw [add_offD]
    rw [Nat.add_assoc, show j / 7 * 7 + j % 7 = j from by omega] at this
    rw [this, ← flatD_get l (j / 7) (j % 7) hq (by omega), show j / 7 * 7 + j % 7 = j from by omega]
    exact hu
def OwD (T : TypeId) (B : Nat) (v : Value) (l : List Dbt) (w : World) : Prop := w.ownsRow B T 7 v l.length (flatD l)
section
variable {T : TypeId} {B : Nat} {v : Value} {l : List Dbt} {w w' : World}
theorem OwD.rb (h : OwD T B v l w) : Rb v l w := by
  rcases h.2 with ⟨rfl, h0⟩ | ⟨g, cap, cur, rfl, hb, hg, h1, h2, h3, h4⟩
  · exact ⟨none, 0, by rw [h0], by omega, by unfold maxLen; omega, Or.inl h0⟩
  · refine ⟨_, cap, rfl, h1, h2, Or.inr ⟨g, 0, rfl, fun j hj k hk => ?_⟩⟩
    rw [Nat.zero_add, World.ownsRow.cellAt h (j * 7 + k) (by omega), flatD_get l j k hj hk]
theorem OwD.keep (h : OwD T B v l w) (e : ∀ g, v.ownBlock = some g → g < w.heap.size → w'.heap[g]? = w.heap[g]?) : OwD T B v l w' := by
  refine ⟨h.1, ?_⟩
  rcases h.2 with hn | ⟨g, cap, cur, rfl, hb, hg, rest⟩
  · exact Or.inl hn
  · exact Or.inr ⟨g, cap, cur, rfl, hb, (e g rfl (Array.getElem?_eq_some_iff.1 hg).1).trans hg, rest⟩
theorem OwD.below (h : OwD T B v l w) (b : Below w.heap.size w w') : OwD T B v l w' := h.keep fun g _ hg => b.block g hg
theorem OwD.lt (h : OwD T B v l w) : ∀ g, v.ownBlock = some g → B ≤ g ∧ g < w.heap.size := World.ownsRow.lt h
theorem OwD.empty {g : Nat} (h : w.heap[g]? = some (.cells #[] T (0, 0))) (hB : B ≤ g) : OwD T B (.slice (some ⟨g, 0, none⟩) 0 0) [] w :=
  ⟨rfl, Or.inr ⟨g, 0, #[], rfl, hB, h, Nat.le_refl _, Nat.zero_le _, rfl, rfl⟩⟩
theorem OwD.mono {C : Nat} (h : OwD T C v l w) (hB : B ≤ C) : OwD T B v l w := by
  refine ⟨h.1, ?_⟩
  rcases h.2 with hn | ⟨g, cap, cur, e, hb, rest⟩
  · exact Or.inl hn
  · exact Or.inr ⟨g, cap, cur, e, Nat.le_trans hB hb, rest⟩
end
structure Bd (T : TypeId) (g : Nat) (x : Dbt) (w : World) : Prop where
  heap : w.heap[g]? = some (.cells #[.int .i64 x.n, .int .u64 x.i, .int .i64 x.s, .int .u64 (x.f : Int), .int .u64 x.a, .int .u64 x.t, .int .u64 x.u] T (0, 0))
section
variable {T : TypeId} {g : Nat} {x : Dbt} {w w' : World}
theorem Bd.c7 (h : Bd T g x w) : C7 g 0 x w := by constructor <;> simp [World.cell?, h.heap]
theorem Bd.c0 (h : Bd T g x w) : w.cell? ⟨g, 0, none⟩ = some (.int .i64 x.n) := h.c7.c0
theorem Bd.c1 (h : Bd T g x w) : w.cell? ⟨g, 1, none⟩ = some (.int .u64 x.i) := h.c7.c1
theorem Bd.c2 (h : Bd T g x w) : w.cell? ⟨g, 2, none⟩ = some (.int .i64 x.s) := h.c7.c2
theorem Bd.c3 (h : Bd T g x w) : w.cell? ⟨g, 3, none⟩ = some (.int .u64 (x.f : Int)) := h.c7.c3
theorem Bd.c4 (h : Bd T g x w) : w.cell? ⟨g, 4, none⟩ = some (.int .u64 x.a) := h.c7.c4
theorem Bd.c5 (h : Bd T g x w) : w.cell? ⟨g, 5, none⟩ = some (.int .u64 x.t) := h.c7.c5
theorem Bd.c6 (h : Bd T g x w) : w.cell? ⟨g, 6, none⟩ = some (.int .u64 x.u) := h.c7.c6
theorem Bd.lt (h : Bd T g x w) : g < w.heap.size := (Array.getElem?_eq_some_iff.1 h.heap).1
theorem Bd.keep (h : Bd T g x w) (e : w'.heap[g]? = w.heap[g]?) : Bd T g x w' := ⟨e.trans h.heap⟩
theorem Bd.below (h : Bd T g x w) (b : Below w.heap.size w w') : Bd T g x w' := h.keep (b.block g h.lt)
theorem Bd.free (h : Bd T g x w) (j : Nat) : w.frozen? ⟨g, j, none⟩ = false := by simp [World.frozen?, h.heap]
theorem Bd.new (T : TypeId) (x : Dbt) (w : World) : Bd T w.heap.size x (w.alloc (dC x T)) := ⟨heap_alloc_new w _⟩
end
theorem Rb.one {T : TypeId} {g : Nat} {x : Dbt} {w : World} (h : Bd T g x w) : Rb (.slice (some ⟨g, 0, none⟩) 1 1) [x] w :=
  ⟨_, 1, rfl, Nat.le_refl _, by unfold maxLen; omega, Or.inr ⟨g, 0, rfl, fun j hj k hk => by
    have : j = 0 := by simpa using hj
    subst this
    have hc := h.c7
    have hk' : k = 0 ∨ k = 1 ∨ k = 2 ∨ k = 3 ∨ k = 4 ∨ k = 5 ∨ k = 6 := by omega
    rcases hk' with rfl | rfl | rfl | rfl | rfl | rfl | rfl
    · exact hc.c0
    · exact hc.c1
    · exact hc.c2
    · exact hc.c3
    · exact hc.c4
    · exact hc.c5
    · exact hc.c6⟩⟩
abbrev zV : Value := .agg #[.int .i64 0, .int .u64 0, .int .i64 0, .int .u64 0, .int .u64 0, .int .u64 0, .int .u64 0]
set_option maxRecDepth 100000 in
theorem Tryz.infoE : (Tryz.prog.info? 172).map (fun i => (i.zero, i.size, i.bytes)) = some (some zV, 7, 56) := by kernel_rfl
theorem wp_appD {S T : TypeId} (hS : Tryz.prog.underlying S = some (.slice T)) (hI : (Tryz.prog.info? T).map (fun i => (i.zero, i.size, i.bytes)) = some (some zV, 7, 56)) {o : Oper} {a : Act} {K : Act → World → Prop} {Q : Exit → Act → World → Prop} (w : World) (s x : Operand)
    (ho : o.op = .call { callee := .builtin .append, args := #[s, x], argTypes := #[S, S] }) (B : Nat) (v : Value) (l : List Dbt) (hs : a.eval s = v) (hown : OwD T B v l w) (hB : B ≤ w.heap.size)
    (g off c : Nat) (r : List Dbt) (m : Nat) (hm : m = r.length) (hx : a.eval x = .slice (some ⟨g, off, none⟩) m c) (hu : Rb (.slice (some ⟨g, off, none⟩) m c) r w) (hl : l.length + r.length ≤ 1000000)
    (h : ∀ v' w', OwD T B v' (l ++ r) w' → w.grownBy w' v.ownBlock → (v'.ownBlock = v.ownBlock ∨ v'.ownBlock = some w.heap.size) → K (a.put o.dst v') w') : o.wp Tryz.prog a w K Q := by
  obtain ⟨i0, hi, hz0, hz1, hz2⟩ := info_parts hI
  subst hm
  obtain ⟨v', w', hr, h2, h3, _, h5⟩ := run_append_own_at (P := Tryz.prog) w B S o.type T i0 _ 7 56 hS hi hz0 hz1 hz2 rfl (by decide) v l.length (flatD l) hown ⟨g, off, none⟩ r.length c (flatD r) (flatD_length r) hu.cells (flatD_cell r) (by unfold maxLen; omega) (by omega) hB
  unfold Oper.wp execOp
  simp only [ho, resolve, invoke, builtin, Sem.run_bind, Sem.run_pure, Result.andThen_ok, List.map_toArray, List.map_cons, List.map_nil, hs, hx, hr]
  refine h v' w' ?_ h3 h5
  unfold OwD
  rw [flatD_append, List.length_append]
  exact h2
theorem wpList_appD {S T : TypeId} (hS : Tryz.prog.underlying S = some (.slice T)) (hI : (Tryz.prog.info? T).map (fun i => (i.zero, i.size, i.bytes)) = some (some zV, 7, 56)) {ops : Array Oper} {rest : List Oper} {o : Oper} {a : Act} {Q : Exit → Act → World → Prop} (w : World) (hgd : o.guard = none) (s x : Operand)
    (ho : o.op = .call { callee := .builtin .append, args := #[s, x], argTypes := #[S, S] }) (B : Nat) (v : Value) (l : List Dbt) (hs : a.eval s = v) (hown : OwD T B v l w) (hB : B ≤ w.heap.size)
    (g off c : Nat) (r : List Dbt) (m : Nat) (hm : m = r.length) (hx : a.eval x = .slice (some ⟨g, off, none⟩) m c) (hu : Rb (.slice (some ⟨g, off, none⟩) m c) r w) (hl : l.length + r.length ≤ 1000000)
    (h : ∀ v' w', OwD T B v' (l ++ r) w' → w.grownBy w' v.ownBlock → (v'.ownBlock = v.ownBlock ∨ v'.ownBlock = some w.heap.size) → wpList Tryz.prog ops Q rest (a.put o.dst v') w') : wpList Tryz.prog ops Q (o :: rest) a w :=
  wpList_plain hgd fun _ hK => wp_appD hS hI w s x ho B v l hs hown hB g off c r m hm hx hu hl fun v' w' h2 h3 h4 => hK _ _ (h v' w' h2 h3 h4)
end Go.Proofs.YtpoofjnfaijjjaaGreatDoor.Do
namespace Go.Proofs.YtpoofjnfaijjjaaGreatDoor.Do
open Go.RowKit Go.Maps Go.Proofs.YtpoofjnfaijjjaaGreatDoor.Ro
theorem law3 : Keyed Tryz.prog 3 := int_keyed Tryz.underlying3
def dat (x : Dbt) : DataW Unit := .agg [.lit (.int .i64 x.n), .lit (.int .u64 x.i), .lit (.int .i64 x.s), .lit (.int .u64 (x.f : Int)), .lit (.int .u64 x.a), .lit (.int .u64 x.t), .lit (.int .u64 x.u)]
theorem dat_inj {x y : Dbt} (h : dat x = dat y) : x = y := by
  obtain ⟨a, b, c, d, e, f, g⟩ := x
  obtain ⟨a', b', c', d', e', f', g'⟩ := y
  simp [dat] at h
  simp [h]
  omega
def dElem (v : Value) : Option (DataW Unit × List MemPlace) :=
  match v with
  | .agg a => match a.toList with
    | [.int .i64 n, .int .u64 i, .int .i64 s, .int .u64 (.ofNat f), .int .u64 c, .int .u64 t, .int .u64 u] => some (dat ⟨n, i, s, f, c, t, u⟩, [])
    | _ => none
  | _ => none
theorem dElem_mk (x : Dbt) : dElem (dV x) = some (dat x, []) := rfl
theorem dElem_inv {v : Value} {z : DataW Unit × List MemPlace} (h : dElem v = some z) : ∃ x, v = dV x ∧ z = (dat x, []) := by
  unfold dElem at h
  split at h
  · rename_i a
    split at h
    · rename_i n i s f c t u e
      refine ⟨⟨n, i, s, f, c, t, u⟩, ?_, by simpa using h.symm⟩
      obtain ⟨l⟩ := a
      simp at e
      subst e
      rfl
    · cases h
  · cases h
structure Mp (D : DataW Unit) (L : List Dbt) : Prop where
  is : ∀ x ∈ L, ∀ z, D.atKey (.int .i64 x.n) z = dat x
  has : ∀ k, Maps.has D (.int .i64 k) = true → ∃ x ∈ L, x.n = k
  size : Maps.size D = L.length
theorem Mp.hit {D : DataW Unit} {L : List Dbt} (h : Mp D L) {x : Dbt} (hx : x ∈ L) : Maps.has D (.int .i64 x.n) = true := has_true_of_atKey (h.is x hx)
theorem Mp.miss {D : DataW Unit} {L : List Dbt} (h : Mp D L) {k : Int} (hx : ∀ x ∈ L, x.n ≠ k) : Maps.has D (.int .i64 k) = false := by
  cases e : Maps.has D (.int .i64 k)
  · rfl
  · obtain ⟨x, h1, h2⟩ := h.has k e
    exact absurd h2 (hx x h1)
theorem lit_ne {a b : Int} (h : a ≠ b) : (Lit.int .i64 a) ≠ .int .i64 b := fun e => h (by cases e; rfl)
theorem Mp.put {D : DataW Unit} {L : List Dbt} (h : Mp D L) (hL : Di L) (hD : Tidy D) (x : Dbt) : Mp (D.put (.int .i64 x.n) (dat x)) (keepD L x) := by
  refine ⟨fun y hy z => ?_, fun k hk => ?_, ?_⟩
  · rcases keepD_mem.1 hy with rfl | ⟨h1, h2⟩
    · exact atKey_put_same hD.isMap (show WideAt.IsKeyLit (.int .i64 y.n) from trivial) _ _
    · rw [atKey_put_other (lit_ne h2)]
      exact h.is y h1 z
  · by_cases e : k = x.n
    · exact ⟨x, keepD_mem.2 (Or.inl rfl), e.symm⟩
    · rw [has_put_other (lit_ne e)] at hk
      obtain ⟨y, h1, h2⟩ := h.has k hk
      exact ⟨y, keepD_mem.2 (Or.inr ⟨h1, by rw [h2]; exact e⟩), h2⟩
  · rw [size_put hD, h.size]
    by_cases e : ∃ y ∈ L, y.n = x.n
    · obtain ⟨y, h1, h2⟩ := e
      rw [keepD_length_same hL x ⟨y, h1, h2⟩, ← h2, h.hit h1]
      rfl
    · have e' : ∀ y ∈ L, y.n ≠ x.n := fun y hy h => e ⟨y, hy, h⟩
      rw [h.miss e', keepD_length_new e']
      rfl
theorem Mp.del {D : DataW Unit} {L : List Dbt} (h : Mp D L) (hL : Di L) (hD : Tidy D) (n : Int) : Mp (D.del (.int .i64 n)) (lessD L n) := by
  refine ⟨fun y hy z => ?_, fun k hk => ?_, ?_⟩
  · obtain ⟨h1, h2⟩ := lessD_mem.1 hy
    rw [atKey_del_other (lit_ne h2)]
    exact h.is y h1 z
  · by_cases e : k = n
    · subst e
      rw [has_del_same] at hk
      cases hk
    · rw [has_del_other (lit_ne e)] at hk
      obtain ⟨y, h1, h2⟩ := h.has k hk
      exact ⟨y, lessD_mem.2 ⟨h1, by rw [h2]; exact e⟩, h2⟩
  · have hs := size_del (k := .int .i64 n) hD
    rw [h.size] at hs
    by_cases e : ∃ y ∈ L, y.n = n
    · obtain ⟨y, h1, rfl⟩ := e
      rw [h.hit h1] at hs
      have := lessD_length hL h1
      simp at hs
      omega
    · have e' : ∀ y ∈ L, y.n ≠ n := fun y hy h => e ⟨y, hy, h⟩
      rw [h.miss e'] at hs
      rw [lessD_none e']
      simpa using hs
theorem Mp.empty : Mp (.map []) [] := ⟨(fun _ h => by cases h), (fun _ h => by rw [has_eq] at h; simp at h), rfl⟩
theorem ownsMap_tight {P : Program} {k : TypeId} {R : Value → Option (DataW Unit × List MemPlace)} {w : World} {b n m : Nat} {D : DataW Unit} (h : w.ownsMap P k R b n D) (hm : Maps.size D ≤ m) : w.ownsMap P k R b m D := by
  obtain ⟨es, clock, hb, F, hs, hD⟩ := h
  refine ⟨es, clock, hb, F, ?_, hD⟩
  rw [hD] at hm
  simpa [Maps.size, length_sorted] using hm
def Mo (b : Nat) (L : List Dbt) (w : World) : Prop := ∃ D, w.ownsMap Tryz.prog 3 dElem b 64 D ∧ Mp D L
theorem Mo.keep {b : Nat} {L : List Dbt} {w w' : World} (h : Mo b L w) (e : w'.heap[b]? = w.heap[b]?) : Mo b L w' := by
  obtain ⟨D, ⟨es, clock, hb, r⟩, hp⟩ := h
  exact ⟨D, ⟨es, clock, e.trans hb, r⟩, hp⟩
theorem Mo.lt {b : Nat} {L : List Dbt} {w : World} (h : Mo b L w) : b < w.heap.size := by
  obtain ⟨D, h, _⟩ := h
  exact h.lt
theorem Mo.made (w : World) : Mo w.heap.size [] (w.alloc (.map #[] 0)) := ⟨_, (World.ownsMap_made w _ _ _).mono (Nat.zero_le _), Mp.empty⟩
theorem Mo.ne_cells {b g : Nat} {L : List Dbt} {w : World} (h : Mo b L w) {cs : Array Value} {T : TypeId} {z : Nat × Nat} (hg : w.heap[g]? = some (.cells cs T z)) : b ≠ g := by
  rintro rfl
  obtain ⟨D, ⟨es, clock, h1, _⟩, _⟩ := h
  rw [hg] at h1
  cases h1
theorem wf_node {x : Int} (h0 : 0 ≤ x) (h1 : x < 64) : (Lit.int .i64 x).wf = true := WalkArith.wf_i64 (by omega)
theorem Mo.put {b : Nat} {L : List Dbt} {w : World} (h : Mo b L w) (hL : Di L) {x : Dbt} (hx : DbtOk x) :
    ∃ w', (Instr.mapUpdate 88 (.map (some b)) (.int .i64 x.n) (dV x)).run Tryz.prog w = .ok () w' ∧ Mo b (keepD L x) w' ∧ w.grownBy w' (some b) := by
  obtain ⟨D, ho, hp⟩ := h
  obtain ⟨w', hr, h1, h2⟩ := ho.update law3 Tryz.underlying88 (by unfold maxLen; omega) (keyOf_int_mk Tryz.underlying3 (wf_node hx.n0 hx.n1)) (dElem_mk x)
  have hp' := hp.put hL (ho.tidy law3) x
  exact ⟨w', hr, ⟨_, ownsMap_tight h1 (by rw [hp'.size]; exact (hL.keep hx).length), hp'⟩, h2⟩
theorem Mo.del {b : Nat} {L : List Dbt} {w : World} (h : Mo b L w) (hL : Di L) {n : Int} (hn : (Lit.int .i64 n).wf = true) (ty : TypeId) :
    ∃ w', (Builtin.delete_ #[88, 3] ty #[.map (some b), .int .i64 n]).run Tryz.prog w = .ok (.tuple #[]) w' ∧ Mo b (lessD L n) w' ∧ w.grownBy w' (some b) := by
  obtain ⟨D, ho, hp⟩ := h
  obtain ⟨w', hr, k1, k2⟩ := ho.drop law3 Tryz.underlying88 (keyOf_int_mk Tryz.underlying3 hn) ty
  exact ⟨w', hr, ⟨_, k1, hp.del hL (ho.tidy law3) n⟩, k2.grown⟩
set_option maxRecDepth 100000 in
theorem zeroD (w : World) : (zeroValue 162).run Tryz.prog w = .ok (dV zD) w := by kernel_rfl
theorem Mo.look {b : Nat} {L : List Dbt} {w : World} (h : Mo b L w) {n : Int} (hn : (Lit.int .i64 n).wf = true) :
    (Instr.lookup 88 (.map (some b)) (.int .i64 n) true).run Tryz.prog w = .ok (.tuple #[dV (getD L n), .bool (hasD L n)]) w := by
  obtain ⟨D, ho, hp⟩ := h
  obtain ⟨v, ps, hr, hv⟩ := ho.look_ok law3 Tryz.underlying88 (zeroD _) (dElem_mk zD) (keyOf_int_mk Tryz.underlying3 hn)
  rw [hr]
  obtain ⟨x, rfl, e⟩ := dElem_inv hv
  have e' : D.atKey (.int .i64 n) (dat zD) = dat x := by simpa using congrArg Prod.fst e
  cases hh : hasD L n
  case false =>
    obtain ⟨k1, k2⟩ := hasD_false hh
    have hm := hp.miss k1
    rw [atKey_of_not_has hm] at e'
    rw [hm, k2, dat_inj e']
  case true =>
    obtain ⟨k1, k2⟩ := hasD_true hh
    have hm := hp.hit k1
    rw [k2] at hm
    have := hp.is _ k1 (dat zD)
    rw [k2, e'] at this
    rw [hm, dat_inj this]
end Go.Proofs.YtpoofjnfaijjjaaGreatDoor.Do
namespace Go.Proofs.YtpoofjnfaijjjaaGreatDoor.Do
open Go.Proofs.YtpoofjnfaijjjaaGreatDoor.Ro
theorem raise_is_old {L : List Dbt} {n i s from_ now nodes : Int} {base : Nat} (ha : argS n s from_ = true) (hh : hasD L n = true) (hi : i < (getD L n).i) : raiseS L n i s from_ now nodes base = (false, 70, L) := by
  unfold raiseS
  rw [if_neg (by rw [ha]; simp), if_neg (by rw [hh]; simp; omega), if_pos hi]
theorem raise_is_told {L : List Dbt} {n i s from_ now nodes : Int} {base : Nat} (ha : argS n s from_ = true) (hh : hasD L n = true) (hi : (getD L n).i = i) (hf : Bnd.hasS (getD L n).f from_ = true) : raiseS L n i s from_ now nodes base = (false, 0, L) := by
  unfold raiseS
  rw [if_neg (by rw [ha]; simp), if_neg (by rw [hh]; simp; omega), if_neg (by omega), if_pos hf]
theorem raise_is_more {L : List Dbt} {n i s from_ now nodes : Int} {base : Nat} (ha : argS n s from_ = true) (hh : hasD L n = true) (hi : (getD L n).i = i) (hf : Bnd.hasS (getD L n).f from_ = false) : raiseS L n i s from_ now nodes base = (true, 0, keepD L (moreD (getD L n) from_ nodes base)) := by
  unfold raiseS
  rw [if_neg (by rw [ha]; simp), if_neg (by rw [hh]; simp; omega), if_neg (by omega), if_neg (by rw [hf]; simp)]
theorem raise_is_new {L : List Dbt} {n i s from_ now nodes : Int} {base : Nat} (ha : argS n s from_ = true) (hh : hasD L n = false ∨ (getD L n).i < i) : raiseS L n i s from_ now nodes base = (true, 0, keepD L (newD n i from_ now nodes base)) := by
  unfold raiseS
  rw [if_neg (by rw [ha]; simp), if_pos hh]
end Go.Proofs.YtpoofjnfaijjjaaGreatDoor.Do
