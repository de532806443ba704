/-
  What all of a band have reached: mathematics; a map of what each has reached; rows of numbers of sixteen bits.
-/
import Derived.Test.YtlbeincgknmijaaDoorRBrf
import Derived.Test.YtlbeincgknmijaaDoorShw
import Derived.Test.YtlbeincgknmijaaDoorOpn
import Derived.Maps.OwnOps
import Derived.Maps.OwnSet
namespace Go.Proofs.YtlbeincgknmijaaDoor
open Go.RowKit Go.Maps Go.Deep Go.ChangeShapes

/-! ## A map of numbers -/

theorem law3 : Keyed Tryd.prog 3 := int_keyed Tryd.underlying3
theorem zeroU (w : World) : (zeroValue 22).run Tryd.prog w = .ok (.int .u64 0) w := by kernel_rfl
theorem lit_ne {a b : Int} (h : a ≠ b) : (Lit.int .i64 a) ≠ .int .i64 b := fun e => h (by cases e; rfl)
theorem wf_node {x : Int} (h0 : 0 ≤ x) (h1 : x < 64) : (Lit.int .i64 x).wf = true := WalkArith.wf_i64 (by omega)
theorem ownsMap_tight {P : Program} {k : TypeId} {R : Value → Option (DataW Unit × List MemPlace)} {w : World} {b n m : Nat} {D : DataW Unit} (h : w.ownsMap P k R b n D) (hm : Maps.size D ≤ m) : w.ownsMap P k R b m D := by
  obtain ⟨es, clock, hb, F, hs, hD⟩ := h
  refine ⟨es, clock, hb, F, ?_, hD⟩
  rw [hD] at hm
  simpa [Maps.size, length_sorted] using hm

def setF (f : Int → Option Int) (x y : Int) : Int → Option Int := fun z => if z = x then some y else f z
/-- What is reached is a number of sixteen bits. -/
def Half (f : Int → Option Int) : Prop := ∀ x y, f x = some y → 0 ≤ y ∧ y ≤ 65535
theorem Half.none : Half (fun _ => none) := fun _ _ e => by cases e
theorem Half.set {f : Int → Option Int} (h : Half f) {x y : Int} (hy : 0 ≤ y ∧ y ≤ 65535) : Half (setF f x y) := by
  intro z u hz
  unfold setF at hz
  by_cases e : z = x
  · rw [if_pos e] at hz; cases hz; exact hy
  · rw [if_neg e] at hz; exact h z u hz
/-- Block b is a map that has f x at x. -/
def Mo (b : Nat) (f : Int → Option Int) (n : Nat) (w : World) : Prop :=
  ∃ D : DataW Unit, w.ownsMap Tryd.prog 3 (plainElem Tryd.prog 22) b 1000 D ∧ (∀ x, Maps.has D (.int .i64 x) = (f x).isSome) ∧ (∀ x y, f x = some y → ∀ z, D.atKey (.int .i64 x) z = .lit (.int .u64 y)) ∧ Maps.size D = n
section
variable {f : Int → Option Int} {b n : Nat} {w w' : World}
theorem Mo.keep (h : Mo b f n w) (e : w'.heap[b]? = w.heap[b]?) : Mo b f n w' := by
  obtain ⟨D, ⟨es, clock, hb, r⟩, hp⟩ := h
  exact ⟨D, ⟨es, clock, e.trans hb, r⟩, hp⟩
theorem Mo.lt (h : Mo b f n w) : b < w.heap.size := by
  obtain ⟨D, h, _⟩ := h
  exact h.lt
theorem Mo.below (h : Mo b f n w) (k : Below w.heap.size w w') : Mo b f n w' := h.keep (k.block b h.lt)
theorem Mo.made (w : World) : Mo w.heap.size (fun _ => none) 0 (w.alloc (.map #[] 0)) :=
  ⟨_, (World.ownsMap_made w _ _ _).mono (Nat.zero_le _), (fun x => by rw [has_eq]; simp), (fun x y e => by cases e), rfl⟩
theorem Mo.look (h : Mo b f n w) {x : Int} (h0 : 0 ≤ x) (h1 : x < 64) :
    (Instr.lookup 26 (.map (some b)) (.int .i64 x) true).run Tryd.prog w = .ok (.tuple #[.int .u64 ((f x).getD 0), .bool (f x).isSome]) w := by
  obtain ⟨D, ho, hh, hp, _⟩ := h
  obtain ⟨v, ps, hr, hv⟩ := ho.look_ok law3 Tryd.underlying26 (zeroU _) (plainElem_int Tryd.underlying22 (by decide)) (keyOf_int_mk Tryd.underlying3 (wf_node h0 h1))
  rw [hr, hh x]
  obtain ⟨y, rfl, e, _⟩ := plainElem_int_inv Tryd.underlying22 hv
  have e' : D.atKey (.int .i64 x) (.lit (.int .u64 0)) = .lit (.int .u64 y) := by simpa using congrArg Prod.fst e
  cases hf : f x with
  | none =>
    rw [atKey_of_not_has (by rw [hh x, hf]; rfl)] at e'
    simp at e'
    simp [e']
  | some z =>
    rw [hp x z hf] at e'
    simp at e'
    simp [e']
theorem Mo.get (h : Mo b f n w) {x : Int} (h0 : 0 ≤ x) (h1 : x < 64) :
    (Instr.lookup 26 (.map (some b)) (.int .i64 x) false).run Tryd.prog w = .ok (.int .u64 ((f x).getD 0)) w := by
  obtain ⟨D, ho, hh, hp, _⟩ := h
  obtain ⟨v, ps, hr, hv⟩ := ho.lookup law3 Tryd.underlying26 (zeroU _) (plainElem_int Tryd.underlying22 (by decide)) (keyOf_int_mk Tryd.underlying3 (wf_node h0 h1))
  rw [hr]
  obtain ⟨y, rfl, e, _⟩ := plainElem_int_inv Tryd.underlying22 hv
  have e' : D.atKey (.int .i64 x) (.lit (.int .u64 0)) = .lit (.int .u64 y) := by simpa using congrArg Prod.fst e
  cases hf : f x with
  | none =>
    rw [atKey_of_not_has (by rw [hh x, hf]; rfl)] at e'
    simp at e'
    simp [e']
  | some z =>
    rw [hp x z hf] at e'
    simp at e'
    simp [e']
theorem Mo.put (h : Mo b f n w) {x y : Int} (h0 : 0 ≤ x) (h1 : x < 64) (hy : 0 ≤ y ∧ y ≤ 65535) (hn : n < 1000) :
    ∃ w', (Instr.mapUpdate 26 (.map (some b)) (.int .i64 x) (.int .u64 y)).run Tryd.prog w = .ok () w' ∧ Mo b (setF f x y) (if (f x).isSome then n else n + 1) w' ∧ w.grownBy w' (some b) := by
  obtain ⟨D, ho, hh, hp, hs⟩ := h
  obtain ⟨w', hr, k1, k2⟩ := ho.update law3 Tryd.underlying26 (by unfold maxLen; omega) (keyOf_int_mk Tryd.underlying3 (wf_node h0 h1)) (plainElem_int Tryd.underlying22 (WalkArith.wf_u64 (by omega : 0 ≤ y ∧ y ≤ 18446744073709551615)))
  have hsz : Maps.size (D.put (.int .i64 x) (.lit (.int .u64 y))) = if (f x).isSome then n else n + 1 := by
    rw [size_put (ho.tidy law3), hh x, hs]
  refine ⟨w', hr, ⟨_, ownsMap_tight k1 (by rw [hsz]; split <;> omega), fun z => ?_, fun z u hz => ?_, hsz⟩, k2⟩
  · unfold setF
    by_cases e : z = x
    · subst e
      rw [has_put_same ho.isMap (show WideAt.IsKeyLit (.int .i64 z) from trivial), if_pos rfl]; rfl
    · rw [has_put_other (lit_ne e), hh z, if_neg e]
  · unfold setF at hz
    by_cases e : z = x
    · subst e
      rw [if_pos rfl] at hz
      cases hz
      exact atKey_put_same ho.isMap (show WideAt.IsKeyLit (.int .i64 z) from trivial) _
    · rw [if_neg e] at hz
      intro d
      rw [atKey_put_other (lit_ne e)]
      exact hp z u hz d
end

/-! ## The least that is reached -/

abbrev top : Int := 18446744073709551615
def gotS (f : Int → Option Int) (x : Int) : Int := (f x).getD 0
def minS (f : Int → Option Int) (l : List Int) : Int := l.foldl (fun m x => min m (gotS f x)) top
def lowS (f : Int → Option Int) (l : List Int) : Int := if l = [] then 0 else minS f l
theorem gotS_range {f : Int → Option Int} (h : Half f) (x : Int) : 0 ≤ gotS f x ∧ gotS f x ≤ 65535 := by
  unfold gotS
  cases hx : f x with
  | none => simp
  | some y => exact h x y hx
theorem minS_snoc (f : Int → Option Int) (l : List Int) (x : Int) : minS f (l ++ [x]) = min (minS f l) (gotS f x) := by simp [minS, List.foldl_append]
theorem fold_le (f : Int → Option Int) (l : List Int) : ∀ m, l.foldl (fun m x => min m (gotS f x)) m ≤ m ∧ (∀ x ∈ l, l.foldl (fun m x => min m (gotS f x)) m ≤ gotS f x) ∧ (l.foldl (fun m x => min m (gotS f x)) m = m ∨ ∃ x ∈ l, l.foldl (fun m x => min m (gotS f x)) m = gotS f x) := by
  induction l with
  | nil => intro m; exact ⟨Int.le_refl _, (fun _ h => by cases h), Or.inl rfl⟩
  | cons a l ih =>
    intro m
    obtain ⟨h1, h2, h3⟩ := ih (min m (gotS f a))
    simp only [List.foldl_cons]
    refine ⟨by omega, fun x hx => ?_, ?_⟩
    · rcases List.mem_cons.1 hx with rfl | hx
      · omega
      · exact h2 x hx
    · rcases h3 with h3 | ⟨x, hx, h3⟩
      · rcases Int.le_total m (gotS f a) with h | h
        · left; omega
        · right; exact ⟨a, List.mem_cons_self, by omega⟩
      · right; exact ⟨x, List.mem_cons_of_mem _ hx, h3⟩
theorem minS_range {f : Int → Option Int} (h : Half f) (l : List Int) : 0 ≤ minS f l ∧ minS f l ≤ top := by
  obtain ⟨h1, h2, h3⟩ := fold_le f l top
  refine ⟨?_, h1⟩
  rcases h3 with h3 | ⟨x, _, h3⟩
  · unfold minS; rw [h3]; decide
  · unfold minS; rw [h3]; exact (gotS_range h x).1
theorem lowS_range {f : Int → Option Int} (h : Half f) (l : List Int) : 0 ≤ lowS f l ∧ lowS f l ≤ 65535 := by
  unfold lowS
  cases l with
  | nil => simp
  | cons a l =>
    rw [if_neg (by simp)]
    have h1 := (fold_le f (a :: l) top).2.1 a List.mem_cons_self
    have h2 := gotS_range h a
    have h3 := minS_range h (a :: l)
    unfold minS at h3 ⊢
    omega
theorem lowS_le {f : Int → Option Int} {l : List Int} {x : Int} (hx : x ∈ l) : lowS f l ≤ gotS f x := by
  unfold lowS
  rw [if_neg (by rintro rfl; cases hx)]
  exact (fold_le f l top).2.1 x hx
theorem lowS_one {f : Int → Option Int} (h : Half f) (x : Int) : lowS f [x] = gotS f x := by
  have := gotS_range h x
  simp only [lowS, minS, List.foldl_cons, List.foldl_nil, if_neg (show ¬ [x] = [] by simp)]
  unfold top
  omega
theorem lowS_snoc {f : Int → Option Int} (l : List Int) (x : Int) (hl : l ≠ []) : lowS f (l ++ [x]) = min (lowS f l) (gotS f x) := by
  unfold lowS
  rw [if_neg (by simp), if_neg hl, minS_snoc]
theorem lowS_just {f : Int → Option Int} (h : Half f) {l : List Int} (hl : l ≠ []) : ∃ x ∈ l, gotS f x = lowS f l := by
  rcases (fold_le f l top).2.2 with h3 | ⟨x, hx, h3⟩
  · exfalso
    have h1 := (lowS_range h l).2
    unfold lowS at h1
    rw [if_neg hl] at h1
    unfold minS at h1
    rw [h3] at h1
    exact absurd h1 (by decide)
  · exact ⟨x, hx, by unfold lowS; rw [if_neg hl]; exact h3.symm⟩
theorem lowS_miss {f : Int → Option Int} (h : Half f) {l : List Int} {x : Int} (hx : x ∈ l) (hm : f x = none) : lowS f l = 0 := by
  have h1 := lowS_le (f := f) hx
  have h2 := (lowS_range h l).1
  unfold gotS at h1
  rw [hm] at h1
  simp at h1
  omega
/-- That one of the first reaches no more. -/
def justS (f : Int → Option Int) (n : Int) (l : List Int) : Bool := l.any fun x => decide (gotS f x = n)
theorem justS_snoc (f : Int → Option Int) (n : Int) (l : List Int) (x : Int) : justS f n (l ++ [x]) = (justS f n l || decide (gotS f x = n)) := by simp [justS]
theorem justS_low {f : Int → Option Int} (h : Half f) {l : List Int} (hl : l ≠ []) : justS f (lowS f l) l = true := by
  obtain ⟨x, hx, e⟩ := lowS_just h hl
  unfold justS
  rw [List.any_eq_true]
  exact ⟨x, hx, by simpa using e⟩

/-! ## Rows of numbers of sixteen bits -/

/-- The slice v reads as the numbers l. -/
def Rh (v : Value) (l : List Int) (w : World) : Prop :=
  ∃ a cap, v = .slice a l.length cap ∧ (l.length = 0 ∨ ∃ g off, a = some ⟨g, off, none⟩ ∧ ∀ j (hj : j < l.length), w.cell? ⟨g, off + j, none⟩ = some (.int .u16 l[j]))
theorem Rh.keep {v : Value} {l : List Int} {w w' : World} (h : Rh v l w) (hw : ∀ g, v.ownBlock = some g → g < w.heap.size → w'.heap[g]? = w.heap[g]?) : Rh v l w' := by
  obtain ⟨a, cap, rfl, h3⟩ := h
  refine ⟨a, cap, rfl, ?_⟩
  rcases h3 with h3 | ⟨g, off, rfl, h3⟩
  · exact Or.inl h3
  · refine Or.inr ⟨g, off, rfl, fun j hj => ?_⟩
    have hc := h3 j hj
    have hlt : g < w.heap.size := World.block_lt_of_cell? _ _ hc
    rw [← hc]
    exact World.cell?_of_block (w := w) (hw g rfl hlt)
theorem Rh.below {v : Value} {l : List Int} {w w' : World} (h : Rh v l w) (hb : Below w.heap.size w w') : Rh v l w' := h.keep fun g _ hg => hb.block g hg
theorem Rh.at {g off n cap : Nat} {l : List Int} {w : World} (h : Rh (.slice (some ⟨g, off, none⟩) n cap) l w) {j : Nat} (hj : j < l.length) : w.cell? ⟨g, off + j, none⟩ = some (.int .u16 l[j]) := by
  obtain ⟨_, _, e, h3⟩ := h
  cases e
  rcases h3 with h3 | ⟨g', off', e, h3⟩
  · omega
  · cases e; exact h3 j hj
theorem u16_of {n : Int} (h : (Lit.int .u16 n).wf = true) : 0 ≤ n ∧ n ≤ 65535 := by simpa [Lit.wf, IntKind.min, IntKind.max, IntKind.signed, IntKind.bits] using h
def Halves (l : List Int) : Prop := ∀ x ∈ l, 0 ≤ x ∧ x ≤ 65535
def IsHalves (w : World) (a : Option Addr) (len cap : Nat) (l : List Int) : Prop := l.length = len ∧ Rh (.slice a len cap) l w ∧ Halves l
theorem Tryd.cellsH : Tryd.prog.cellsOf 27 = 1 := by kernel_rfl
theorem open_halves {H : Type} {enc : TypeId × Value → H} {W : World} {a : Option Addr} {len cap : Nat} {d : DataW H} {ps : List MemPlace} (h : DataW.Trod enc Tryd.prog W 0 (fun _ => true) true 24 (.slice a len cap) d ps) : ∃ l, IsHalves W a len cap l := by
  obtain ⟨fuel, hf0⟩ := h
  have hf : DataW.trod enc Tryd.prog W 0 (fun _ => true) true fuel 24 [.slice a len cap] = some (d, ps) := hf0
  rcases open_ints Tryd.underlying24 Tryd.underlying27 Tryd.cellsH hf with ⟨hcs, _⟩ | ⟨a', len', cap', zs, hcs, _, h1, h2, h3, _, h4, h5⟩
  · simp at hcs
    obtain ⟨rfl, rfl, rfl⟩ := hcs
    exact ⟨[], rfl, ⟨_, _, rfl, Or.inl rfl⟩, fun n hn => by cases hn⟩
  · simp at hcs
    obtain ⟨rfl, rfl, rfl⟩ := hcs
    simp at h3
    have hl : (zs.take len).length = len := by rw [List.length_take]; omega
    refine ⟨zs.take len, hl, ⟨some a', cap, by rw [hl], ?_⟩, fun n hn => u16_of (h5 n (List.mem_of_mem_take hn))⟩
    rcases Nat.eq_zero_or_pos len with h0 | h0
    · exact Or.inl (by omega)
    · right
      obtain ⟨b, off, spot⟩ := a'
      have hspot : spot = none := by
        have := h4 0 (by omega)
        simpa [Addr.add] using World.cell?_spot this
      subst hspot
      refine ⟨b, off, rfl, fun j hj => ?_⟩
      have := h4 j (by omega)
      rw [List.getElem_take]
      simp only [List.getD, List.getElem?_eq_getElem (show j < zs.length by omega), Option.getD_some] at this
      rw [← this]
      unfold Addr.add; split <;> simp_all
end Go.Proofs.YtlbeincgknmijaaDoor
