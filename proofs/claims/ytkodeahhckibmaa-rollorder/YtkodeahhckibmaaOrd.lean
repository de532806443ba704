/-
  What RollOrder needs: the newest of what was heard, whatever the order; rows whose updates change places; bytes that came in.
-/
import Derived.Test.YtkodeahhckibmaaMgs
import Derived.ProofKit
namespace Go.Proofs.Ytkodeahhckibmaa
open Go.RowKit Go.ChangeShapes

/-- Of what was heard (S) f knows the newest of each node; of k nothing was heard. -/
def Knows (k : Nat) (f : Tab) (S : Upd → Prop) : Prop := f k = some ⟨k, 0, 0⟩ ∧ ∀ j, j ≠ k →
  (f j = none ∧ ∀ u, S u → mayU u = true → u.n ≠ j) ∨ ∃ v, f j = some v ∧ S v ∧ mayU v = true ∧ v.n = j ∧ ∀ u, S u → mayU u = true → u.n = j → newerU u v = false
theorem knows_new (k : Nat) : Knows k (newS k) fun _ => False := ⟨Tab.set_same _ _ _, fun _ hj => Or.inl ⟨Tab.set_other _ _ hj, fun _ h => h.elim⟩⟩
theorem knows_hear {k : Nat} {f : Tab} {S : Upd → Prop} (h : Knows k f S) {u : Upd} (hu : u.n ≠ k) : ((hearS k f u).1.2 == 60) = false ∧ Knows k (hearS k f u).2 fun x => x = u ∨ S x := by
  cases hm : mayU u
  · rw [hear_not _ _ hm]
    refine ⟨rfl, h.1, fun j hj => ?_⟩
    rcases h.2 j hj with ⟨h1, h2⟩ | ⟨v, h1, h2, h3, h4, h5⟩
    · refine Or.inl ⟨h1, fun x hx hxm => ?_⟩
      rcases hx with rfl | hx
      · rw [hm] at hxm; cases hxm
      · exact h2 x hx hxm
    · refine Or.inr ⟨v, h1, Or.inr h2, h3, h4, fun x hx hxm hxn => ?_⟩
      rcases hx with rfl | hx
      · rw [hm] at hxm; cases hxm
      · exact h5 x hx hxm hxn
  · obtain ⟨ha, hb⟩ := hear_other (f := f) hm hu
    refine ⟨by simpa using ha, by rw [hb k, if_neg (fun e => hu e.symm)]; exact h.1, fun j hj => ?_⟩
    rw [hb j]
    by_cases hju : (j : Int) = u.n
    · rw [if_pos hju]
      right
      rcases h.2 j hj with ⟨h1, h2⟩ | ⟨v, h1, h2, h3, h4, h5⟩
      · rw [h1, up_none]
        refine ⟨u, rfl, Or.inl rfl, hm, hju.symm, fun x hx hxm hxn => ?_⟩
        rcases hx with rfl | hx
        · exact newer_irrefl _
        · exact absurd hxn (h2 x hx hxm)
      · rw [h1]
        cases hn : newerU u v
        · rw [up_old hn]
          refine ⟨v, rfl, Or.inr h2, h3, h4, fun x hx hxm hxn => ?_⟩
          rcases hx with rfl | hx
          · exact hn
          · exact h5 x hx hxm hxn
        · rw [up_new hn]
          refine ⟨u, rfl, Or.inl rfl, hm, hju.symm, fun x hx hxm hxn => ?_⟩
          rcases hx with rfl | hx
          · exact newer_irrefl _
          · have := h5 x hx hxm hxn
            rw [newer_not] at this ⊢
            rw [newer_iff] at hn
            omega
    · rw [if_neg hju]
      rcases h.2 j hj with ⟨h1, h2⟩ | ⟨v, h1, h2, h3, h4, h5⟩
      · refine Or.inl ⟨h1, fun x hx hxm => ?_⟩
        rcases hx with rfl | hx
        · exact fun e => hju e.symm
        · exact h2 x hx hxm
      · refine Or.inr ⟨v, h1, Or.inr h2, h3, h4, fun x hx hxm hxn => ?_⟩
        rcases hx with rfl | hx
        · exact absurd hxn.symm hju
        · exact h5 x hx hxm hxn
theorem Knows.ext {k : Nat} {f : Tab} {S T : Upd → Prop} (h : Knows k f S) (e : ∀ x, S x ↔ T x) : Knows k f T := by
  have : S = T := funext fun x => propext (e x)
  rw [← this]; exact h
theorem knows_all {k : Nat} (l : List Upd) : ∀ {f : Tab} {S : Upd → Prop}, Knows k f S → (∀ u ∈ l, u.n ≠ k) → (hearAllS k f l).1 = 0 ∧ Knows k (hearAllS k f l).2 fun x => x ∈ l ∨ S x := by
  induction l with
  | nil => intro f S h _; exact ⟨rfl, h.ext fun x => by simp⟩
  | cons u l ih =>
    intro f S h hu
    obtain ⟨h1, h2⟩ := knows_hear h (hu u (List.mem_cons_self ..))
    rw [hearAll_cons, h1]
    obtain ⟨h3, h4⟩ := ih h2 (fun v hv => hu v (List.mem_cons_of_mem _ hv))
    refine ⟨h3, h4.ext fun x => ?_⟩
    rw [List.mem_cons]
    constructor
    · rintro (h | h | h)
      · exact Or.inl (Or.inr h)
      · exact Or.inl (Or.inl h)
      · exact Or.inr h
    · rintro ((h | h) | h)
      · exact Or.inr (Or.inl h)
      · exact Or.inl h
      · exact Or.inr (Or.inr h)
theorem knows_eq {k : Nat} {f g : Tab} {S : Upd → Prop} (hf : Knows k f S) (hg : Knows k g S) : f = g := by
  funext j
  by_cases hj : j = k
  · subst hj; rw [hf.1, hg.1]
  · rcases hf.2 j hj with ⟨h1, h2⟩ | ⟨v, h1, h2, h3, h4, h5⟩ <;> rcases hg.2 j hj with ⟨k1, k2⟩ | ⟨x, k1, k2, k3, k4, k5⟩
    · rw [h1, k1]
    · exact absurd k4 (h2 x k2 k3)
    · exact absurd h4 (k2 v h2 h3)
    · rw [h1, k1]
      have a := h5 x k2 k3 k4
      have b := k5 v h2 h3 h4
      rw [newer_not] at a b
      rw [upd_eq (u := v) (v := x) (by rw [h4, k4]) (by omega) (by omega)]
theorem knows_old {k : Nat} {f : Tab} {S : Upd → Prop} (hf : Knows k f S) {u : Upd} (hu : S u) (hm : mayU u = true) (hk : u.n ≠ k) : ∃ v, getS f u.n = some v ∧ newerU u v = false := by
  have h0 := (may_iff u).1 hm
  unfold getS
  rw [if_pos (by omega)]
  rcases hf.2 u.n.toNat (by omega) with ⟨_, h2⟩ | ⟨v, h1, _, _, _, h5⟩
  · exact absurd (show u.n = (u.n.toNat : Nat) by omega) (h2 u hu hm)
  · exact ⟨v, h1, h5 u hu hm (by omega)⟩

/-! ## A row whose updates change places -/

theorem flat_set (l : List Upd) : ∀ (j : Nat) (u : Upd), j < l.length → (((flat l).set (j * 3) (.int .i64 u.n)).set (j * 3 + 1) (.int .u64 u.i)).set (j * 3 + 2) (.int .i64 u.s) = flat (l.set j u) := by
  induction l with
  | nil => intro j u h; cases h
  | cons x r ih =>
    intro j u h
    cases j with
    | zero => simp [flat, Upd.cs]
    | succ j =>
      have := ih j u (by simpa using h)
      rw [show (j + 1) * 3 = j * 3 + 3 from by omega]
      simp only [flat, Upd.cs, List.cons_append, List.nil_append, List.set_cons_succ]
      rw [this]
theorem Own.put {B g n cap : Nat} {l : List Upd} {w : World} (h : Own B (.slice (some ⟨g, 0, none⟩) n cap) l w) {j : Nat} (hj : j < l.length) (u : Upd) :
    Own B (.slice (some ⟨g, 0, none⟩) n cap) (l.set j u) (((w.setCell ⟨g, j * 3, none⟩ (.int .i64 u.n)).setCell ⟨g, j * 3 + 1, none⟩ (.int .u64 u.i)).setCell ⟨g, j * 3 + 2, none⟩ (.int .i64 u.s)) := by
  unfold Own
  refine ⟨by rw [flat_length], Or.inr ?_⟩
  rcases h.2 with ⟨e, _⟩ | ⟨g', cap', cur, e, hB, hg, h1, h2, h3, h4⟩
  · cases e
  · cases e
    refine ⟨g, cap, ((cur.setIfInBounds (j * 3) (.int .i64 u.n)).setIfInBounds (j * 3 + 1) (.int .u64 u.i)).setIfInBounds (j * 3 + 2) (.int .i64 u.s), by rw [List.length_set], hB, by simp [World.setCell, Array.getElem?_modify, hg], by rw [List.length_set]; exact h1, h2, by simpa using h3, ?_⟩
    rw [List.length_set, ← flat_set l j u hj, ← h4]
    simp only [Array.toList_setIfInBounds, List.take_set]
theorem mem_swap (M : List Upd) (x : Nat) (h0 : 0 < M.length) (hx : x < M.length) (u : Upd) : u ∈ (M.set 0 M[x]).set x M[0] ↔ u ∈ M := by
  constructor
  · intro h
    rcases List.mem_or_eq_of_mem_set h with h | rfl
    · rcases List.mem_or_eq_of_mem_set h with h | rfl
      · exact h
      · exact List.getElem_mem hx
    · exact List.getElem_mem h0
  · intro h
    obtain ⟨i, hi, rfl⟩ := List.mem_iff_getElem.1 h
    by_cases hix : i = x
    · subst hix
      by_cases hi0 : i = 0
      · subst hi0
        exact List.mem_iff_getElem.2 ⟨0, by simpa using h0, by simp⟩
      · refine List.mem_iff_getElem.2 ⟨0, by simpa using h0, ?_⟩
        rw [List.getElem_set_ne (by omega)]
        simp
    · by_cases hi0 : i = 0
      · subst hi0
        exact List.mem_iff_getElem.2 ⟨x, by simpa using hx, by simp⟩
      · refine List.mem_iff_getElem.2 ⟨i, by simpa using hi, ?_⟩
        rw [List.getElem_set_ne (by omega), List.getElem_set_ne (by omega)]

/-! ## Bytes that came in -/

/-- The slice v reads as the bytes l. -/
def Rb (v : Value) (l : List Int) (w : World) : Prop :=
  ∃ a cap, v = .slice a l.length cap ∧ (l.length = 0 ∨ ∃ g off, a = some ⟨g, off, none⟩ ∧ ∀ j (hj : j < l.length), w.cell? ⟨g, off + j, none⟩ = some (.int .u8 l[j]))
def IsBytes (w : World) (a : Option Addr) (len cap : Nat) (l : List Int) : Prop := l.length = len ∧ Rb (.slice a len cap) l w ∧ ∀ x ∈ l, 0 ≤ x ∧ x ≤ 255
theorem Try.cells5 : Try.prog.cellsOf 5 = 1 := by kernel_rfl
theorem open_bytes_ {H : Type} {enc : TypeId × Value → H} {W : World} {a : Option Addr} {len cap : Nat} {d : DataW H} {ps : List MemPlace} (h : DataW.Trod enc Try.prog W 0 (fun _ => true) true 23 (.slice a len cap) d ps) : ∃ l, IsBytes W a len cap l := by
  obtain ⟨fuel, hf0⟩ := h
  have hf : DataW.trod enc Try.prog W 0 (fun _ => true) true fuel 23 [.slice a len cap] = some (d, ps) := hf0
  rcases open_ints Try.underlying23 Try.underlying5 Try.cells5 hf with ⟨hcs, _⟩ | ⟨a', len', cap', zs, hcs, _, h1, h2, h3, _, h4, h5⟩
  · simp at hcs
    obtain ⟨rfl, rfl, rfl⟩ := hcs
    exact ⟨[], rfl, ⟨_, _, rfl, Or.inl rfl⟩, fun n hn => by cases hn⟩
  · simp at hcs
    obtain ⟨rfl, rfl, rfl⟩ := hcs
    simp at h3
    have hl : (zs.take len).length = len := by rw [List.length_take]; omega
    refine ⟨zs.take len, hl, ⟨some a', cap, by rw [hl], ?_⟩, fun n hn => bounds_u8 (h5 n (List.mem_of_mem_take hn))⟩
    rcases Nat.eq_zero_or_pos len with h0 | h0
    · exact Or.inl (by omega)
    · right
      obtain ⟨b, off, spot⟩ := a'
      have hspot : spot = none := by
        have := h4 0 (by omega)
        simpa [Addr.add] using World.cell?_spot this
      subst hspot
      refine ⟨b, off, rfl, fun j hj => ?_⟩
      have := h4 j (by omega)
      rw [List.getElem_take]
      simp only [List.getD, List.getElem?_eq_getElem (show j < zs.length by omega), Option.getD_some] at this
      rw [← this]
      unfold Addr.add; split <;> simp_all
end Go.Proofs.Ytkodeahhckibmaa
