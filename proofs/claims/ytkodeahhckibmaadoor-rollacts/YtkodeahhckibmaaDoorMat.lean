/-
  Plain mathematics of what a roll knows: what is heard grows, what was heard is old, the order does not matter, merges of all that another one knows.
-/
import Derived.Test.YtkodeahhckibmaaDoorHal
namespace Go.Proofs.YtkodeahhckibmaaDoor
open Go.RowKit

theorem newer_iff (u v : Upd) : newerU u v = true ↔ (v.i < u.i ∨ (u.i = v.i ∧ v.s < u.s)) := by simp [newerU, newerS]
theorem newer_not (u v : Upd) : newerU u v = false ↔ ¬ (v.i < u.i ∨ (u.i = v.i ∧ v.s < u.s)) := by rw [← newer_iff]; simp
theorem may_iff (u : Upd) : mayU u = true ↔ (0 ≤ u.n ∧ u.n < 64 ∧ 0 ≤ u.s ∧ u.s ≤ 3) := by simp [mayU, mayS]
theorem ud_some (u : Upd) : ud (some u) = u := rfl
theorem upd_eq {u v : Upd} (h1 : u.n = v.n) (h2 : u.i = v.i) (h3 : u.s = v.s) : u = v := by
  obtain ⟨a, b, c⟩ := u
  obtain ⟨a', b', c'⟩ := v
  simp_all
/-- The newer one of what is known and what is told. -/
def up (o : Option Upd) (u : Upd) : Option Upd := if o.isSome && !newerU u (ud o) then o else some u
theorem up_none (u : Upd) : up none u = some u := rfl
theorem up_new {o : Option Upd} {u : Upd} (h : newerU u (ud o) = true) : up o u = some u := by simp [up, h]
theorem up_old {v u : Upd} (h : newerU u v = false) : up (some v) u = some v := by simp [up, ud, h]

/-- What is told has an incarnation that may be. -/
def InOk (u : Upd) : Prop := 0 ≤ u.i ∧ u.i ≤ 18446744073709551615

/-- What a roll of k always knows. -/
structure Inv (k : Nat) (f : Tab) : Prop where
  lt : k < 64
  mine : ∃ i, f k = some ⟨k, i, 0⟩
  may : ∀ j u, f j = some u → mayU u = true ∧ u.n = j ∧ InOk u

theorem hear_not (k : Nat) (f : Tab) {u : Upd} (h : mayU u = false) : hearS k f u = ((false, 1), f) := by simp [hearS, h]
theorem hear_own {k : Nat} {f : Tab} {i : Int} (hf : f k = some ⟨k, i, 0⟩) {u : Upd} (h : mayU u = true) (hn : u.n = k) :
    hearS k f u = if newerU u ⟨k, i, 0⟩ then (if u.i == 18446744073709551615 then ((false, 60), f) else ((false, 0), f.set k ⟨k, u.i + 1, 0⟩)) else ((false, 70), f) := by
  have e : denS k (ud (f k)).i u.n u.i u.s = newerU u ⟨k, i, 0⟩ := by
    unfold denS
    rw [hf, ud_some, hn]
    have : mayS (k : Int) u.s = true := by rw [← hn]; exact h
    rw [this]
    simp [newerU]
  have hb : (u.n == (k : Int)) = true := by simpa using hn
  unfold hearS refuteS
  rw [h, hb, e]
  cases newerU u ⟨k, i, 0⟩
  · rfl
  · cases (u.i == 18446744073709551615) <;> rfl
theorem hear_other {k : Nat} {f : Tab} {u : Upd} (h : mayU u = true) (hn : u.n ≠ k) :
    (hearS k f u).1.2 ≠ 60 ∧ ∀ j, (hearS k f u).2 j = if (j : Int) = u.n then up (f j) u else f j := by
  have h0 := (may_iff u).1 h
  have hb : (u.n == (k : Int)) = false := by simpa using hn
  simp only [hearS, h, if_true, hb, Bool.false_eq_true, if_false]
  have hj : ∀ j : Nat, (j : Int) = u.n ↔ j = u.n.toNat := fun j => by omega
  split
  · rename_i h1
    refine ⟨by simp, fun j => ?_⟩
    dsimp only
    split
    · rename_i h2
      rw [(hj j).1 h2]
      unfold up; rw [if_pos h1]
    · rfl
  · rename_i h1
    refine ⟨by simp, fun j => ?_⟩
    dsimp only
    split
    · rename_i h2
      rw [(hj j).1 h2, Tab.set_same]
      unfold up; rw [if_neg h1]
    · rename_i h2
      rw [Tab.set_other _ _ (fun e => h2 ((hj j).2 e))]

/-- g knows what f knows, or newer. -/
def Grow (f g : Tab) : Prop := ∀ j, g j = f j ∨ ∃ u, g j = some u ∧ (f j = none ∨ newerU u (ud (f j)) = true)
theorem Grow.refl (f : Tab) : Grow f f := fun _ => Or.inl rfl
theorem newer_trans {u v x : Upd} (h1 : newerU u v = true) (h2 : newerU v x = true) : newerU u x = true := by rw [newer_iff] at *; omega
theorem Grow.trans {f g h : Tab} (a : Grow f g) (b : Grow g h) : Grow f h := fun j => by
  rcases b j with e | ⟨u, e, hu⟩
  · rw [e]; exact a j
  · right
    refine ⟨u, e, ?_⟩
    rcases a j with e' | ⟨v, e', hv⟩
    · rw [e'] at hu; exact hu
    · rcases hu with hu | hu
      · rw [e'] at hu; cases hu
      · rcases hv with hv | hv
        · exact Or.inl hv
        · rw [e', ud_some] at hu
          exact Or.inr (newer_trans hu hv)
theorem grow_up (o : Option Upd) (u : Upd) : up o u = o ∨ ∃ v, up o u = some v ∧ (o = none ∨ newerU v (ud o) = true) := by
  cases o with
  | none => exact Or.inr ⟨u, rfl, Or.inl rfl⟩
  | some v =>
    cases h : newerU u v
    · exact Or.inl (up_old h)
    · exact Or.inr ⟨u, up_new h, Or.inr h⟩

theorem hear_grow {k : Nat} {f : Tab} (hI : Inv k f) (u : Upd) : Grow f (hearS k f u).2 := by
  cases hm : mayU u
  · rw [hear_not k f hm]; exact Grow.refl _
  · by_cases hn : u.n = k
    · obtain ⟨i, hi⟩ := hI.mine
      rw [hear_own hi hm hn]
      split
      · rename_i h1
        split
        · exact Grow.refl _
        · intro j
          by_cases hj : j = k
          · subst hj
            right
            refine ⟨_, Tab.set_same _ _ _, Or.inr ?_⟩
            rw [hi, ud_some, newer_iff]
            rw [newer_iff] at h1
            dsimp only at h1 ⊢
            omega
          · exact Or.inl (Tab.set_other _ _ hj)
      · exact Grow.refl _
    · intro j
      rw [(hear_other hm hn).2 j]
      split
      · exact grow_up _ _
      · exact Or.inl rfl
theorem hear_inv {k : Nat} {f : Tab} (hI : Inv k f) {u : Upd} (hu : InOk u) : Inv k (hearS k f u).2 := by
  cases hm : mayU u
  · rw [hear_not k f hm]; exact hI
  · have h0 := (may_iff u).1 hm
    by_cases hn : u.n = k
    · obtain ⟨i, hi⟩ := hI.mine
      rw [hear_own hi hm hn]
      split
      · split
        · exact hI
        · rename_i h2
          have h2 : u.i ≠ 18446744073709551615 := by simpa using h2
          refine ⟨hI.lt, ⟨u.i + 1, Tab.set_same _ _ _⟩, fun j v hv => ?_⟩
          dsimp only at hv
          by_cases hj : j = k
          · subst hj
            rw [Tab.set_same] at hv
            cases hv
            refine ⟨(may_iff _).2 ?_, rfl, ?_⟩
            · dsimp only; omega
            · unfold InOk at *; dsimp only; omega
          · rw [Tab.set_other _ _ hj] at hv; exact hI.may j v hv
      · exact hI
    · have hk : ¬ ((k : Int) = u.n) := fun e => hn e.symm
      refine ⟨hI.lt, ?_, fun j v hv => ?_⟩
      · obtain ⟨i, hi⟩ := hI.mine
        exact ⟨i, by rw [(hear_other hm hn).2 k, if_neg hk]; exact hi⟩
      · rw [(hear_other hm hn).2 j] at hv
        split at hv
        · rename_i hj
          unfold up at hv
          split at hv
          · exact hI.may j v hv
          · cases hv; exact ⟨hm, hj.symm, hu⟩
        · exact hI.may j v hv

theorem hearAll_inv {k : Nat} (l : List Upd) : ∀ {f : Tab}, Inv k f → (∀ u ∈ l, InOk u) → Inv k (hearAllS k f l).2 := by
  induction l with
  | nil => intro f h _; exact h
  | cons u l ih =>
    intro f h hu
    have h1 := hear_inv h (hu u (List.mem_cons_self ..))
    unfold hearAllS
    split
    · exact h1
    · exact ih h1 (fun v hv => hu v (List.mem_cons_of_mem _ hv))
theorem hearAll_grow {k : Nat} (l : List Upd) : ∀ {f : Tab}, Inv k f → (∀ u ∈ l, InOk u) → Grow f (hearAllS k f l).2 := by
  induction l with
  | nil => intro f _ _; exact Grow.refl _
  | cons u l ih =>
    intro f h hu
    have h1 := hear_inv h (hu u (List.mem_cons_self ..))
    have h2 := hear_grow h u
    unfold hearAllS
    split
    · exact h2
    · exact h2.trans (ih h1 (fun v hv => hu v (List.mem_cons_of_mem _ hv)))
theorem hearAll_code {k : Nat} (l : List Upd) : ∀ (f : Tab), (hearAllS k f l).1 = 0 ∨ (hearAllS k f l).1 = 60 := by
  induction l with
  | nil => intro f; exact Or.inl rfl
  | cons u l ih =>
    intro f
    unfold hearAllS
    split
    · exact Or.inr rfl
    · exact ih _

/-- What is known is no older. -/
def Old (f : Tab) (u : Upd) : Prop := mayU u = true → ∃ v, f u.n.toNat = some v ∧ newerU u v = false
theorem Old.grow {f g : Tab} {u : Upd} (h : Old f u) (hg : Grow f g) : Old g u := fun hm => by
  obtain ⟨v, hv, hn⟩ := h hm
  rcases hg u.n.toNat with e | ⟨x, e, hx⟩
  · exact ⟨v, e.trans hv, hn⟩
  · refine ⟨x, e, ?_⟩
    rw [hv] at hx
    rcases hx with hx | hx
    · cases hx
    · rw [ud_some, newer_iff] at hx
      rw [newer_not] at hn ⊢
      omega
theorem hear_old {k : Nat} {f : Tab} (hI : Inv k f) {u : Upd} (h : Old f u) : (hearS k f u).2 = f ∧ ((hearS k f u).1.2 == 60) = false := by
  cases hm : mayU u
  · rw [hear_not k f hm]; exact ⟨rfl, rfl⟩
  · obtain ⟨v, hv, hn⟩ := h hm
    have h0 := (may_iff u).1 hm
    by_cases hk : u.n = k
    · obtain ⟨i, hi⟩ := hI.mine
      rw [hk, Int.toNat_natCast, hi] at hv
      cases hv
      rw [hear_own hi hm hk, hn]
      exact ⟨rfl, rfl⟩
    · have ho := hear_other (f := f) hm hk
      refine ⟨funext fun j => ?_, by simpa using ho.1⟩
      rw [ho.2 j]
      split
      · rename_i hj
        have : j = u.n.toNat := by omega
        rw [this, hv]; exact up_old hn
      · rfl
theorem newer_irrefl (u : Upd) : newerU u u = false := by rw [newer_not]; omega
theorem hear_makes_old {k : Nat} {f : Tab} (hI : Inv k f) {u : Upd} (h : ((hearS k f u).1.2 == 60) = false) : Old (hearS k f u).2 u := fun hm => by
  have h0 := (may_iff u).1 hm
  by_cases hk : u.n = k
  · obtain ⟨i, hi⟩ := hI.mine
    rw [hear_own hi hm hk] at h ⊢
    cases hn : newerU u ⟨k, i, 0⟩
    · simp only [Bool.false_eq_true, if_false]
      exact ⟨_, by rw [hk]; exact hi, hn⟩
    · rw [hn] at h
      simp only [if_true] at h ⊢
      split at h
      · simp at h
      · rename_i h2
        rw [if_neg h2]
        refine ⟨_, by rw [hk]; exact Tab.set_same _ _ _, ?_⟩
        rw [newer_not]
        dsimp only
        omega
  · have ho := hear_other (f := f) hm hk
    rw [ho.2]
    rw [if_pos (by omega)]
    unfold up
    split
    · rename_i h1
      cases hf : f u.n.toNat with
      | none => rw [hf] at h1; simp at h1
      | some v =>
        rw [hf] at h1
        exact ⟨v, rfl, by simpa [ud] using h1⟩
    · exact ⟨u, rfl, newer_irrefl u⟩
theorem hearAll_old {k : Nat} (l : List Upd) : ∀ {f : Tab}, Inv k f → (∀ u ∈ l, InOk u) → (hearAllS k f l).1 = 0 → ∀ u ∈ l, Old (hearAllS k f l).2 u := by
  induction l with
  | nil => intro f _ _ _ u hu; cases hu
  | cons u l ih =>
    intro f h hu hc v hv
    have h1 := hear_inv h (hu u (List.mem_cons_self ..))
    have hu' : ∀ v ∈ l, InOk v := fun v hv => hu v (List.mem_cons_of_mem _ hv)
    unfold hearAllS at hc ⊢
    split at hc
    · cases hc
    · rename_i h2
      rw [if_neg h2]
      rcases List.mem_cons.1 hv with rfl | hv
      · exact (hear_makes_old h (by simpa using h2)).grow (hearAll_grow l h1 hu')
      · exact ih h1 hu' hc v hv
theorem hearAll_stay {k : Nat} (l : List Upd) : ∀ {f : Tab}, Inv k f → (∀ u ∈ l, Old f u) → hearAllS k f l = (0, f) := by
  induction l with
  | nil => intro f _ _; rfl
  | cons u l ih =>
    intro f h hu
    obtain ⟨h1, h2⟩ := hear_old h (hu u (List.mem_cons_self ..))
    unfold hearAllS
    rw [h2, h1]
    exact ih h (fun v hv => hu v (List.mem_cons_of_mem _ hv))

theorem mem_pick (f : Tab) (b : Nat → Bool) (u : Upd) : ∀ n, u ∈ pickN f b n → ∃ j, j < n ∧ b j = true ∧ u = ud (f j) := by
  intro n
  induction n with
  | zero => intro h; cases h
  | succ n ih =>
    intro h
    simp only [pickN, List.mem_append] at h
    rcases h with h | h
    · obtain ⟨j, h1, h2, h3⟩ := ih h
      exact ⟨j, by omega, h2, h3⟩
    · cases hb : b n
      · rw [hb] at h; simp at h
      · rw [hb] at h
        simp at h
        exact ⟨n, by omega, hb, h⟩
theorem pick_ext (f g : Tab) (b c : Nat → Bool) : ∀ n, (∀ j, j < n → b j = c j ∧ f j = g j) → pickN f b n = pickN g c n := by
  intro n
  induction n with
  | zero => intro _; rfl
  | succ n ih =>
    intro h
    simp only [pickN]
    rw [ih (fun j hj => h j (by omega)), (h n (by omega)).1, (h n (by omega)).2]
theorem pick_none (f : Tab) (b : Nat → Bool) : ∀ n, (∀ j, j < n → b j = false) → pickN f b n = [] := by
  intro n
  induction n with
  | zero => intro _; rfl
  | succ n ih => intro h; simp only [pickN]; rw [ih (fun j hj => h j (by omega)), h n (by omega)]; rfl
theorem all_mem {f : Tab} {u : Upd} (h : u ∈ allS f) : ∃ j, j < 64 ∧ f j = some u := by
  obtain ⟨j, h1, h2, h3⟩ := mem_pick _ _ _ _ h
  obtain ⟨v, hv⟩ := Option.isSome_iff_exists.1 h2
  rw [hv, ud_some] at h3
  exact ⟨j, h1, by rw [hv, h3]⟩
theorem all_ok {k : Nat} {f : Tab} (hI : Inv k f) : ∀ u ∈ allS f, InOk u := fun u hu => by
  obtain ⟨j, _, h⟩ := all_mem hu
  exact (hI.may j u h).2.2
theorem all_old {k : Nat} {f : Tab} (hI : Inv k f) : ∀ u ∈ allS f, Old f u := fun u hu hm => by
  obtain ⟨j, _, h⟩ := all_mem hu
  obtain ⟨_, h2, _⟩ := hI.may j u h
  exact ⟨u, by rw [h2]; exact h, newer_irrefl u⟩
theorem ne_self (o : Option Upd) : neE o o = false := by simp [neE, eqU]
theorem ne_not {o p : Option Upd} (h : neE o p = false) : o = p := by
  cases o <;> cases p <;> simp [neE, eqU, ud] at h ⊢
  · exact upd_eq h.1 h.2.1 h.2.2
theorem news_self (f : Tab) : pickN f (fun j => neE (f j) (f j)) 64 = [] := pick_none _ _ _ fun _ _ => ne_self _
theorem inv_new {k : Nat} (hk : k < 64) : Inv k (newS k) := ⟨hk, ⟨0, Tab.set_same _ _ _⟩, fun j u h => by
  by_cases e : j = k
  · subst e
    unfold newS at h
    rw [Tab.set_same] at h
    cases h
    refine ⟨(may_iff _).2 ?_, rfl, ?_⟩
    · dsimp only; omega
    · unfold InOk; dsimp only; omega
  · unfold newS at h
    rw [Tab.set_other _ _ e] at h
    cases h⟩
end Go.Proofs.YtkodeahhckibmaaDoor
