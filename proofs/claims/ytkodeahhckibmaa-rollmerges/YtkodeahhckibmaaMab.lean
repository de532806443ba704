/-
  Mathematics of merges: all that another roll knows, or news of it.
-/
import Derived.Test.YtkodeahhckibmaaTwo
namespace Go.Proofs.Ytkodeahhckibmaa
open Go.RowKit

theorem hearAll_cons (k : Nat) (f : Tab) (u : Upd) (l : List Upd) : hearAllS k f (u :: l) = if (hearS k f u).1.2 == 60 then (60, (hearS k f u).2) else hearAllS k (hearS k f u).2 l := rfl
theorem hearAll_append {k : Nat} (l m : List Upd) : ∀ {f : Tab}, (hearAllS k f l).1 = 0 → hearAllS k f (l ++ m) = hearAllS k (hearAllS k f l).2 m := by
  induction l with
  | nil => intro f _; rfl
  | cons u l ih =>
    intro f h
    rw [List.cons_append, hearAll_cons, hearAll_cons k f u l]
    rw [hearAll_cons] at h
    split at h
    · cases h
    · rename_i h2
      rw [if_neg h2, if_neg h2]
      exact ih h
theorem hearAll_at {k : Nat} (l : List Upd) {j : Nat} (hj : j ≠ k) : ∀ {f : Tab}, Inv k f → (∀ u ∈ l, InOk u ∧ u.n ≠ j) → (hearAllS k f l).2 j = f j := by
  have key : ∀ {f : Tab}, Inv k f → ∀ u : Upd, u.n ≠ j → (hearS k f u).2 j = f j := by
    intro f hI u hu
    cases hm : mayU u
    · rw [hear_not _ _ hm]
    · by_cases hk : u.n = k
      · obtain ⟨i, hi⟩ := hI.mine
        rw [hear_own hi hm hk]
        split
        · split
          · rfl
          · exact Tab.set_other _ _ hj
        · rfl
      · rw [(hear_other hm hk).2 j, if_neg (fun e => hu e.symm)]
  induction l with
  | nil => intro f _ _; rfl
  | cons u l ih =>
    intro f h hu
    have hu0 := hu u (List.mem_cons_self ..)
    have h1 := key h u hu0.2
    unfold hearAllS
    split
    · exact h1
    · exact (ih (hear_inv h hu0.1) (fun v hv => hu v (List.mem_cons_of_mem _ hv))).trans h1

/-- What is known behind a merge of what g knows of the nodes b. -/
theorem hear_pick {k : Nat} {f g : Tab} (hI : Inv k f) (b : Nat → Bool) : ∀ n, n ≤ 64 →
    (∀ j, j < n → b j = true → ∃ u, g j = some u ∧ mayU u = true ∧ u.n = j ∧ InOk u ∧ (j = k → f k = some u)) →
    (hearAllS k f (pickN g b n)).1 = 0 ∧ Inv k (hearAllS k f (pickN g b n)).2 ∧ ∀ j, (hearAllS k f (pickN g b n)).2 j = if j < n ∧ b j = true then up (f j) (ud (g j)) else f j := by
  intro n
  induction n with
  | zero => intro _ _; exact ⟨rfl, hI, fun j => by rw [if_neg (by omega)]; rfl⟩
  | succ n ih =>
    intro hn hb
    obtain ⟨h1, h2, h3⟩ := ih (by omega) (fun j hj => hb j (by omega))
    simp only [pickN]
    rw [hearAll_append _ _ h1]
    generalize (hearAllS k f (pickN g b n)).2 = h at *
    have hfn : h n = f n := by rw [h3 n, if_neg (by omega)]
    cases hbn : b n
    · simp only [Bool.false_eq_true, if_false]
      refine ⟨rfl, h2, fun j => ?_⟩
      show h j = _
      rw [h3 j]
      by_cases hj : j = n
      · subst hj; rw [if_neg (by omega), if_neg (by rw [hbn]; simp)]
      · by_cases hj' : j < n ∧ b j = true
        · rw [if_pos hj', if_pos ⟨by omega, hj'.2⟩]
        · rw [if_neg hj', if_neg (fun e => hj' ⟨by omega, e.2⟩)]
    · simp only [if_true]
      obtain ⟨u, hu, hm, hun, hok, hk⟩ := hb n (by omega) hbn
      rw [hu, ud_some]
      have hlast : ∀ j, (if j < n + 1 ∧ b j = true then up (f j) (ud (g j)) else f j) = if j = n then up (f n) u else h j := by
        intro j
        by_cases hj : j = n
        · subst hj; rw [if_pos ⟨by omega, hbn⟩, if_pos rfl, hu, ud_some]
        · rw [if_neg hj, h3 j]
          by_cases hj' : j < n ∧ b j = true
          · rw [if_pos hj', if_pos ⟨by omega, hj'.2⟩]
          · rw [if_neg hj', if_neg (fun e => hj' ⟨by omega, e.2⟩)]
      by_cases hnk : n = k
      · have hf : f n = some u := by rw [hnk]; exact hk hnk
        have ho : ∀ v ∈ [u], Old h v := fun v hv => by
          rw [List.mem_singleton.1 hv]
          exact fun _ => ⟨u, by rw [hun, Int.toNat_natCast, hfn, hf], newer_irrefl u⟩
        rw [hearAll_stay [u] h2 ho]
        refine ⟨rfl, h2, fun j => ?_⟩
        rw [hlast j]
        show h j = _
        by_cases hj : j = n
        · subst hj; rw [if_pos rfl, hfn, hf, up_old (newer_irrefl u)]
        · rw [if_neg hj]
      · have hun' : u.n ≠ k := by omega
        obtain ⟨h4, h5⟩ := hear_other (f := h) hm hun'
        have e : hearAllS k h [u] = (0, (hearS k h u).2) := by
          unfold hearAllS
          rw [if_neg (by simpa using h4)]
          rfl
        rw [e]
        refine ⟨rfl, hear_inv h2 hok, fun j => ?_⟩
        rw [hlast j, h5 j, hun]
        by_cases hj : j = n
        · subst hj; rw [if_pos rfl, if_pos rfl, hfn]
        · rw [if_neg hj, if_neg (by omega)]

theorem inv_out {k : Nat} {f : Tab} (hI : Inv k f) {j : Nat} (hj : 64 ≤ j) : f j = none := by
  cases h : f j with
  | none => rfl
  | some u =>
    obtain ⟨h1, h2, _⟩ := hI.may j u h
    have := (may_iff u).1 h1
    omega
theorem hear_all {k o : Nat} {f g : Tab} (hI : Inv k f) (hG : Inv o g) (hk : g k = none ∨ g k = f k) :
    (hearAllS k f (allS g)).1 = 0 ∧ Inv k (hearAllS k f (allS g)).2 ∧ ∀ j, (hearAllS k f (allS g)).2 j = if (g j).isSome then up (f j) (ud (g j)) else f j := by
  unfold allS
  obtain ⟨h1, h2, h3⟩ := hear_pick hI (g := g) (fun j => (g j).isSome) 64 (Nat.le_refl _) (fun j _ hj => by
    obtain ⟨u, hu⟩ := Option.isSome_iff_exists.1 hj
    obtain ⟨a, b, c⟩ := hG.may j u hu
    exact ⟨u, hu, a, b, c, fun e => by
      subst e
      rcases hk with hk | hk
      · rw [hk] at hu; cases hu
      · rw [← hk]; exact hu⟩)
  refine ⟨h1, h2, fun j => (h3 j).trans ?_⟩
  by_cases hj : j < 64
  · simp [hj]
  · rw [inv_out hG (by omega)]
    simp

/-- Behind one merge each way both know the same. -/
theorem both_step {k o : Nat} {f g : Tab} (hI : Inv k f) (hG : Inv o g) (hk : g k = none) (ho : f o = none) :
    hearAllS o g (allS (hearAllS k f (allS g)).2) = (0, (hearAllS k f (allS g)).2) := by
  obtain ⟨_, h2, h3⟩ := hear_all hI hG (Or.inl hk)
  generalize (hearAllS k f (allS g)).2 = f' at *
  have hfo : f' o = g o := by
    obtain ⟨i, hi⟩ := hG.mine
    rw [h3 o, hi, ho]; rfl
  obtain ⟨a, b, c⟩ := hear_all hG h2 (Or.inr hfo)
  refine Prod.ext a (funext fun j => ?_)
  show _ = f' j
  rw [c j]
  cases hf : f' j with
  | none =>
    have := h3 j
    rw [hf] at this
    cases hg : g j with
    | none => rfl
    | some x =>
      rw [hg] at this
      simp only [Option.isSome_some, if_true] at this
      unfold up at this
      split at this
      · rename_i h4
        rw [← this] at h4
        simp at h4
      · cases this
  | some u =>
    simp only [Option.isSome_some, if_true, ud_some]
    refine up_max ?_
    cases hg : g j with
    | none => exact Or.inl rfl
    | some x =>
      right
      refine ⟨x, rfl, ?_, ?_⟩
      · rw [(hG.may j x hg).2.1, (h2.may j u hf).2.1]
      · have := h3 j
        rw [hf, hg] at this
        simp only [Option.isSome_some, if_true, ud_some] at this
        cases hfj : f j with
        | none =>
          rw [hfj] at this
          cases this
          exact newer_irrefl _
        | some y =>
          rw [hfj] at this
          cases hn : newerU x y
          · rw [up_old hn] at this
            cases this
            exact hn
          · rw [up_new hn] at this
            cases this
            exact newer_irrefl _

theorem both_round {k o : Nat} {f g : Tab} (hI : Inv k f) (hG : Inv o g) (h : (f o = none ∧ g k = none) ∨ f = g) :
    ∃ f', hearAllS k f (allS g) = (0, f') ∧ hearAllS o g (allS f') = (0, f') ∧ Inv k f' ∧ Inv o f' := by
  rcases h with ⟨h1, h2⟩ | rfl
  · have b1 := hear_all hI hG (Or.inl h2)
    have b2 := both_step hI hG h2 h1
    generalize hearAllS k f (allS g) = r at *
    obtain ⟨e, f'⟩ := r
    dsimp only at b1 b2
    have b3 := hearAll_inv (allS f') hG (all_ok b1.2.1)
    rw [b2] at b3
    exact ⟨f', by rw [b1.1], b2, b1.2.1, b3⟩
  · exact ⟨f, hearAll_stay _ hI (all_old hI), hearAll_stay _ hG (all_old hG), hI, hG⟩

/-- News are all that another roll needs. -/
theorem news_step {k o : Nat} {f1 f2 g : Tab} (h2 : Inv k f2) (hG : Inv o g) (hgr : Grow f1 f2) (ho2 : f2 o = none) (hg : ∀ j, j ≠ o → g j = f1 j) :
    (hearAllS o g (newsS f1 f2 0)).1 = 0 ∧ ∀ j, j ≠ o → (hearAllS o g (newsS f1 f2 0)).2 j = f2 j := by
  have hne : ∀ j, neE (f2 j) (f1 j) = true → ∃ u, f2 j = some u ∧ (f1 j = none ∨ newerU u (ud (f1 j)) = true) := by
    intro j hj
    rcases hgr j with e | h
    · rw [e, ne_self] at hj; cases hj
    · exact h
  have e : newsS f1 f2 0 = pickN f2 (fun j => neE (f2 j) (f1 j)) 64 := rfl
  rw [e]
  obtain ⟨a, _, c⟩ := hear_pick hG (g := f2) (fun j => neE (f2 j) (f1 j)) 64 (Nat.le_refl _) (fun j _ hj => by
    obtain ⟨u, hu, _⟩ := hne j hj
    obtain ⟨p, q, r⟩ := h2.may j u hu
    exact ⟨u, hu, p, q, r, fun e => by subst e; rw [ho2] at hu; cases hu⟩)
  refine ⟨a, fun j hj => (c j).trans ?_⟩
  rw [hg j hj]
  cases hn : neE (f2 j) (f1 j)
  · rw [if_neg (by simp)]
    exact (ne_not hn).symm
  · obtain ⟨u, hu, hv⟩ := hne j hn
    by_cases hj64 : j < 64
    · rw [if_pos ⟨hj64, rfl⟩, hu, ud_some]
      rcases hv with hv | hv
      · rw [hv]; rfl
      · exact up_new hv
    · rw [inv_out h2 (by omega)] at hu; cases hu
end Go.Proofs.Ytkodeahhckibmaa
