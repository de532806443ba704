/-
  The best of what is told of one node: it is one of it, nothing is newer; so in whatever order it is told it is the same.
-/
import Derived.Test.YtjhpbnijjdmclaaHea
namespace Go.Proofs.Ytjhpbnijjdmclaa

theorem newerU_asym {u v : Upd} (h : newerU u v = true) : newerU v u = false := by
  simp [newerU, newerS] at h ⊢; omega
/-- What is not newer than b is not newer than what is newer than b. -/
theorem newerU_up {u v b : Upd} (h : newerU u b = false) (h' : newerU v b = true) : newerU u v = false := by
  simp [newerU, newerS] at h h' ⊢; omega
theorem newerU_same {u v : Upd} (h : newerU u v = false) (h' : newerU v u = false) (hn : u.n = v.n) : u = v := by
  obtain ⟨n, i, s⟩ := u
  obtain ⟨m, j, t⟩ := v
  simp [newerU, newerS] at h h' hn
  simp only [Upd.mk.injEq]
  omega
theorem newerU_irr (u : Upd) : newerU u u = false := by simp [newerU, newerS]

/-- What the best so far is, of the updates l of one node. -/
structure Bst (b : Upd × Bool) (l : List Upd) : Prop where
  none : b.2 = false → b.1 = ⟨0, 0, 0⟩ ∧ ∀ u ∈ l, mayU u = false
  one : b.2 = true → b.1 ∈ l ∧ mayU b.1 = true ∧ ∀ u ∈ l, mayU u = true → newerU u b.1 = false

theorem Bst.step {b : Upd × Bool} {l : List Upd} (h : Bst b l) (u : Upd) (c : Int) (hl : ∀ v ∈ l, v.n = c) (hu : u.n = c) : Bst (stepS b u) (l ++ [u]) := by
  obtain ⟨b, f⟩ := b
  cases hm : mayU u
  · have e : stepS (b, f) u = (b, f) := by simp [stepS, hm]
    rw [e]
    refine ⟨fun hf => ⟨(h.none hf).1, fun v hv => ?_⟩, fun hf => ⟨by simp [(h.one hf).1], (h.one hf).2.1, fun v hv hmv => ?_⟩⟩
    · rcases List.mem_append.1 hv with hv | hv
      · exact (h.none hf).2 v hv
      · rw [List.mem_singleton.1 hv]; exact hm
    · rcases List.mem_append.1 hv with hv | hv
      · exact (h.one hf).2.2 v hv hmv
      · rw [List.mem_singleton.1 hv, hm] at hmv; cases hmv
  · cases f
    · have e : stepS (b, false) u = (u, true) := by simp [stepS, hm, hearS]
      rw [e]
      refine ⟨fun hf => (by cases hf), fun _ => ⟨by simp, hm, fun v hv hmv => ?_⟩⟩
      rcases List.mem_append.1 hv with hv | hv
      · rw [(h.none rfl).2 v hv] at hmv; cases hmv
      · rw [List.mem_singleton.1 hv]; exact newerU_irr u
    · obtain ⟨h1, h2, h3⟩ := h.one rfl
      have hn : (u.n == b.n) = true := by rw [hu, hl b h1]; simp
      cases hN : newerU u b
      · have e : stepS (b, true) u = (b, true) := by simp [stepS, hm, hearS, hn, hN]
        rw [e]
        refine ⟨fun hf => (by cases hf), fun _ => ⟨by simp [h1], h2, fun v hv hmv => ?_⟩⟩
        rcases List.mem_append.1 hv with hv | hv
        · exact h3 v hv hmv
        · rw [List.mem_singleton.1 hv]; exact hN
      · have e : stepS (b, true) u = (u, true) := by simp [stepS, hm, hearS, hn, hN]
        rw [e]
        refine ⟨fun hf => (by cases hf), fun _ => ⟨by simp, hm, fun v hv hmv => ?_⟩⟩
        rcases List.mem_append.1 hv with hv | hv
        · exact newerU_up (h3 v hv hmv) hN
        · rw [List.mem_singleton.1 hv]; exact newerU_irr u

theorem Bst.fold (c : Int) : ∀ (r l : List Upd) (b : Upd × Bool), Bst b l → (∀ v ∈ l, v.n = c) → (∀ v ∈ r, v.n = c) → Bst (r.foldl stepS b) (l ++ r)
  | [], l, b, h, _, _ => by simpa using h
  | u :: r, l, b, h, hl, hr => by
    have := Bst.fold c r (l ++ [u]) (stepS b u) (h.step u c hl (hr u (by simp))) (fun v hv => by
      rcases List.mem_append.1 hv with hv | hv
      · exact hl v hv
      · rw [List.mem_singleton.1 hv]; exact hr u (by simp)) (fun v hv => hr v (by simp [hv]))
    simpa using this

theorem bestS_is (l : List Upd) (c : Int) (hl : ∀ v ∈ l, v.n = c) : Bst (bestS l) l := by
  have := Bst.fold c l [] (⟨0, 0, 0⟩, false) ⟨fun _ => ⟨rfl, fun u hu => (by cases hu)⟩, fun h => (by cases h)⟩ (fun v hv => (by cases hv)) hl
  simpa [bestS] using this

theorem bestS_found (l : List Upd) (c : Int) (hl : ∀ v ∈ l, v.n = c) : (bestS l).2 = l.any mayU := by
  have h := bestS_is l c hl
  cases hf : (bestS l).2
  · symm
    rw [List.any_eq_false]
    intro u hu
    rw [(h.none hf).2 u hu]; simp
  · symm
    rw [List.any_eq_true]
    exact ⟨_, (h.one hf).1, (h.one hf).2.1⟩

theorem bestS_perm (l r : List Upd) (c : Int) (hl : ∀ v ∈ l, v.n = c) (hp : ∀ u, u ∈ l ↔ u ∈ r) : bestS r = bestS l := by
  have hr : ∀ v ∈ r, v.n = c := fun v hv => hl v ((hp v).2 hv)
  have h1 := bestS_is l c hl
  have h2 := bestS_is r c hr
  have e2 : (bestS r).2 = (bestS l).2 := by
    cases hf : (bestS l).2
    · cases hg : (bestS r).2
      · rfl
      · have := (h1.none hf).2 _ ((hp _).2 (h2.one hg).1)
        rw [(h2.one hg).2.1] at this; cases this
    · cases hg : (bestS r).2
      · have := (h2.none hg).2 _ ((hp _).1 (h1.one hf).1)
        rw [(h1.one hf).2.1] at this; cases this
      · rfl
  refine Prod.ext ?_ e2
  cases hf : (bestS l).2
  · rw [(h1.none hf).1, (h2.none (e2.trans hf)).1]
  · obtain ⟨a1, a2, a3⟩ := h1.one hf
    obtain ⟨b1, b2, b3⟩ := h2.one (e2.trans hf)
    exact newerU_same (a3 _ ((hp _).2 b1) b2) (b3 _ ((hp _).1 a1) a2) (by rw [hr _ b1, hl _ a1])
theorem bestS_rot (l : List Upd) (c : Int) (hl : ∀ v ∈ l, v.n = c) (k : Nat) : bestS (l.drop k ++ l.take k) = bestS l := by
  refine bestS_perm l _ c hl fun u => ?_
  constructor
  · intro h
    rw [← List.take_append_drop k l] at h
    rcases List.mem_append.1 h with h | h
    · exact List.mem_append.2 (Or.inr h)
    · exact List.mem_append.2 (Or.inl h)
  · intro h
    rcases List.mem_append.1 h with h | h
    · exact List.mem_of_mem_drop h
    · exact List.mem_of_mem_take h
theorem bestS_top (l : List Upd) (c : Int) (hl : ∀ v ∈ l, v.n = c) (u : Upd) (hu : u ∈ l) (hm : mayU u = true) : newerU u (bestS l).1 = false := by
  have h := bestS_is l c hl
  cases hf : (bestS l).2
  · rw [(h.none hf).2 u hu] at hm; cases hm
  · exact (h.one hf).2.2 u hu hm
theorem any_take (l : List Upd) (k : Nat) (hk : k < l.length) : (l.take (k + 1)).any mayU = ((l.take k).any mayU || mayU l[k]) := by
  rw [List.take_add_one, List.getElem?_eq_getElem hk, List.any_append]
  simp
end Go.Proofs.Ytjhpbnijjdmclaa
