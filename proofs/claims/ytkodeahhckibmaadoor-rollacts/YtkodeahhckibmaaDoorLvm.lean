/-
  Mathematics of who is live.
-/
import Derived.Test.YtkodeahhckibmaaDoorOth
namespace Go.Proofs.YtkodeahhckibmaaDoor
open Go.RowKit

theorem pick_sorted (f : Tab) (b : Nat → Bool) (h : ∀ j, b j = true → (ud (f j)).n = j) : ∀ n, (pickN f b n).Pairwise (fun u v => u.n < v.n) ∧ ∀ u ∈ pickN f b n, u.n < n := by
  intro n
  induction n with
  | zero => exact ⟨List.Pairwise.nil, fun u hu => by cases hu⟩
  | succ n ih =>
    simp only [pickN]
    cases hb : b n
    · simp only [Bool.false_eq_true, if_false, List.append_nil]
      exact ⟨ih.1, fun u hu => by have := ih.2 u hu; omega⟩
    · simp only [if_true]
      have hn := h n hb
      refine ⟨List.pairwise_append.2 ⟨ih.1, List.pairwise_singleton _ _, fun u hu v hv => ?_⟩, fun u hu => ?_⟩
      · rw [List.mem_singleton.1 hv, hn]; exact ih.2 u hu
      · rcases List.mem_append.1 hu with hu | hu
        · have := ih.2 u hu; omega
        · rw [List.mem_singleton.1 hu, hn]; omega
theorem all_sorted {k : Nat} {f : Tab} (hI : Inv k f) {i : Nat} (h0 : 0 < i) (hi : i < (allS f).length) : (allS f)[i - 1].n < (allS f)[i].n := by
  have : (allS f).Pairwise (fun u v => u.n < v.n) := (pick_sorted f (fun j => (f j).isSome) (fun j hj => by
    obtain ⟨u, hu⟩ := Option.isSome_iff_exists.1 hj
    rw [hu, ud_some]
    exact (hI.may j u hu).2.1) 64).1
  exact List.pairwise_iff_getElem.1 this (i - 1) i (by omega) hi (by omega)
theorem all_get {k : Nat} {f : Tab} (hI : Inv k f) {u : Upd} (h : u ∈ allS f) : getS f u.n = some u ∧ 0 ≤ u.n ∧ u.n < 64 ∧ 0 ≤ u.s := by
  obtain ⟨j, hj, hu⟩ := all_mem h
  obtain ⟨h1, h2, _⟩ := hI.may j u hu
  have h3 := (may_iff u).1 h1
  refine ⟨?_, h3.1, h3.2.1, h3.2.2.1⟩
  unfold getS
  rw [if_pos (by omega), h2, Int.toNat_natCast]
  exact hu
theorem live_lt {s : Int} (h0 : 0 ≤ s) (h : s < 2) : liveS s = true := by
  have : s = 0 ∨ s = 1 := by omega
  rcases this with rfl | rfl <;> rfl
theorem live_ge {s : Int} (h : ¬ s < 2) : liveS s = false := by
  unfold liveS
  have h1 : (s == 0) = false := by simp; omega
  have h2 : (s == 1) = false := by simp; omega
  rw [h1, h2]; rfl

theorem testBit_band (l : List Upd) (j : Nat) : (bandS l).testBit j = l.any (fun u => liveS u.s && (Bnd.nodeS u.n && decide (u.n.toNat = j))) := by
  unfold bandS
  have : ∀ b : Nat, (l.foldl (fun b u => if liveS u.s then Bnd.withS b u.n else b) b).testBit j = (b.testBit j || l.any (fun u => liveS u.s && (Bnd.nodeS u.n && decide (u.n.toNat = j)))) := by
    induction l with
    | nil => intro b; simp
    | cons u l ih =>
      intro b
      rw [List.foldl_cons, ih, List.any_cons]
      cases h : liveS u.s
      · simp
      · simp only [if_true, Bool.true_and]
        rw [Bnd.testBit_withS, Bool.or_assoc]
  rw [this 0, Nat.zero_testBit, Bool.false_or]
/-- Is j known, and live? -/
def liveAt (f : Tab) (j : Nat) : Bool := (f j).isSome && liveS (ud (f j)).s
theorem mem_all {f : Tab} {j : Nat} {u : Upd} (hj : j < 64) (h : f j = some u) : u ∈ allS f := by
  have : ∀ n, j < n → u ∈ pickN f (fun j => (f j).isSome) n := by
    intro n
    induction n with
    | zero => intro h; omega
    | succ n ih =>
      intro hn
      simp only [pickN]
      by_cases e : j = n
      · subst e
        simp [h, ud]
      · exact List.mem_append_left _ (ih (by omega))
  exact this 64 hj
theorem testBit_all {k : Nat} {f : Tab} (hI : Inv k f) {j : Nat} (hj : j < 64) : (bandS (allS f)).testBit j = liveAt f j := by
  rw [testBit_band]
  cases h : liveAt f j
  · rw [List.any_eq_false]
    intro u hu
    obtain ⟨i, hi, hf⟩ := all_mem hu
    obtain ⟨_, h2, _⟩ := hI.may i u hf
    by_cases e : u.n.toNat = j
    · have : i = j := by omega
      subst this
      unfold liveAt at h
      rw [hf, ud_some] at h
      simp at h
      simp [h]
    · simp [e]
  · unfold liveAt at h
    rw [Bool.and_eq_true] at h
    obtain ⟨u, hu⟩ := Option.isSome_iff_exists.1 h.1
    have h2 := h.2
    rw [hu, ud_some] at h2
    rw [List.any_eq_true]
    obtain ⟨h3, h4, _⟩ := hI.may j u hu
    refine ⟨u, mem_all hj hu, ?_⟩
    have : Bnd.nodeS u.n = true := (Bnd.nodeS_iff _).2 (by omega)
    rw [h2, this]
    simp
    omega

def cnt (p : Nat → Bool) (n : Nat) : Nat := ((List.range n).filter p).length
theorem cnt_succ (p : Nat → Bool) (n : Nat) : cnt p (n + 1) = cnt p n + if p n then 1 else 0 := by
  unfold cnt
  rw [List.range_succ, List.filter_append, List.length_append]
  cases h : p n <;> simp [h]
theorem cnt_ext {p q : Nat → Bool} : ∀ n, (∀ j, j < n → p j = q j) → cnt p n = cnt q n := by
  intro n
  induction n with
  | zero => intro _; rfl
  | succ n ih => intro h; rw [cnt_succ, cnt_succ, ih (fun j hj => h j (by omega)), h n (by omega)]
theorem cnt_add (p q r : Nat → Bool) (h : ∀ j, (if p j then 1 else 0) = (if q j then 1 else 0) + (if r j then 1 else 0 : Nat)) : ∀ n, cnt p n = cnt q n + cnt r n := by
  intro n
  induction n with
  | zero => rfl
  | succ n ih => rw [cnt_succ, cnt_succ, cnt_succ, ih, h n]; omega
theorem cnt_one (k : Nat) : ∀ n, k < n → cnt (fun j => decide (j = k)) n = 1 := by
  have h0 : ∀ n, n ≤ k → cnt (fun j => decide (j = k)) n = 0 := by
    intro n
    induction n with
    | zero => intro _; rfl
    | succ n ih => intro h; rw [cnt_succ, ih (by omega), if_neg (by simp; omega)]
  intro n
  induction n with
  | zero => intro h; omega
  | succ n ih =>
    intro h
    rw [cnt_succ]
    by_cases e : n = k
    · subst e; rw [h0 n (Nat.le_refl _)]; simp
    · rw [ih (by omega), if_neg (by simpa using e)]
theorem pick_length (f : Tab) (b : Nat → Bool) : ∀ n, (pickN f b n).length = cnt b n := by
  intro n
  induction n with
  | zero => rfl
  | succ n ih =>
    rw [cnt_succ]
    simp only [pickN, List.length_append, ih]
    cases b n <;> rfl
theorem pick_dead (f : Tab) (b : Nat → Bool) : ∀ n, deadS (pickN f b n) = cnt (fun j => b j && decide (1 < (ud (f j)).s)) n := by
  intro n
  induction n with
  | zero => rfl
  | succ n ih =>
    rw [cnt_succ]
    simp only [pickN]
    unfold deadS at ih ⊢
    rw [List.filter_append, List.length_append, ih]
    cases hb : b n
    · simp
    · by_cases hs : 1 < (ud (f n)).s <;> simp [hs]

/-- How many others are live. -/
theorem others_count {k : Nat} {f : Tab} (hI : Inv k f) : (othS k f).length + deadS (allS f) + 1 = (allS f).length := by
  have hlt := bandS_lt (allS f)
  have e1 : (othS k f).length = cnt (fun j => liveAt f j && !decide (j = k)) 64 := by
    unfold othS
    rw [Bnd.lst_length]
    show ((List.range 64).filter fun i => (Bnd.lessS (bandS (allS f)) k).testBit i).length = _
    refine cnt_ext 64 fun j hj => ?_
    rw [Bnd.testBit_lessS, testBit_all hI hj]
    have hk := hI.lt
    have : Bnd.nodeS (k : Int) = true := (Bnd.nodeS_iff _).2 (by omega)
    rw [this, Int.toNat_natCast]
    simp [eq_comm]
  have e2 : (allS f).length = cnt (fun j => (f j).isSome) 64 := pick_length f _ 64
  have e3 : deadS (allS f) = cnt (fun j => (f j).isSome && decide (1 < (ud (f j)).s)) 64 := pick_dead f _ 64
  have e4 : cnt (fun j => (f j).isSome) 64 = cnt (liveAt f) 64 + cnt (fun j => (f j).isSome && decide (1 < (ud (f j)).s)) 64 := by
    refine cnt_add _ _ _ (fun j => ?_) 64
    unfold liveAt
    cases hf : f j with
    | none => rfl
    | some u =>
      have h0 := (may_iff u).1 (hI.may j u hf).1
      simp only [Option.isSome_some, ud_some, Bool.true_and, if_true]
      by_cases hs : 1 < u.s
      · rw [live_ge (by omega)]; simp [hs]
      · rw [live_lt h0.2.2.1 (by omega)]; simp [hs]
  have e5 : cnt (liveAt f) 64 = cnt (fun j => liveAt f j && !decide (j = k)) 64 + cnt (fun j => decide (j = k)) 64 := by
    refine cnt_add _ _ _ (fun j => ?_) 64
    by_cases hj : j = k
    · subst hj
      have : liveAt f j = true := by
        obtain ⟨i, hi⟩ := hI.mine
        unfold liveAt
        rw [hi]; rfl
      simp [this]
    · simp [hj]
  rw [cnt_one k 64 hI.lt] at e5
  omega
theorem live_self {k : Nat} {f : Tab} (hI : Inv k f) : (bandS (allS f)).testBit k = true := by
  rw [testBit_all hI hI.lt]
  obtain ⟨i, hi⟩ := hI.mine
  unfold liveAt
  rw [hi]; rfl

/-- All that RollLive needs of the list of all that is known. -/
structure Lf (k : Nat) (f : Tab) (L : List Upd) : Prop where
  len : L.length ≤ 64
  sort : ∀ i (_ : 0 < i) (hi : i < L.length), (L[i - 1]'(by omega)).n < L[i].n
  get : ∀ u ∈ L, getS f u.n = some u ∧ 0 ≤ u.n ∧ u.n < 64 ∧ 0 ≤ u.s
  lt : bandS L < Bnd.lim
  self : (bandS L).testBit k = true
  count : (othS k f).length + deadS L + 1 = L.length
theorem lf_all {k : Nat} {f : Tab} (hI : Inv k f) : Lf k f (allS f) := ⟨allS_length f, fun _ h0 hi => all_sorted hI h0 hi, fun _ hu => all_get hI hu, bandS_lt _, live_self hI, others_count hI⟩
end Go.Proofs.YtkodeahhckibmaaDoor
