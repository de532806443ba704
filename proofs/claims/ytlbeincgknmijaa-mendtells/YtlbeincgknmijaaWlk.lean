/-
  Plain mathematics of the walk over two lists' ends; the reference's ways (gluing, cutting) tell the same. No program is known here.
-/
import Derived.Test.YtlbeincgknmijaaMth
namespace Go.Proofs.Ytlbeincgknmijaa

/-- The i-th end. -/
def E (l : List Sn) (i : Nat) : Int := if i % 2 = 0 then (el l (i / 2)).f else (el l (i / 2)).t + 1

theorem E_even (l : List Sn) (m : Nat) : E l (2 * m) = (el l m).f := by
  unfold E
  rw [if_pos (by omega), show 2 * m / 2 = m by omega]
theorem E_odd (l : List Sn) (m : Nat) : E l (2 * m + 1) = (el l m).t + 1 := by
  unfold E
  rw [if_neg (by omega), show (2 * m + 1) / 2 = m by omega]
theorem Up.succ {l : List Sn} {m : Nat} (h : Up 0 l) (hm : m + 1 < l.length) : (el l m).t + 1 < (el l (m + 1)).f := by
  have h' := ((up_ok1 l 0 fun s hs => by have := h.mem s hs; omega).1 h).1 (m + 1) hm
  have := h'.2.2 (Nat.succ_pos _)
  rwa [Nat.add_sub_cancel] at this
theorem Up.at {l : List Sn} {m : Nat} (h : Up 0 l) (hm : m < l.length) : 0 ≤ (el l m).f ∧ (el l m).f ≤ (el l m).t ∧ (el l m).t < 18446744073709551615 := h.mem _ (el_mem hm)
theorem E_step {l : List Sn} {i : Nat} (h : Up 0 l) (hi : i + 1 < 2 * l.length) : E l i < E l (i + 1) := by
  rcases Nat.mod_two_eq_zero_or_one i with h0 | h0
  · obtain ⟨m, rfl⟩ : ∃ m, i = 2 * m := ⟨i / 2, by omega⟩
    rw [E_even, E_odd]
    have := h.at (m := m) (by omega)
    omega
  · obtain ⟨m, rfl⟩ : ∃ m, i = 2 * m + 1 := ⟨i / 2, by omega⟩
    rw [E_odd, show 2 * m + 1 + 1 = 2 * (m + 1) by omega, E_even]
    exact h.succ (by omega)
theorem E_lt {l : List Sn} (h : Up 0 l) {i j : Nat} (hij : i < j) (hj : j < 2 * l.length) : E l i < E l j := by
  induction j with
  | zero => omega
  | succ j ih =>
    rcases Nat.lt_or_ge i j with h1 | h1
    · have := ih h1 (by omega)
      have := E_step h hj
      omega
    · obtain rfl : i = j := by omega
      exact E_step h hj
theorem E_bound {l : List Sn} {i : Nat} (h : Up 0 l) (hi : i < 2 * l.length) : 0 ≤ E l i ∧ E l i ≤ 18446744073709551615 := by
  have := h.at (m := i / 2) (by omega)
  unfold E
  split <;> omega
theorem hasS_el {l : List Sn} {n : Int} (h : hasS l n = true) : ∃ m, m < l.length ∧ (el l m).f ≤ n ∧ n ≤ (el l m).t := by
  obtain ⟨s, hs, h1, h2⟩ := hasS_iff.1 h
  obtain ⟨m, hm, rfl⟩ := List.mem_iff_getElem.1 hs
  exact ⟨m, hm, by rw [el_get hm]; exact h1, by rw [el_get hm]; exact h2⟩
/-- Between two ends a list has all, or none. -/
theorem has_E {l : List Sn} {i : Nat} {n : Int} (h : Up 0 l) (hi : i ≤ 2 * l.length) (h1 : ∀ j, j < i → E l j ≤ n) (h2 : i < 2 * l.length → n < E l i) : hasS l n = decide (i % 2 = 1) := by
  cases e : hasS l n with
  | true =>
    obtain ⟨m, hm, k1, k2⟩ := hasS_el e
    have e1 : ¬ i ≤ 2 * m := by
      intro hle
      have h2 := h2 (by omega)
      rcases Nat.eq_or_lt_of_le hle with e | e
      · subst e; rw [E_even] at h2; omega
      · have := E_lt h e (by omega)
        rw [E_even] at this
        omega
    have e2 : ¬ 2 * m + 1 < i := by
      intro hlt
      have := h1 (2 * m + 1) hlt
      rw [E_odd] at this
      omega
    symm
    rw [decide_eq_true_eq]
    omega
  | false =>
    symm
    rw [decide_eq_false_iff_not]
    intro ho
    obtain ⟨m, rfl⟩ : ∃ m, i = 2 * m + 1 := ⟨i / 2, by omega⟩
    have k1 := h1 (2 * m) (by omega)
    have k2 := h2 (by omega)
    rw [E_even] at k1
    rw [E_odd] at k2
    have : hasS l n = true := hasS_iff.2 ⟨el l m, el_mem (by omega), k1, by omega⟩
    rw [e] at this
    cases this

/-- The next end of both, and where both go on. -/
def nxt (a b : List Sn) (i k : Nat) : Int × Nat × Nat :=
  if 2 * a.length ≤ i ∨ (k < 2 * b.length ∧ E b k < E a i) then (E b k, i, k + 1)
  else if 2 * b.length ≤ k ∨ E a i < E b k then (E a i, i + 1, k) else (E a i, i + 1, k + 1)
def odd (i : Nat) : Bool := decide (i % 2 = 1)
/-- The walk: what is kept behind so many steps at most. -/
def wlk (f : Bool → Bool → Bool) (a b : List Sn) : Nat → Nat → Nat → Int → Bool → List Sn → List Sn
  | 0, _, _, _, _, kept => kept
  | F + 1, i, k, from', within, kept =>
    if 2 * a.length ≤ i ∧ 2 * b.length ≤ k then kept else
      if f (odd (nxt a b i k).2.1) (odd (nxt a b i k).2.2) = true then
        wlk f a b F (nxt a b i k).2.1 (nxt a b i k).2.2 (if within then from' else (nxt a b i k).1) true kept
      else wlk f a b F (nxt a b i k).2.1 (nxt a b i k).2.2 from' false (if within then kept ++ [⟨from', (nxt a b i k).1 - 1⟩] else kept)
def walkS (f : Bool → Bool → Bool) (a b : List Sn) : List Sn := wlk f a b (2 * a.length + 2 * b.length) 0 0 0 false []

structure Inv (f : Bool → Bool → Bool) (a b : List Sn) (i k : Nat) (fr : Int) (wi : Bool) (kept : List Sn) (p : Int) : Prop where
  alo : ∀ j, j < i → E a j ≤ p
  ahi : ∀ j, i ≤ j → j < 2 * a.length → p < E a j
  ai : i ≤ 2 * a.length
  blo : ∀ j, j < k → E b j ≤ p
  bhi : ∀ j, k ≤ j → j < 2 * b.length → p < E b j
  bk : k ≤ 2 * b.length
  hwi : wi = f (odd i) (odd k)
  up : Up 0 kept
  lt : ∀ s ∈ kept, s.t + 1 ≤ p
  hfr : wi = true → 0 ≤ fr ∧ fr ≤ p ∧ ∀ s ∈ kept, s.t + 1 < fr
  mem : ∀ n, n < p → (hasS kept n || (wi && decide (fr ≤ n))) = f (hasS a n) (hasS b n)
  len : 2 * kept.length + (if wi then 1 else 0) ≤ i + k

theorem Inv.start {f : Bool → Bool → Bool} {a b : List Sn} (hf : f false false = false) (ha : Up 0 a) (hb : Up 0 b) : Inv f a b 0 0 0 false [] (-1) := by
  refine ⟨fun j hj => absurd hj (Nat.not_lt_zero _), fun j _ hj => ?_, Nat.zero_le _, fun j hj => absurd hj (Nat.not_lt_zero _), fun j _ hj => ?_, Nat.zero_le _, ?_, trivial, fun s hs => (by cases hs), fun h => (by cases h), fun n hn => ?_, by simp⟩
  · have := (E_bound ha hj).1; omega
  · have := (E_bound hb hj).1; omega
  · show false = f (odd 0) (odd 0); exact hf.symm
  · rw [ha.not (by omega), hb.not (by omega), hf]; rfl

theorem hasS_lt {l : List Sn} {p n : Int} (h : ∀ s ∈ l, s.t + 1 ≤ p) (hn : p ≤ n) : hasS l n = false := by
  cases e : hasS l n with
  | false => rfl
  | true =>
    obtain ⟨s, hs, h1, h2⟩ := hasS_iff.1 e
    have := h s hs
    omega

/-- One step, to the ends up to q. -/
theorem Inv.step {f : Bool → Bool → Bool} {a b : List Sn} {i k i' k' : Nat} {fr p q : Int} {wi : Bool} {kept : List Sn} (hI : Inv f a b i k fr wi kept p) (ha : Up 0 a) (hb : Up 0 b) (hpq : p < q) (hq0 : 0 ≤ q) (hq1 : q ≤ 18446744073709551615)
    (hgo : i + k < i' + k')
    (hai : i < 2 * a.length → q ≤ E a i) (hbk : k < 2 * b.length → q ≤ E b k)
    (alo : ∀ j, j < i' → E a j ≤ q) (ahi : ∀ j, i' ≤ j → j < 2 * a.length → q < E a j) (ai : i' ≤ 2 * a.length)
    (blo : ∀ j, j < k' → E b j ≤ q) (bhi : ∀ j, k' ≤ j → j < 2 * b.length → q < E b j) (bk : k' ≤ 2 * b.length) :
    (f (odd i') (odd k') = true → Inv f a b i' k' (if wi then fr else q) true kept q) ∧
    (f (odd i') (odd k') = false → Inv f a b i' k' fr false (if wi then kept ++ [⟨fr, q - 1⟩] else kept) q) := by
  have mid : ∀ n, p ≤ n → n < q → f (hasS a n) (hasS b n) = wi := by
    intro n h1 h2
    have e1 : hasS a n = odd i := has_E ha hI.ai (fun j hj => by have := hI.alo j hj; omega) fun h => by have := hai h; omega
    have e2 : hasS b n = odd k := has_E hb hI.bk (fun j hj => by have := hI.blo j hj; omega) fun h => by have := hbk h; omega
    rw [e1, e2]; exact hI.hwi.symm
  have hlt' : ∀ s ∈ kept, s.t + 1 ≤ q := fun s hs => by have := hI.lt s hs; omega
  have hlen := hI.len
  cases hw : wi with
  | false =>
    subst hw
    have hmem : ∀ n, n < q → hasS kept n = f (hasS a n) (hasS b n) := by
      intro n hn
      rcases Int.lt_or_le n p with h | h
      · have := hI.mem n h; simpa using this
      · rw [mid n h hn, hasS_lt hI.lt h]
    refine ⟨fun h => ⟨alo, ahi, ai, blo, bhi, bk, h.symm, hI.up, hlt', fun _ => ?_, fun n hn => ?_, ?_⟩, fun h => ⟨alo, ahi, ai, blo, bhi, bk, h.symm, hI.up, hlt', fun h => (by cases h), fun n hn => ?_, ?_⟩⟩
    · show 0 ≤ q ∧ q ≤ q ∧ _
      exact ⟨hq0, Int.le_refl _, fun s hs => by show s.t + 1 < q; have := hI.lt s hs; omega⟩
    · show (hasS kept n || (true && decide (q ≤ n))) = _
      rw [hmem n hn, decide_eq_false (by omega)]
      simp
    · simp at hlen ⊢; omega
    · rw [← hmem n hn]; simp
    · simp at hlen ⊢; omega
  | true =>
    subst hw
    obtain ⟨f0, f1, f2⟩ := hI.hfr rfl
    have hmem : ∀ n, n < q → (hasS kept n || decide (fr ≤ n)) = f (hasS a n) (hasS b n) := by
      intro n hn
      rcases Int.lt_or_le n p with h | h
      · have := hI.mem n h; simpa using this
      · rw [mid n h hn, decide_eq_true (show fr ≤ n by omega)]; simp
    refine ⟨fun h => ⟨alo, ahi, ai, blo, bhi, bk, h.symm, hI.up, hlt', fun _ => ?_, fun n hn => ?_, ?_⟩, fun h => ⟨alo, ahi, ai, blo, bhi, bk, h.symm, ?_, fun s hs => ?_, fun h => (by cases h), fun n hn => ?_, ?_⟩⟩
    · exact ⟨f0, by simp; omega, fun s hs => f2 s hs⟩
    · rw [← hmem n hn]; simp
    · simp at hlen ⊢; omega
    · show Up 0 (kept ++ [⟨fr, q - 1⟩])
      exact hI.up.append f0 (by show fr ≤ q - 1; omega) (by show q - 1 < _; omega) f2
    · simp only [if_true, List.mem_append, List.mem_singleton] at hs
      rcases hs with hs | rfl
      · exact hlt' s hs
      · show q - 1 + 1 ≤ q; omega
    · rw [← hmem n hn]
      simp only [if_true, hasS_append, Bool.false_and, Bool.or_false]
      rw [hasS_cons, hasS_nil]
      rw [decide_eq_true (show n ≤ q - 1 by omega)]
      simp
    · simp at hlen ⊢; omega

theorem nxt_ok {a b : List Sn} {i k : Nat} (ha : Up 0 a) (hb : Up 0 b) (hi : i ≤ 2 * a.length) (hk : k ≤ 2 * b.length) (hgo : ¬ (2 * a.length ≤ i ∧ 2 * b.length ≤ k)) {p : Int} (alo : ∀ j, j < i → E a j ≤ p) (ahi : ∀ j, i ≤ j → j < 2 * a.length → p < E a j)
    (blo : ∀ j, j < k → E b j ≤ p) (bhi : ∀ j, k ≤ j → j < 2 * b.length → p < E b j) :
    let q := (nxt a b i k).1; let i' := (nxt a b i k).2.1; let k' := (nxt a b i k).2.2
    p < q ∧ 0 ≤ q ∧ q ≤ 18446744073709551615 ∧ i ≤ i' ∧ k ≤ k' ∧ i + k < i' + k' ∧ (i < 2 * a.length → q ≤ E a i) ∧ (k < 2 * b.length → q ≤ E b k) ∧
    (∀ j, j < i' → E a j ≤ q) ∧ (∀ j, i' ≤ j → j < 2 * a.length → q < E a j) ∧ i' ≤ 2 * a.length ∧ (∀ j, j < k' → E b j ≤ q) ∧ (∀ j, k' ≤ j → j < 2 * b.length → q < E b j) ∧ k' ≤ 2 * b.length := by
  have la : ∀ j, i ≤ j → j < 2 * a.length → E a i ≤ E a j := fun j h1 h2 => by
    rcases Nat.eq_or_lt_of_le h1 with e | e
    · rw [e]; exact Int.le_refl _
    · exact Int.le_of_lt (E_lt ha e h2)
  have lb : ∀ j, k ≤ j → j < 2 * b.length → E b k ≤ E b j := fun j h1 h2 => by
    rcases Nat.eq_or_lt_of_le h1 with e | e
    · rw [e]; exact Int.le_refl _
    · exact Int.le_of_lt (E_lt hb e h2)
  unfold nxt
  by_cases c1 : 2 * a.length ≤ i ∨ (k < 2 * b.length ∧ E b k < E a i)
  · rw [if_pos c1]
    have hkb : k < 2 * b.length := by omega
    have hp := bhi k (Nat.le_refl _) hkb
    have hE := E_bound hb hkb
    refine ⟨hp, hE.1, hE.2, Nat.le_refl _, Nat.le_succ _, by simp only; omega, fun h => by simp only; omega, fun _ => Int.le_refl _, fun j hj => ?_, fun j h1 h2 => ?_, hi, fun j hj => ?_, fun j h1 h2 => ?_, hkb⟩
    · have := alo j hj; simp only; omega
    · have := la j h1 h2; have h1 : i ≤ j := h1; simp only; omega
    · have hj : j < k + 1 := hj
      rcases Nat.lt_or_ge j k with h | h
      · have := blo j h; simp only; omega
      · obtain rfl : j = k := by omega
        exact Int.le_refl _
    · have h1 : k + 1 ≤ j := h1
      exact E_lt hb (by omega) h2
  · rw [if_neg c1]
    have hia : i < 2 * a.length := by omega
    have hp := ahi i (Nat.le_refl _) hia
    have hE := E_bound ha hia
    have haj : ∀ j, j < i + 1 → E a j ≤ E a i := fun j hj => by
      rcases Nat.lt_or_ge j i with h | h
      · have := alo j h; omega
      · obtain rfl : j = i := by omega
        exact Int.le_refl _
    by_cases c2 : 2 * b.length ≤ k ∨ E a i < E b k
    · rw [if_pos c2]
      refine ⟨hp, hE.1, hE.2, Nat.le_succ _, Nat.le_refl _, by simp only; omega, fun _ => Int.le_refl _, fun h => by simp only; omega, haj, fun j h1 h2 => E_lt ha h1 h2, hia, fun j hj => ?_, fun j h1 h2 => ?_, hk⟩
      · have := blo j hj; simp only; omega
      · have := lb j h1 h2; have h1 : k ≤ j := h1; simp only; omega
    · rw [if_neg c2]
      have hkb : k < 2 * b.length := by omega
      have heq : E b k = E a i := by omega
      refine ⟨hp, hE.1, hE.2, Nat.le_succ _, Nat.le_succ _, by simp only; omega, fun _ => Int.le_refl _, fun h => by simp only; omega, haj, fun j h1 h2 => E_lt ha h1 h2, hia, fun j hj => ?_, fun j h1 h2 => ?_, hkb⟩
      · have hj : j < k + 1 := hj
        simp only
        rcases Nat.lt_or_ge j k with h | h
        · have := blo j h; omega
        · obtain rfl : j = k := by omega
          omega
      · have h1 : k + 1 ≤ j := h1
        have := E_lt hb (show k < j by omega) h2
        simp only
        omega

theorem wlk_spec {f : Bool → Bool → Bool} {a b : List Sn} (hf : f false false = false) (ha : Up 0 a) (hb : Up 0 b) : ∀ (F i k : Nat) (fr p : Int) (wi : Bool) (kept : List Sn), Inv f a b i k fr wi kept p → 2 * a.length + 2 * b.length ≤ F + i + k →
    Up 0 (wlk f a b F i k fr wi kept) ∧ (∀ n, hasS (wlk f a b F i k fr wi kept) n = f (hasS a n) (hasS b n)) ∧ (wlk f a b F i k fr wi kept).length ≤ a.length + b.length := by
  have fin : ∀ (i k : Nat) (fr p : Int) (wi : Bool) (kept : List Sn), Inv f a b i k fr wi kept p → (2 * a.length ≤ i ∧ 2 * b.length ≤ k) → Up 0 kept ∧ (∀ n, hasS kept n = f (hasS a n) (hasS b n)) ∧ kept.length ≤ a.length + b.length := by
    intro i k fr p wi kept hI hd
    have e1 : i = 2 * a.length := by have := hI.ai; omega
    have e2 : k = 2 * b.length := by have := hI.bk; omega
    have o1 : odd i = false := by rw [e1]; simp [odd]
    have o2 : odd k = false := by rw [e2]; simp [odd]
    have hw : wi = false := by rw [hI.hwi, o1, o2, hf]
    subst hw
    have hlen := hI.len
    refine ⟨hI.up, fun n => ?_, by simp at hlen; omega⟩
    rcases Int.lt_or_le n p with h | h
    · have := hI.mem n h; simpa using this
    · have h1 : hasS a n = odd i := has_E ha hI.ai (fun j hj => by have := hI.alo j hj; omega) fun h => by omega
      have h2 : hasS b n = odd k := has_E hb hI.bk (fun j hj => by have := hI.blo j hj; omega) fun h => by omega
      rw [h1, h2, o1, o2, hf, hasS_lt hI.lt h]
  intro F
  induction F with
  | zero => intro i k fr p wi kept hI hF; exact fin i k fr p wi kept hI ⟨by have := hI.bk; omega, by have := hI.ai; omega⟩
  | succ F ih =>
    intro i k fr p wi kept hI hF
    by_cases hd : 2 * a.length ≤ i ∧ 2 * b.length ≤ k
    · simp only [wlk]; rw [if_pos hd]; exact fin i k fr p wi kept hI hd
    · simp only [wlk]
      rw [if_neg hd]
      obtain ⟨n1, n2, n3, n4, n5, n6, n7, n8, n9, n10, n11, n12, n13, n14⟩ := nxt_ok ha hb hI.ai hI.bk hd hI.alo hI.ahi hI.blo hI.bhi
      obtain ⟨s1, s2⟩ := hI.step ha hb n1 n2 n3 n6 n7 n8 n9 n10 n11 n12 n13 n14
      by_cases hk : f (odd (nxt a b i k).2.1) (odd (nxt a b i k).2.2) = true
      · rw [if_pos hk]
        exact ih _ _ _ _ _ _ (s1 hk) (by omega)
      · rw [if_neg hk]
        exact ih _ _ _ _ _ _ (s2 (by simpa using hk)) (by omega)

theorem walkS_up {f : Bool → Bool → Bool} {a b : List Sn} (hf : f false false = false) (ha : Up 0 a) (hb : Up 0 b) : Up 0 (walkS f a b) := (wlk_spec hf ha hb _ _ _ _ _ _ _ (Inv.start hf ha hb) (by omega)).1
theorem walkS_has {f : Bool → Bool → Bool} {a b : List Sn} (hf : f false false = false) (ha : Up 0 a) (hb : Up 0 b) (n : Int) : hasS (walkS f a b) n = f (hasS a n) (hasS b n) := (wlk_spec hf ha hb _ _ _ _ _ _ _ (Inv.start hf ha hb) (by omega)).2.1 n
theorem walkS_len {f : Bool → Bool → Bool} {a b : List Sn} (hf : f false false = false) (ha : Up 0 a) (hb : Up 0 b) : (walkS f a b).length ≤ a.length + b.length := (wlk_spec hf ha hb _ _ _ _ _ _ _ (Inv.start hf ha hb) (by omega)).2.2

/-! ## Join, Minus, Add -/

def orB (x y : Bool) : Bool := x || y
def butB (x y : Bool) : Bool := x && !y
def joinS (a b : List Sn) : List Sn := if mayS a && mayS b then walkS orB a b else []
def minusS (a b : List Sn) : List Sn := if mayS a && mayS b then walkS butB a b else []
theorem joinS_of {a b : List Sn} (ha : Up 0 a) (hb : Up 0 b) : joinS a b = walkS orB a b := by simp [joinS, (mayS_iff a).2 ha, (mayS_iff b).2 hb]
theorem minusS_of {a b : List Sn} (ha : Up 0 a) (hb : Up 0 b) : minusS a b = walkS butB a b := by simp [minusS, (mayS_iff a).2 ha, (mayS_iff b).2 hb]
theorem joinS_up {a b : List Sn} (ha : Up 0 a) (hb : Up 0 b) : Up 0 (joinS a b) := by rw [joinS_of ha hb]; exact walkS_up rfl ha hb
theorem joinS_has {a b : List Sn} (ha : Up 0 a) (hb : Up 0 b) (n : Int) : hasS (joinS a b) n = (hasS a n || hasS b n) := by rw [joinS_of ha hb]; exact walkS_has rfl ha hb n
theorem joinS_len {a b : List Sn} (ha : Up 0 a) (hb : Up 0 b) : (joinS a b).length ≤ a.length + b.length := by rw [joinS_of ha hb]; exact walkS_len rfl ha hb
theorem minusS_up {a b : List Sn} (ha : Up 0 a) (hb : Up 0 b) : Up 0 (minusS a b) := by rw [minusS_of ha hb]; exact walkS_up rfl ha hb
theorem minusS_has {a b : List Sn} (ha : Up 0 a) (hb : Up 0 b) (n : Int) : hasS (minusS a b) n = (hasS a n && !hasS b n) := by rw [minusS_of ha hb]; exact walkS_has rfl ha hb n
theorem minusS_len {a b : List Sn} (ha : Up 0 a) (hb : Up 0 b) : (minusS a b).length ≤ a.length + b.length := by rw [minusS_of ha hb]; exact walkS_len rfl ha hb

def addS (l : List Sn) (n : Int) : List Sn × Bool :=
  if n = 18446744073709551615 ∨ (mayS l && hasS l n) = true then (if mayS l then l else [], false)
  else (walkS orB (if mayS l then l else []) [⟨n, n⟩], true)
theorem one_up {n : Int} (h0 : 0 ≤ n) (h1 : n < 18446744073709551615) : Up 0 [⟨n, n⟩] := ⟨h0, Int.le_refl _, h1, trivial⟩
theorem one_has (n m : Int) : hasS [⟨n, n⟩] m = decide (n = m) := by
  rw [hasS_cons, hasS_nil]
  by_cases h : n = m
  · simp [h]
  · simp [h]; omega
theorem addS_up {l : List Sn} {n : Int} (h : Up 0 l) (h0 : 0 ≤ n) (h1 : n < 18446744073709551615) : Up 0 (addS l n).1 := by
  unfold addS
  rw [(mayS_iff l).2 h]
  simp only [if_true]
  split
  · exact h
  · exact walkS_up rfl h (one_up h0 h1)
theorem addS_has {l : List Sn} {n : Int} (h : Up 0 l) (h0 : 0 ≤ n) (h1 : n < 18446744073709551615) (m : Int) : hasS (addS l n).1 m = (hasS l m || decide (n = m)) := by
  unfold addS
  rw [(mayS_iff l).2 h]
  simp only [if_true, Bool.true_and]
  split
  · rename_i hh
    rcases hh with hh | hh
    · omega
    · by_cases e : n = m
      · subst e; simp [hh]
      · simp [e]
  · rw [walkS_has rfl h (one_up h0 h1), one_has]; rfl
theorem addS_was {l : List Sn} {n : Int} (h : Up 0 l) (h1 : n < 18446744073709551615) : (addS l n).2 = !hasS l n := by
  unfold addS
  rw [(mayS_iff l).2 h]
  simp only [Bool.true_and]
  split
  · rename_i hh
    rcases hh with hh | hh
    · omega
    · simp [hh]
  · rename_i hh
    have : hasS l n = false := by
      cases e : hasS l n with
      | false => rfl
      | true => exact absurd (Or.inr e) hh
    simp [this]
theorem addS_len {l : List Sn} {n : Int} (h : Up 0 l) (h0 : 0 ≤ n) (h1 : n < 18446744073709551615) : (addS l n).1.length ≤ l.length + 1 := by
  unfold addS
  rw [(mayS_iff l).2 h]
  simp only [if_true]
  split
  · simp
  · exact walkS_len rfl h (one_up h0 h1)
end Go.Proofs.Ytlbeincgknmijaa
