/-
  Plain mathematics of a shelf: how far it reaches, what it has, what trimming leaves. No program is known here.
-/
import Derived.Test.YtlbeincgknmijaaTbl
namespace Go.Proofs.Ytlbeincgknmijaa

/-- How many are there from the first one on, of the first n. -/
def lead (p : Nat → Bool) : Nat → Nat
  | 0 => 0
  | n + 1 => if lead p n = n ∧ p n = true then n + 1 else lead p n
theorem lead_le (p : Nat → Bool) (n : Nat) : lead p n ≤ n := by
  induction n with
  | zero => exact Nat.le_refl _
  | succ n ih => simp only [lead]; split <;> omega
theorem lead_stop {p : Nat → Bool} {i : Nat} (h : lead p i < i) : ∀ m, i ≤ m → lead p m = lead p i := by
  intro m hm
  induction m with
  | zero => obtain rfl : i = 0 := by omega
            rfl
  | succ m ih =>
    by_cases e : i = m + 1
    · subst e; rfl
    · have ih := ih (by omega)
      simp only [lead]
      rw [if_neg (by rw [ih]; omega), ih]
theorem lead_has {p : Nat → Bool} {n : Nat} : ∀ i, i < lead p n → p i = true := by
  induction n with
  | zero => intro i h; simp [lead] at h
  | succ n ih =>
    intro i h
    simp only [lead] at h
    split at h
    · rename_i hc
      by_cases e : i = n
      · subst e; exact hc.2
      · exact ih i (by omega)
    · exact ih i h
theorem lead_next {p : Nat → Bool} {n : Nat} (h : lead p n < n) : p (lead p n) = false := by
  induction n with
  | zero => omega
  | succ n ih =>
    by_cases hc : lead p n = n ∧ p n = true
    · simp only [lead] at h; rw [if_pos hc] at h; omega
    · simp only [lead] at h ⊢
      rw [if_neg hc] at h ⊢
      by_cases e : lead p n = n
      · rw [e]
        cases hp : p n
        · rfl
        · exact absurd ⟨e, hp⟩ hc
      · exact ih (by have := lead_le p n; omega)
theorem lead_yes {p : Nat → Bool} {i : Nat} (h : lead p i = i) (hp : p i = true) : lead p (i + 1) = i + 1 := by simp only [lead]; rw [if_pos ⟨h, hp⟩]
theorem lead_no {p : Nat → Bool} {i : Nat} (hp : p i = false) : lead p (i + 1) = lead p i := by simp only [lead]; rw [if_neg (by simp [hp])]

def pr (low : Int) (R : Rng) (i : Nat) : Bool := hasR low R (low + 1 + i)
def reachR (low : Int) (R : Rng) : Int := low + lead (pr low R) 64
theorem reachR_ge (low : Int) (R : Rng) : low ≤ reachR low R := by unfold reachR; omega
theorem reachR_le (low : Int) (R : Rng) : reachR low R ≤ low + 64 := by unfold reachR; have := lead_le (pr low R) 64; omega
theorem reachR_has {low : Int} {R : Rng} {n : Int} (h1 : low < n) (h2 : n ≤ reachR low R) : hasR low R n = true := by
  unfold reachR at h2
  have := lead_has (p := pr low R) (n := 64) (n - low - 1).toNat (by omega)
  unfold pr at this
  rwa [show low + 1 + ((n - low - 1).toNat : Int) = n by omega] at this
theorem reachR_next {low : Int} {R : Rng} (h : RI low R) (l0 : 0 ≤ low) : hasR low R (reachR low R + 1) = false := by
  by_cases e : lead (pr low R) 64 = 64
  · cases hh : hasR low R (reachR low R + 1)
    · rfl
    · have := h.has l0 hh
      unfold reachR at this
      omega
  · have := lead_next (p := pr low R) (n := 64) (by have := lead_le (pr low R) 64; omega)
    unfold pr at this
    unfold reachR
    rwa [show low + (lead (pr low R) 64 : Int) + 1 = low + 1 + (lead (pr low R) 64 : Int) by omega]
/-- Reach is the only number that is so. -/
theorem reachR_only {low : Int} {R : Rng} (h : RI low R) (l0 : 0 ≤ low) {r : Int} (h0 : low ≤ r) (h1 : ∀ n, low < n → n ≤ r → hasR low R n = true) (h2 : hasR low R (r + 1) = false) : reachR low R = r := by
  by_cases a : reachR low R < r
  · have := h1 (reachR low R + 1) (by have := reachR_ge low R; omega) (by omega)
    rw [reachR_next h l0] at this; cases this
  · by_cases b : r < reachR low R
    · rw [reachR_has (by omega) (by omega)] at h2; cases h2
    · omega

/-- The spans of what is there, or was. -/
def haveN (low : Int) (R : Rng) : Nat → List Sn
  | 0 => if 0 < low then [⟨1, low⟩] else []
  | n + 1 => if pr low R n then (addS (haveN low R n) (low + 1 + n)).1 else haveN low R n
def haveR (low : Int) (R : Rng) : List Sn := haveN low R 64
theorem haveN_ok {low : Int} {R : Rng} (l0 : 0 ≤ low) (l1 : low ≤ 1000000) (n : Nat) : n ≤ 64 → Up 0 (haveN low R n) ∧ (haveN low R n).length ≤ n + 1 ∧
    ∀ m, hasS (haveN low R n) m = (decide (1 ≤ m ∧ m ≤ low) || (decide (m ≤ low + n) && hasR low R m)) := by
  induction n with
  | zero =>
    intro _
    simp only [haveN]
    by_cases h : 0 < low
    · rw [if_pos h]
      refine ⟨⟨by show (0 : Int) ≤ 1; omega, by show (1 : Int) ≤ low; omega, by show low < _; omega, trivial⟩, by simp, fun m => ?_⟩
      simp only [hasS_cons, hasS_nil, Bool.or_false]
      by_cases a : 1 ≤ m <;> by_cases b : m ≤ low <;> simp [a, b, hasR] <;> omega
    · rw [if_neg h]
      refine ⟨trivial, by simp, fun m => ?_⟩
      rw [hasS_nil]
      obtain rfl : low = 0 := by omega
      by_cases a : 1 ≤ m <;> by_cases b : m ≤ 0 <;> simp [a, b, hasR] <;> omega
  | succ n ih =>
    intro hn
    obtain ⟨h1, h2, h3⟩ := ih (by omega)
    simp only [haveN]
    have hx0 : 0 ≤ low + 1 + (n : Int) := by omega
    have hx1 : low + 1 + (n : Int) < 18446744073709551615 := by omega
    cases hp : pr low R n
    · rw [if_neg (by simp)]
      refine ⟨h1, by omega, fun m => ?_⟩
      rw [h3 m]
      unfold pr at hp
      by_cases e : m = low + 1 + n
      · subst e
        rw [hp]; simp
      · congr 2
        by_cases b : m ≤ low + n
        · rw [decide_eq_true b, decide_eq_true (by omega)]
        · rw [decide_eq_false b, decide_eq_false (by omega)]
    · rw [if_pos rfl]
      refine ⟨addS_up h1 hx0 hx1, by have := addS_len h1 hx0 hx1; omega, fun m => ?_⟩
      rw [addS_has h1 hx0 hx1, h3 m]
      unfold pr at hp
      by_cases e : low + 1 + n = m
      · subst e
        rw [hp, decide_eq_true rfl, decide_eq_true (show low + 1 + (n : Int) ≤ low + ((n + 1 : Nat) : Int) by omega)]; simp
      · rw [decide_eq_false e, Bool.or_false]
        congr 2
        by_cases b : m ≤ low + n
        · rw [decide_eq_true b, decide_eq_true (by omega)]
        · rw [decide_eq_false b, decide_eq_false (by omega)]
theorem haveR_up {low : Int} {R : Rng} (l0 : 0 ≤ low) (l1 : low ≤ 1000000) : Up 0 (haveR low R) := (haveN_ok l0 l1 64 (Nat.le_refl _)).1
theorem haveR_len {low : Int} {R : Rng} (l0 : 0 ≤ low) (l1 : low ≤ 1000000) : (haveR low R).length ≤ 65 := (haveN_ok l0 l1 64 (Nat.le_refl _)).2.1
theorem haveR_has {low : Int} {R : Rng} (h : RI low R) (l0 : 0 ≤ low) (l1 : low ≤ 1000000) (m : Int) : hasS (haveR low R) m = (decide (1 ≤ m ∧ m ≤ low) || hasR low R m) := by
  unfold haveR
  rw [(haveN_ok l0 l1 64 (Nat.le_refl _)).2.2 m]
  congr 1
  cases hh : hasR low R m
  · simp
  · rw [decide_eq_true (by have := h.has l0 hh; omega)]; rfl

/-- What trimming up to to leaves. -/
def trimR (R : Rng) (to : Int) : Rng := fun j => if (R j).n ≤ to then zP else R j
theorem trimR_none {low : Int} {R : Rng} (h : RI low R) {to : Int} (ht : to ≤ low) : ∀ j, j < 64 → R j = trimR R to j := by
  intro j hj
  unfold trimR
  rcases h j hj with e | e
  · rw [e]; split <;> rfl
  · rw [if_neg (by omega)]
theorem RI.trim {low : Int} {R : Rng} (h : RI low R) {to : Int} (ht : to ≤ low + 64) : RI (max low to) (trimR R to) := by
  intro j hj
  unfold trimR
  by_cases e : (R j).n ≤ to
  · rw [if_pos e]; exact Or.inl rfl
  · rw [if_neg e]
    rcases h j hj with e' | e'
    · exact Or.inl e'
    · exact Or.inr ⟨by omega, by omega, e'.2.2⟩
theorem trim_has {low : Int} {R : Rng} (l0 : 0 ≤ low) {to : Int} (n : Int) : hasR (max low to) (trimR R to) n = (decide (to < n) && hasR low R n) := by
  unfold hasR trimR
  by_cases a : to < n
  · rw [decide_eq_true a, Bool.true_and]
    by_cases b : low < n
    · rw [decide_eq_true b, decide_eq_true (show max low to < n by omega)]
      by_cases c : (R (n % 64).toNat).n ≤ to
      · rw [if_pos c, decide_eq_false (show ¬ (R (n % 64).toNat).n = n by omega), decide_eq_false (show ¬ zP.n = n by show ¬ (0 : Int) = n; omega)]
      · rw [if_neg c]
    · rw [decide_eq_false b, decide_eq_false (show ¬ max low to < n by omega)]; simp
  · rw [decide_eq_false a, decide_eq_false (show ¬ max low to < n by omega)]; simp
theorem trim_get {R : Rng} {to n : Int} (h : to < n) (hn : (R (n % 64).toNat).n = n) : trimR R to (n % 64).toNat = R (n % 64).toNat := by unfold trimR; rw [if_neg (by omega)]
/-- Trimming leaves Reach as it was. -/
theorem trim_reach {low : Int} {R : Rng} (h : RI low R) (l0 : 0 ≤ low) {to : Int} (ht : to ≤ reachR low R) : reachR (max low to) (trimR R to) = reachR low R := by
  have h64 := reachR_le low R
  have hge := reachR_ge low R
  refine reachR_only (h.trim (by omega)) (by omega) (by omega) (fun n a b => ?_) ?_
  · rw [trim_has l0, decide_eq_true (by omega), Bool.true_and]; exact reachR_has (by omega) b
  · rw [trim_has l0, reachR_next h l0, Bool.and_false]

theorem RI.put {low : Int} {R : Rng} (h : RI low R) {n : Int} (g : Ms) (h1 : low < n) (h2 : n ≤ low + 64) : RI low (R.set (n % 64).toNat ⟨n, g⟩) := by
  intro j hj
  by_cases e : j = (n % 64).toNat
  · subst e; rw [Rng.set_same]; exact Or.inr ⟨h1, h2, by show n % 64 = _; omega⟩
  · rw [Rng.set_other R _ e]; exact h j hj
theorem put_has {low : Int} {R : Rng} (h : RI low R) {n : Int} (g : Ms) (h1 : low < n) (h2 : n ≤ low + 64) (l0 : 0 ≤ low) (hn : hasR low R n = false) (m : Int) :
    hasR low (R.set (n % 64).toNat ⟨n, g⟩) m = (decide (m = n) || hasR low R m) := by
  by_cases e : m = n
  · subst e; unfold hasR; rw [Rng.set_same, decide_eq_true h1]; simp
  · rw [decide_eq_false e, Bool.false_or]
    unfold hasR
    by_cases e2 : (m % 64).toNat = (n % 64).toNat
    · rw [e2, Rng.set_same]
      cases hb : decide (low < m)
      · rfl
      · simp only [Bool.true_and]
        rw [decide_eq_false (show ¬ n = m by omega)]
        have hj := h (n % 64).toNat (by omega)
        rcases hj with hj | hj
        · rw [hj]; symm; rw [decide_eq_false_iff_not]; show ¬ (0 : Int) = m; have := of_decide_eq_true hb; omega
        · symm; rw [decide_eq_false_iff_not]
          intro hm
          have hb := of_decide_eq_true hb
          omega
    · rw [Rng.set_other R _ e2]
theorem put_reach {low : Int} {R : Rng} (h : RI low R) {n : Int} (g : Ms) (h1 : low < n) (h2 : n ≤ low + 64) (l0 : 0 ≤ low) (hn : hasR low R n = false) : reachR low R ≤ reachR low (R.set (n % 64).toNat ⟨n, g⟩) := by
  by_cases a : reachR low (R.set (n % 64).toNat ⟨n, g⟩) < reachR low R
  · have h3 := reachR_next (h.put g h1 h2) l0
    rw [put_has h g h1 h2 l0 hn, reachR_has (by have := reachR_ge low (R.set (n % 64).toNat ⟨n, g⟩); omega) (by omega)] at h3
    simp at h3
  · omega
end Go.Proofs.Ytlbeincgknmijaa
