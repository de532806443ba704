/-
  Plain mathematics: the reference's ways (two lists merged and glued; spans cut) tell what the walk tells. No program is known here.
-/
import Derived.Test.YtlbeincgknmijaaWlk
namespace Go.Proofs.Ytlbeincgknmijaa

theorem up_append_iff (l : List Sn) (s : Sn) : ∀ lo, Up lo (l ++ [s]) ↔ Up lo l ∧ lo ≤ s.f ∧ s.f ≤ s.t ∧ s.t < 18446744073709551615 ∧ ∀ x ∈ l, x.t + 1 < s.f := by
  intro lo
  constructor
  · induction l generalizing lo with
    | nil => intro h; exact ⟨trivial, h.1, h.2.1, h.2.2.1, fun x hx => by cases hx⟩
    | cons x r ih =>
      rintro ⟨h1, h2, h3, h4⟩
      obtain ⟨k1, k2, k3, k4, k5⟩ := ih (x.t + 2) h4
      refine ⟨⟨h1, h2, h3, k1⟩, by omega, k3, k4, fun y hy => ?_⟩
      rcases List.mem_cons.1 hy with rfl | hy
      · omega
      · exact k5 y hy
  · rintro ⟨h1, h2, h3, h4, h5⟩
    exact h1.append h2 h3 h4 h5

/-! ## Glued -/

def lastS (l : List Sn) : Sn := el l (l.length - 1)
def glueS (out : List Sn) (m : Sn) : List Sn :=
  if 0 < out.length ∧ m.f ≤ (lastS out).t + 1 then out.set (out.length - 1) ⟨(lastS out).f, max (lastS out).t m.t⟩ else out ++ [m]
theorem lastS_snoc (l : List Sn) (z : Sn) : lastS (l ++ [z]) = z := by simp [lastS, el, List.getD]
theorem set_snoc (l : List Sn) (z y : Sn) : (l ++ [z]).set ((l ++ [z]).length - 1) y = l ++ [y] := by
  rw [List.length_append, List.length_singleton, Nat.add_sub_cancel, List.set_append]
  simp
theorem snoc_of (l : List Sn) (h : 0 < l.length) : ∃ r z, l = r ++ [z] := by
  rcases List.eq_nil_or_concat l with e | ⟨r, z, e⟩
  · subst e; simp at h
  · exact ⟨r, z, by simpa using e⟩
theorem glueS_spec {out : List Sn} {m : Sn} (h : Up 0 out) (m0 : 0 ≤ m.f) (m1 : m.f ≤ m.t) (m2 : m.t < 18446744073709551615) (hle : ∀ s ∈ out, s.f ≤ m.f) :
    Up 0 (glueS out m) ∧ (∀ n, hasS (glueS out m) n = (hasS out n || hasS [m] n)) ∧ (glueS out m).length ≤ out.length + 1 ∧ ∀ s ∈ glueS out m, s.f ≤ m.f := by
  unfold glueS
  split
  · rename_i hc
    obtain ⟨r, z, rfl⟩ := snoc_of out hc.1
    rw [lastS_snoc] at hc ⊢
    rw [set_snoc]
    obtain ⟨k1, k2, k3, k4, k5⟩ := (up_append_iff r z 0).1 h
    have hz := hle z (by simp)
    have hc2 := hc.2
    refine ⟨(up_append_iff r _ 0).2 ⟨k1, k2, by show z.f ≤ max z.t m.t; omega, by show max z.t m.t < _; omega, k5⟩, fun n => ?_, by simp, fun s hs => ?_⟩
    · rw [hasS_append, hasS_append, hasS_cons, hasS_cons, hasS_cons, hasS_nil, Bool.eq_iff_iff]
      simp only [Bool.or_eq_true, Bool.and_eq_true, decide_eq_true_eq, Bool.or_false]
      constructor
      · rintro (h | h)
        · exact Or.inl (Or.inl h)
        · by_cases hn : n ≤ z.t
          · exact Or.inl (Or.inr ⟨h.1, hn⟩)
          · exact Or.inr (by omega)
      · rintro ((h | h) | h)
        · exact Or.inl h
        · exact Or.inr (by omega)
        · exact Or.inr (by omega)
    · rcases List.mem_append.1 hs with hs | hs
      · exact hle s (by simp [hs])
      · rw [List.mem_singleton] at hs; subst hs; exact hz
  · rename_i hc
    refine ⟨h.append m0 m1 m2 fun x hx => ?_, fun n => hasS_append _ _ _, by simp, fun s hs => ?_⟩
    · have h0 : 0 < out.length := List.length_pos_of_mem hx
      obtain ⟨r, z, rfl⟩ := snoc_of out h0
      rw [lastS_snoc] at hc
      have hz := hle z (by simp)
      obtain ⟨k1, k2, k3, k4, k5⟩ := (up_append_iff r z 0).1 h
      rcases List.mem_append.1 hx with hx | hx
      · have := k5 x hx; omega
      · rw [List.mem_singleton] at hx; subst hx; omega
    · rcases List.mem_append.1 hs with hs | hs
      · exact hle s hs
      · rw [List.mem_singleton] at hs; subst hs; exact Int.le_refl _

theorem take_snoc {l : List Sn} {k : Nat} (h : k < l.length) : l.take (k + 1) = l.take k ++ [el l k] := by
  rw [List.take_add_one, List.getElem?_eq_getElem h, Option.toList_some, el_get h]
theorem glued_take {M : List Sn} (hv : ∀ s ∈ M, 0 ≤ s.f ∧ s.f ≤ s.t ∧ s.t < 18446744073709551615) (hs : ∀ i j, i < j → j < M.length → (el M i).f ≤ (el M j).f) (k : Nat) (hk : k ≤ M.length) :
    Up 0 ((M.take k).foldl glueS []) ∧ (∀ n, hasS ((M.take k).foldl glueS []) n = hasS (M.take k) n) ∧ ((M.take k).foldl glueS []).length ≤ k ∧ ∀ s ∈ (M.take k).foldl glueS [], ∀ j, k ≤ j → j < M.length → s.f ≤ (el M j).f := by
  induction k with
  | zero => exact ⟨trivial, fun n => rfl, Nat.le_refl _, fun s hs => by cases hs⟩
  | succ k ih =>
    obtain ⟨k1, k2, k3, k4⟩ := ih (by omega)
    have hk' : k < M.length := by omega
    rw [take_snoc hk', List.foldl_append]
    simp only [List.foldl_cons, List.foldl_nil]
    obtain ⟨v1, v2, v3⟩ := hv _ (el_mem hk')
    obtain ⟨g1, g2, g3, g4⟩ := glueS_spec k1 v1 v2 v3 fun s hs => k4 s hs k (Nat.le_refl _) hk'
    refine ⟨g1, fun n => by rw [g2, k2, hasS_append], by omega, fun s hs' j h1 h2 => ?_⟩
    have := g4 s hs'
    have := hs k j (by omega) h2
    omega

/-! ## Merged -/

def mrg (a b : List Sn) : Nat → Nat → Nat → List Sn → List Sn
  | 0, _, _, acc => acc
  | F + 1, i, k, acc =>
    if i < a.length ∨ k < b.length then
      if b.length ≤ k ∨ (i < a.length ∧ (el a i).f ≤ (el b k).f) then mrg a b F (i + 1) k (acc ++ [el a i]) else mrg a b F i (k + 1) (acc ++ [el b k])
    else acc
structure MInv (a b : List Sn) (i k : Nat) (acc : List Sn) : Prop where
  ia : i ≤ a.length
  kb : k ≤ b.length
  len : acc.length = i + k
  has : ∀ n, hasS acc n = (hasS (a.take i) n || hasS (b.take k) n)
  srt : ∀ x y, x < y → y < acc.length → (el acc x).f ≤ (el acc y).f
  la : i < a.length → ∀ s ∈ acc, s.f ≤ (el a i).f
  lb : k < b.length → ∀ s ∈ acc, s.f ≤ (el b k).f
  ok : ∀ s ∈ acc, 0 ≤ s.f ∧ s.f ≤ s.t ∧ s.t < 18446744073709551615
theorem el_snoc (l : List Sn) (z : Sn) (i : Nat) : el (l ++ [z]) i = if i < l.length then el l i else if i = l.length then z else ⟨0, 0⟩ := by
  unfold el
  rw [List.getD_eq_getElem?_getD, List.getD_eq_getElem?_getD, List.getElem?_append]
  split
  · rfl
  · rename_i h
    by_cases e : i = l.length
    · subst e; simp
    · have h3 : i - l.length ≠ 0 := by omega
      rw [if_neg e, List.getElem?_eq_none (by simp; omega)]
      rfl
theorem srt_snoc {l : List Sn} {z : Sn} (h : ∀ x y, x < y → y < l.length → (el l x).f ≤ (el l y).f) (hz : ∀ s ∈ l, s.f ≤ z.f) : ∀ x y, x < y → y < (l ++ [z]).length → (el (l ++ [z]) x).f ≤ (el (l ++ [z]) y).f := by
  intro x y hxy hy
  simp at hy
  rw [el_snoc, el_snoc, if_pos (by omega)]
  by_cases h1 : y < l.length
  · rw [if_pos h1]; exact h x y hxy h1
  · rw [if_neg h1, if_pos (by omega)]; exact hz _ (el_mem (by omega))
theorem Up.rise {l : List Sn} (h : Up 0 l) {i : Nat} (hi : i + 1 < l.length) : (el l i).f ≤ (el l (i + 1)).f := by
  have h1 := h.succ hi
  have h2 := (h.at (show i < l.length by omega)).2.1
  omega
theorem MInv.stepA {a b : List Sn} {i k : Nat} {acc : List Sn} (ha : Up 0 a) (h : MInv a b i k acc) (hi : i < a.length) (hle : k < b.length → (el a i).f ≤ (el b k).f) : MInv a b (i + 1) k (acc ++ [el a i]) := by
  refine ⟨hi, h.kb, by simp [h.len]; omega, fun n => ?_, srt_snoc h.srt (h.la hi), fun h1 s hs => ?_, fun h1 s hs => ?_, fun s hs => ?_⟩
  · rw [hasS_append, h.has, take_snoc hi, hasS_append]
    cases hasS (a.take i) n <;> cases hasS (b.take k) n <;> simp
  · rcases List.mem_append.1 hs with hs | hs
    · have := h.la hi s hs
      have := ha.rise h1
      omega
    · rw [List.mem_singleton] at hs; subst hs; exact ha.rise h1
  · rcases List.mem_append.1 hs with hs | hs
    · exact h.lb h1 s hs
    · rw [List.mem_singleton] at hs; subst hs; exact hle h1
  · rcases List.mem_append.1 hs with hs | hs
    · exact h.ok s hs
    · rw [List.mem_singleton] at hs; subst hs; exact ha.at hi
theorem MInv.stepB {a b : List Sn} {i k : Nat} {acc : List Sn} (hb : Up 0 b) (h : MInv a b i k acc) (hk : k < b.length) (hle : i < a.length → (el b k).f ≤ (el a i).f) : MInv a b i (k + 1) (acc ++ [el b k]) := by
  refine ⟨h.ia, hk, by simp [h.len]; omega, fun n => ?_, srt_snoc h.srt (h.lb hk), fun h1 s hs => ?_, fun h1 s hs => ?_, fun s hs => ?_⟩
  · rw [hasS_append, h.has, take_snoc hk, hasS_append]
    cases hasS (a.take i) n <;> cases hasS (b.take k) n <;> simp
  · rcases List.mem_append.1 hs with hs | hs
    · exact h.la h1 s hs
    · rw [List.mem_singleton] at hs; subst hs; exact hle h1
  · rcases List.mem_append.1 hs with hs | hs
    · have := h.lb hk s hs
      have := hb.rise h1
      omega
    · rw [List.mem_singleton] at hs; subst hs; exact hb.rise h1
  · rcases List.mem_append.1 hs with hs | hs
    · exact h.ok s hs
    · rw [List.mem_singleton] at hs; subst hs; exact hb.at hk
theorem mrg_spec {a b : List Sn} (ha : Up 0 a) (hb : Up 0 b) : ∀ (F i k : Nat) (acc : List Sn), MInv a b i k acc → a.length + b.length ≤ F + i + k → MInv a b a.length b.length (mrg a b F i k acc) := by
  intro F
  induction F with
  | zero =>
    intro i k acc h hF
    have e1 : i = a.length := by have := h.ia; have := h.kb; omega
    have e2 : k = b.length := by have := h.ia; have := h.kb; omega
    subst e1; subst e2
    exact h
  | succ F ih =>
    intro i k acc h hF
    simp only [mrg]
    split
    · split
      · rename_i h1 h2
        exact ih _ _ _ (h.stepA ha (by omega) fun h3 => by rcases h2 with h2 | h2; exact absurd h3 (by omega); exact h2.2) (by omega)
      · rename_i h1 h2
        exact ih _ _ _ (h.stepB hb (by omega) fun h3 => by
          have : ¬ (el a i).f ≤ (el b k).f := fun e => h2 (Or.inr ⟨h3, e⟩)
          omega) (by omega)
    · rename_i h1
      have e1 : i = a.length := by have := h.ia; omega
      have e2 : k = b.length := by have := h.kb; omega
      subst e1; subst e2
      exact h
theorem MInv.start (a b : List Sn) : MInv a b 0 0 [] := ⟨Nat.zero_le _, Nat.zero_le _, rfl, fun _ => rfl, fun x y _ h => absurd h (Nat.not_lt_zero _), fun _ s hs => (by cases hs), fun _ s hs => (by cases hs), fun s hs => (by cases hs)⟩
def mrgS (a b : List Sn) : List Sn := mrg a b (a.length + b.length) 0 0 []
theorem mrgS_inv {a b : List Sn} (ha : Up 0 a) (hb : Up 0 b) : MInv a b a.length b.length (mrgS a b) := mrg_spec ha hb _ _ _ _ (MInv.start a b) (by omega)
theorem glued_join {a b : List Sn} (ha : Up 0 a) (hb : Up 0 b) : (mrgS a b).foldl glueS [] = walkS orB a b := by
  have hM := mrgS_inv ha hb
  obtain ⟨g1, g2, _, _⟩ := glued_take hM.ok hM.srt (mrgS a b).length (Nat.le_refl _)
  rw [List.take_length] at g1 g2
  refine uniq _ _ 0 g1 (walkS_up rfl ha hb) fun n => ?_
  rw [g2, hM.has, walkS_has rfl ha hb, List.take_length, List.take_length]
  rfl

/-! ## Cut -/

def cutS (x y : Sn) : List Sn :=
  if y.t < x.f ∨ x.t < y.f then [x] else (if x.f < y.f then [⟨x.f, y.f - 1⟩] else []) ++ (if y.t < x.t then [⟨y.t + 1, x.t⟩] else [])
def cutsS (l : List Sn) (y : Sn) : List Sn := l.flatMap fun x => cutS x y
theorem cutS_len (x y : Sn) : (cutS x y).length ≤ 2 := by
  unfold cutS
  split
  · simp
  · split <;> split <;> simp
theorem cutsS_len (l : List Sn) (y : Sn) : (cutsS l y).length ≤ 2 * l.length := by
  induction l with
  | nil => simp [cutsS]
  | cons x r ih =>
    have := cutS_len x y
    simp only [cutsS, List.flatMap_cons, List.length_append, List.length_cons] at ih ⊢
    omega
theorem cutsS_snoc (l : List Sn) (k : Nat) (y : Sn) (hk : k < l.length) : cutsS (l.take (k + 1)) y = cutsS (l.take k) y ++ cutS (el l k) y := by
  rw [take_snoc hk]
  simp [cutsS]
theorem cutsS_spec (l : List Sn) (y : Sn) (hy0 : y.f ≤ y.t) (hy1 : y.t < 18446744073709551615) : ∀ lo, Up lo l → Up lo (cutsS l y) ∧ ∀ n, hasS (cutsS l y) n = (hasS l n && !(decide (y.f ≤ n) && decide (n ≤ y.t))) := by
  induction l with
  | nil => intro lo _; exact ⟨trivial, fun n => rfl⟩
  | cons x r ih =>
    rintro lo ⟨h1, h2, h3, h4⟩
    obtain ⟨k1, k2⟩ := ih _ h4
    have e : cutsS (x :: r) y = cutS x y ++ cutsS r y := rfl
    rw [e]
    have hs : ∀ n, hasS (cutS x y) n = ((decide (x.f ≤ n) && decide (n ≤ x.t)) && !(decide (y.f ≤ n) && decide (n ≤ y.t))) := by
      intro n
      unfold cutS
      rw [Bool.eq_iff_iff]
      split
      · rw [hasS_cons, hasS_nil]
        simp
        omega
      · rw [hasS_append]
        split <;> split <;> simp [hasS_cons, hasS_nil] <;> omega
    refine ⟨?_, fun n => ?_⟩
    · unfold cutS
      split
      · exact ⟨h1, h2, h3, k1⟩
      · split
        · split
          · exact ⟨h1, by show x.f ≤ y.f - 1; omega, by show y.f - 1 < _; omega, by show y.f - 1 + 2 ≤ y.t + 1; omega, by show y.t + 1 ≤ x.t; omega, h3, k1⟩
          · exact ⟨h1, by show x.f ≤ y.f - 1; omega, by show y.f - 1 < _; omega, k1.mono (by show y.f - 1 + 2 ≤ _; omega)⟩
        · split
          · exact ⟨by show lo ≤ y.t + 1; omega, by show y.t + 1 ≤ x.t; omega, h3, k1⟩
          · exact k1.mono (by omega)
    · rw [hasS_append, hs, k2, hasS_cons]
      cases (decide (x.f ≤ n) && decide (n ≤ x.t)) <;> cases hasS r n <;> cases (decide (y.f ≤ n) && decide (n ≤ y.t)) <;> rfl
theorem cuts_minus {a b : List Sn} (ha : Up 0 a) (hb : Up 0 b) (k : Nat) (hk : k ≤ b.length) : (b.take k).foldl cutsS a = walkS butB a (b.take k) := by
  induction k with
  | zero =>
    rw [List.take_zero]
    refine uniq _ _ 0 ha (walkS_up rfl ha trivial) fun n => ?_
    rw [walkS_has rfl ha (by trivial : Up 0 [])]
    simp [hasS_nil, butB]
  | succ k ih =>
    have hk' : k < b.length := by omega
    have hbk := hb.take k
    have hbk1 := hb.take (k + 1)
    rw [take_snoc hk', List.foldl_append, ih (by omega)] at *
    simp only [List.foldl_cons, List.foldl_nil]
    obtain ⟨v1, v2, v3⟩ := hb.at hk'
    obtain ⟨c1, c2⟩ := cutsS_spec (walkS butB a (b.take k)) (el b k) v2 v3 0 (walkS_up rfl ha hbk)
    refine uniq _ _ 0 c1 (walkS_up rfl ha hbk1) fun n => ?_
    rw [c2, walkS_has rfl ha hbk, walkS_has rfl ha hbk1, hasS_append, hasS_cons, hasS_nil]
    unfold butB
    cases hasS a n <;> cases hasS (b.take k) n <;> simp
end Go.Proofs.Ytlbeincgknmijaa
