/-
  One of them is suspected by another one: what each knows of it, step by step. No program is known here. One of them is suspected: a tick, and what follows; who is pinged in which round. No program is known here. One of them is suspected: how it begins, and how it ends. No program is known here.
-/
import Derived.Test.YtpoofjnfaijjjaaGreatDoorMCam
import Derived.Test.YtpoofjnfaijjjaaGreatDoorMTkd
namespace Go.Proofs.YtpoofjnfaijjjaaGreatDoor
open Go.RowKit Go.Proofs.YtpoofjnfaijjjaaGreatDoor.Ro
/-- What may be told of it: phase 0: that it is Alive, Suspect or Dead at 0; phase 1: also that it is Alive at 1. -/
def Aw (n w c : Nat) (u : Upd) : Prop := Af n u ∨ (u.n = w ∧ u.i = 0 ∧ (u.s = 1 ∨ u.s = 3)) ∨ (c = 1 ∧ u.n = w ∧ u.i = 1 ∧ u.s = 0)
def Iw (w c j : Nat) : Int → Prop := fun i => i = if j = w then (c : Int) else 0
def Bt (w : Nat) (f : Tab) : Prop := f w = some ⟨w, 1, 0⟩
def Sb (w : Nat) (f : Tab) : Prop := ∃ v, f w = some v ∧ (v.s ≠ 0 ∨ v.i = 1)
structure St (n w c j : Nat) (d : Det) : Prop where
  ni : Ni (Aw n w c) (Iw w c j) j d
  kn : ∀ m, m < n → (d.f m).isSome = true
  le : d.le = false
section
variable {n w c j : Nat} {d : Det} {u : Upd}
theorem Aw.up {c' : Nat} (h : Aw n w c u) (hc : c ≤ c') (h1 : c' ≤ 1) : Aw n w c' u := by
  rcases h with h | h | ⟨h, h'⟩
  · exact .inl h
  · exact .inr (.inl h)
  · exact .inr (.inr ⟨by omega, h'⟩)
theorem Aw.rng (h : Aw n w c u) (hw : w < n) : 0 ≤ u.n ∧ u.n < n ∧ 0 ≤ u.i ∧ u.i ≤ 1 ∧ 0 ≤ u.s ∧ u.s ≤ 3 := by
  rcases h with h | ⟨h1, h2, h3⟩ | ⟨_, h1, h2, h3⟩
  · have := h.n0; have := h.n1; have := h.i; have := h.s; omega
  · omega
  · omega
theorem Aw.may (h : Aw n w c u) (hw : w < n) (hn : n ≤ 64) : mayU u = true := by
  have := h.rng hw
  unfold mayU mayS
  simp
  omega
theorem Aw.not (h : Aw n w c u) (hne : u.n ≠ w) : Af n u := by
  rcases h with h | ⟨h1, _⟩ | ⟨_, h1, _⟩
  · exact h
  · exact absurd h1 hne
  · exact absurd h1 hne
theorem newer_iff {a b x y : Int} : newerS a b x y = true ↔ x < a ∨ (a = x ∧ y < b) := by
  unfold newerS
  simp
/-- At a node that is not the hearer's own. -/
theorem hear_at {k m : Nat} {f : Tab} (hm : m ≠ k) : (hearS k f u).2 m = f m ∨ (u.n = m ∧ (hearS k f u).2 m = some u ∧ ∀ v, f m = some v → newerU u v = true) := by
  unfold hearS
  split
  · rename_i hmay
    split
    · unfold refuteS
      split
      · split
        · exact .inl rfl
        · exact .inl (Tab.set_other _ _ hm)
      · exact .inl rfl
    · split
      · exact .inl rfl
      · rename_i hc
        by_cases e : m = u.n.toNat
        · have h0 : 0 ≤ u.n := by
            unfold mayU mayS at hmay
            simp only [Bool.and_eq_true, decide_eq_true_eq] at hmay
            omega
          refine .inr ⟨by omega, ?_, fun v hv => ?_⟩
          · show f.set u.n.toNat u m = _
            rw [e]; exact Tab.set_same _ _ _
          · rw [← e, hv] at hc
            cases hx : newerU u v
            · exfalso; apply hc; simp [ud, hx]
            · rfl
        · exact .inl (Tab.set_other _ _ e)
  · exact .inl rfl
theorem hear_some {k m : Nat} {f : Tab} (h : (f m).isSome = true) : ((hearS k f u).2 m).isSome = true := by
  unfold hearS
  split
  · split
    · unfold refuteS
      split
      · split
        · exact h
        · show ((f.set k ⟨k, u.i + 1, 0⟩) m).isSome = true
          by_cases e : m = k
          · subst e; rw [Tab.set_same]; rfl
          · rw [Tab.set_other _ _ e]; exact h
      · exact h
    · split
      · exact h
      · show ((f.set u.n.toNat u) m).isSome = true
        by_cases e : m = u.n.toNat
        · subst e; rw [Tab.set_same]; rfl
        · rw [Tab.set_other _ _ e]; exact h
  · exact h
theorem hear_code {k : Nat} {f : Tab} (h : mayU u = true) (hi : u.i ≠ 18446744073709551615) : (hearS k f u).1.2 = 0 ∨ (hearS k f u).1.2 = 70 := by
  have hi' : ¬ (u.i == 18446744073709551615) = true := by simpa using hi
  unfold hearS
  rw [if_pos h]
  split
  · unfold refuteS
    split
    · exact .inl rfl
    · exact .inr rfl
  · split
    · exact .inr rfl
    · exact .inl rfl
theorem take_zero {k : Nat} (h : mayU u = true) (hi : u.i ≠ 18446744073709551615) (f : Int) (l : List Int) : (d.take k u f l).1 = 0 := by
  have hc := hear_code (k := k) (f := d.f) h hi
  unfold Det.take
  rw [if_neg (by omega)]
  split
  · rfl
  · split
    · rfl
    · split <;> rfl
/-- A step of one of them: phases, what it knows, the round of the one that is suspected. -/
structure Ste (n w j c : Nat) (d : Det) (c' : Nat) (d' : Det) : Prop where
  le : c ≤ c'
  c1 : c' ≤ 1
  same : j ≠ w → c' = c
  st : St n w c' j d'
  B : j ≠ w → Bt w d.f → Bt w d'.f
  S : j ≠ w → Sb w d.f → Sb w d'.f
  s : j = w → d'.s = d.s
  W : d'.W = d.W
  E : d'.E = d.E
theorem Ste.refl (h : St n w c j d) (hc : c ≤ 1) : Ste n w j c d c d := ⟨Nat.le_refl _, hc, fun _ => rfl, h, fun _ h => h, fun _ h => h, fun _ => rfl, rfl, rfl⟩
theorem Ste.trans {c1 c2 : Nat} {d1 d2 : Det} (h : Ste n w j c d c1 d1) (k : Ste n w j c1 d1 c2 d2) : Ste n w j c d c2 d2 :=
  ⟨Nat.le_trans h.le k.le, k.c1, fun e => (k.same e).trans (h.same e), k.st, fun e x => k.B e (h.B e x), fun e x => k.S e (h.S e x), fun e => (k.s e).trans (h.s e), k.W.trans h.W, k.E.trans h.E⟩
theorem St.up {c' : Nat} (h : St n w c j d) (hj : j ≠ w) (hc : c ≤ c') (h1 : c' ≤ 1) : St n w c' j d :=
  ⟨⟨by
    obtain ⟨i, e, hi⟩ := h.ni.m
    unfold Iw at hi ⊢
    rw [if_neg hj] at hi ⊢
    exact ⟨i, e, hi⟩, fun m v hv => (h.ni.f m v hv).up hc h1, h.ni.n, fun x hx => (h.ni.Q x hx).up hc h1, fun x hx => (h.ni.D x hx).up hc h1, h.ni.E, h.ni.W⟩, h.kn, h.le⟩
/-- What one of them knows of the others but the suspected one. -/
theorem St.al (h : St n w c j d) {m : Nat} (hm : m < n) (hmw : m ≠ w) : d.f m = some ⟨m, 0, 0⟩ := by
  obtain ⟨v, hv⟩ := Option.isSome_iff_exists.1 (h.kn m hm)
  have hn := h.ni.n m v hv
  have ha := (h.ni.f m v hv).not (by omega)
  rw [hv]
  obtain ⟨a, b, s⟩ := v
  have h3 := ha.i
  have h4 := ha.s
  dsimp only at hn h3 h4
  rw [hn, h3, h4]
theorem clsu (hu : Aw n w c u) (h : j ≠ w ∨ c = 1 ∨ u.n ≠ w ∨ u.s = 0) (hc : c ≤ 1) : ClsU (Aw n w c) (Iw w c j) j u := by
  refine ⟨fun hs => ?_, fun i hn hi hnew => ?_⟩
  · rcases hu with h | ⟨h1, h2, h3⟩ | ⟨_, h1, h2, h3⟩
    · have := h.s; omega
    · exact .inr (.inl ⟨h1, h2, .inr rfl⟩)
    · omega
  · exfalso
    unfold Iw at hi
    rw [newer_iff] at hnew
    rcases hu with h' | ⟨h1, h2, h3⟩ | ⟨h0, h1, h2, h3⟩
    · have := h'.i; have := h'.s
      by_cases e : j = w
      · rw [if_pos e] at hi; omega
      · rw [if_neg e] at hi; omega
    · have e : j = w := by omega
      rw [if_pos e] at hi
      rcases h with h | h | h | h
      · exact h e
      · omega
      · omega
      · omega
    · have e : j = w := by omega
      rw [if_pos e] at hi
      omega
theorem take_ste (hn : n ≤ 64) (hw : w < n) (hj : j < n) (hc : c ≤ 1) (h : St n w c j d) (hu : Aw n w c u) (f : Int) (l : List Int) :
    ∃ c', Ste n w j c d c' (d.take j u f l).2.1 ∧ (d.take j u f l).1 = 0 ∧ (j = w → u.n = w → u.s ≠ 0 → c' = 1) ∧ (j ≠ w → u = ⟨w, 1, 0⟩ → Bt w (d.take j u f l).2.1.f) := by
  have hr := hu.rng hw
  have hmay := hu.may hw hn
  have hz := take_zero (d := d) (k := j) hmay (by omega : u.i ≠ 18446744073709551615) f l
  obtain ⟨t1, t2, _, _, t5, t6⟩ := take_fr j d u f l
  have hkn : ∀ m, m < n → ((d.take j u f l).2.1.f m).isSome = true := fun m hm => by rw [t6]; exact hear_some (h.kn m hm)
  have hle : (d.take j u f l).2.1.le = false := t5.trans h.le
  have hB : j ≠ w → Bt w d.f → Bt w (d.take j u f l).2.1.f := fun e hb => by
    unfold Bt at hb ⊢
    rw [t6]
    rcases hear_at (u := u) (f := d.f) (fun e' => e e'.symm : w ≠ j) with h' | ⟨hun, _, h3⟩
    · rw [h']; exact hb
    · have h4 := h3 _ hb
      unfold newerU at h4
      rw [newer_iff] at h4
      rcases hu with h' | ⟨_, h2, _⟩ | ⟨_, _, h2, h3'⟩
      · have := h'.i; have := h'.s; dsimp only at h4; omega
      · dsimp only at h4; omega
      · dsimp only at h4; omega
  have hS : j ≠ w → Sb w d.f → Sb w (d.take j u f l).2.1.f := fun e hb => by
    obtain ⟨v, hv, hs⟩ := hb
    unfold Sb
    rw [t6]
    rcases hear_at (u := u) (f := d.f) (fun e' => e e'.symm : w ≠ j) with h' | ⟨_, h2, h3⟩
    · exact ⟨v, h'.trans hv, hs⟩
    · refine ⟨u, h2, ?_⟩
      have h4 := h3 _ hv
      unfold newerU at h4
      rw [newer_iff] at h4
      have hvr := (h.ni.f w v hv).rng hw
      omega
  by_cases hcase : j ≠ w ∨ c = 1 ∨ u.n ≠ w ∨ u.s = 0
  · refine ⟨c, ⟨Nat.le_refl _, hc, fun _ => rfl, ⟨h.ni.takeU (clsu hu hcase hc) hu f l, hkn, hle⟩, hB, hS, fun e => ?_, t1, t2⟩, hz, fun e1 e2 e3 => ?_, fun e e' => ?_⟩
    · -- at the suspected one nothing is ever news
      subst e
      have hno : (hearS j d.f u).1.1 = false := by
        unfold hearS
        rw [if_pos hmay]
        by_cases en : u.n = j
        · rw [if_pos (by rw [en]; simp)]
        · rw [if_neg (by simpa using en)]
          have ha := hu.not en
          obtain ⟨m, hm, rfl⟩ := ha.eq
          have hmj : m ≠ j := fun e => en (by rw [e])
          have hf : d.f (m : Int).toNat = some ⟨m, 0, 0⟩ := by rw [Int.toNat_natCast]; exact h.al hm hmj
          rw [if_pos (by show ((d.f (m : Int).toNat).isSome && !newerU ⟨m, 0, 0⟩ (ud (d.f (m : Int).toNat))) = true; rw [hf]; rfl)]
      unfold Det.take
      split
      · rfl
      · rw [if_neg (by rw [hno]; decide)]
        split
        · rfl
        · split <;> rfl
    · rcases hcase with h' | h' | h' | h'
      · exact absurd e1 h'
      · exact h'
      · exact absurd e2 h'
      · exact absurd h' e3
    · subst e'
      unfold Bt
      rw [t6]
      rcases hear_at (u := ⟨w, 1, 0⟩) (f := d.f) (fun e' => e e'.symm : w ≠ j) with h' | ⟨_, h2, _⟩
      · rw [h']
        obtain ⟨v, hv⟩ := Option.isSome_iff_exists.1 (h.kn w hw)
        have hvn := h.ni.n w v hv
        rw [hv]
        -- what is older would have been replaced
        have hmu := hmay
        unfold hearS at h'
        rw [if_pos hmay, if_neg (by simp; omega)] at h'
        have hvr := h.ni.f w v hv
        by_cases hnew : newerU ⟨w, 1, 0⟩ v = true
        · rw [if_neg (by show ¬ ((d.f (w : Int).toNat).isSome && !newerU ⟨w, 1, 0⟩ (ud (d.f (w : Int).toNat))) = true; rw [Int.toNat_natCast, hv]; simp [ud, hnew])] at h'
          have h'' : d.f.set (w : Int).toNat ⟨w, 1, 0⟩ w = d.f w := h'
          rw [Int.toNat_natCast, Tab.set_same, hv] at h''
          rw [← h'']
        · have hnn : ¬ (v.i < 1 ∨ ((1 : Int) = v.i ∧ v.s < 0)) := by
            intro hx
            apply hnew
            unfold newerU
            rw [newer_iff]
            exact hx
          rcases hvr with h1 | ⟨_, h2, _⟩ | ⟨_, _, h2, h3⟩
          · have := h1.i; omega
          · omega
          · obtain ⟨a, b, s⟩ := v
            dsimp only at hvn h2 h3
            rw [hvn, h2, h3]
      · exact h2
  · -- it refutes
    have e1 : j = w := by
      by_cases e : j = w
      · exact e
      · exact absurd (.inl e) hcase
    have e2 : c = 0 := by
      by_cases e : c = 1
      · exact absurd (.inr (.inl e)) hcase
      · omega
    have e3 : u.n = w := by
      by_cases e : u.n = w
      · exact e
      · exact absurd (.inr (.inr (.inl e))) hcase
    have e4 : u.s ≠ 0 := fun e => hcase (.inr (.inr (.inr e)))
    subst e1
    subst e2
    obtain ⟨i, hi, hI⟩ := h.ni.m
    unfold Iw at hI
    rw [if_pos rfl] at hI
    have hI : i = 0 := hI
    subst hI
    have hui : u.i = 0 := by
      rcases hu with h' | ⟨_, h2, _⟩ | ⟨h0, _⟩
      · exact h'.i
      · exact h2
      · cases h0
    have hown := hear_own hi hmay e3
    rw [if_pos (by unfold newerU; rw [newer_iff]; dsimp only; omega), if_neg (by rw [hui]; decide), hui] at hown
    have htake : (d.take j u f l).2.1 = ({ d with f := d.f.set j ⟨j, 1, 0⟩ } : Det).tell ⟨j, 1, 0⟩ := by
      unfold Det.take
      rw [hown]
      dsimp only
      rw [if_neg (by decide), if_neg (by decide), if_pos rfl]
      dsimp only
      rw [show (0 : Int) + 1 = 1 from rfl, Tab.set_same]
      rfl
    have h1A : Aw n j 1 ⟨j, 1, 0⟩ := .inr (.inr ⟨rfl, rfl, rfl, rfl⟩)
    have up : ∀ {v : Upd}, Aw n j 0 v → Aw n j 1 v := fun h => h.up (Nat.zero_le _) (Nat.le_refl _)
    have hni : Ni (Aw n j 1) (Iw j 1 j) j ({ d with f := d.f.set j ⟨j, 1, 0⟩ } : Det) := by
      refine ⟨⟨1, Tab.set_same _ _ _, by unfold Iw; rw [if_pos rfl]; rfl⟩, fun m v hv => ?_, fun m v hv => ?_, fun x hx => up (h.ni.Q x hx), fun x hx => up (h.ni.D x hx), h.ni.E, h.ni.W⟩
      · have hv' : d.f.set j ⟨j, 1, 0⟩ m = some v := hv
        by_cases e : m = j
        · subst e; rw [Tab.set_same] at hv'; rw [← Option.some.inj hv']; exact h1A
        · rw [Tab.set_other _ _ e] at hv'; exact up (h.ni.f m v hv')
      · have hv' : d.f.set j ⟨j, 1, 0⟩ m = some v := hv
        by_cases e : m = j
        · subst e; rw [Tab.set_same] at hv'; rw [← Option.some.inj hv']
        · rw [Tab.set_other _ _ e] at hv'; exact h.ni.n m v hv'
    refine ⟨1, ⟨Nat.zero_le _, Nat.le_refl _, fun e => absurd rfl e, ⟨by rw [htake]; exact hni.tell h1A, hkn, hle⟩, fun e => absurd rfl e, fun e => absurd rfl e, fun _ => by rw [htake]; rfl, t1, t2⟩, hz, fun _ _ _ => rfl, fun e => absurd rfl e⟩
theorem takes_ste (hn : n ≤ 64) (hw : w < n) (hj : j < n) (f : Int) : ∀ (U : List Upd) {c : Nat} {d : Det} (_ : c ≤ 1) (_ : St n w c j d) (_ : ∀ u ∈ U, Aw n w c u) (l : List Int),
    ∃ c', Ste n w j c d c' (d.takes j f U l).2.1 ∧ (d.takes j f U l).1 = 0 ∧ (j = w → (∃ u ∈ U, u.n = w ∧ u.s ≠ 0) → c' = 1) ∧ (j ≠ w → (⟨w, 1, 0⟩ : Upd) ∈ U → Bt w (d.takes j f U l).2.1.f)
  | [], c, d, hc, h, _, l => ⟨c, Ste.refl h hc, rfl, (fun _ ⟨u, hu, _⟩ => by cases hu), (fun _ hu => by cases hu)⟩
  | u :: r, c, d, hc, h, hU, l => by
    obtain ⟨c1, s1, z1, a1, b1⟩ := take_ste hn hw hj hc h (hU u (by simp)) f l
    have hr : ∀ v ∈ r, Aw n w c1 v := fun v hv => (hU v (by simp [hv])).up s1.le s1.c1
    obtain ⟨c2, s2, z2, a2, b2⟩ := takes_ste hn hw hj f r s1.c1 s1.st hr (d.take j u f l).2.2
    rw [Det.takes, z1, if_neg (by decide)]
    refine ⟨c2, s1.trans s2, z2, fun e ⟨v, hv, h1, h2⟩ => ?_, fun e hv => ?_⟩
    · rcases List.mem_cons.1 hv with rfl | hv
      · have := a1 e h1 h2; have := s2.le; have := s2.c1; omega
      · exact a2 e ⟨v, hv, h1, h2⟩
    · rcases List.mem_cons.1 hv with e' | hv
      · exact s2.B e (b1 e e'.symm)
      · exact b2 e hv
theorem dead_ste (hn : n ≤ 64) (hw : w < n) (hj : j < n) : ∀ (U : List Upd) {c : Nat} {d : Det} (_ : c ≤ 1) (_ : St n w c j d) (_ : ∀ u ∈ U, Aw n w c u) (l : List Int), ∃ c', Ste n w j c d c' (d.dead j U l).1
  | [], c, d, hc, h, _, l => ⟨c, Ste.refl h hc⟩
  | u :: r, c, d, hc, h, hU, l => by
    obtain ⟨c1, s1, _⟩ := take_ste hn hw hj hc h (hU u (by simp)) j l
    have hr : ∀ v ∈ r, Aw n w c1 v := fun v hv => (hU v (by simp [hv])).up s1.le s1.c1
    obtain ⟨c2, s2⟩ := dead_ste hn hw hj r s1.c1 s1.st hr (d.take j u j l).2.2
    exact ⟨c2, s1.trans s2⟩
theorem told_ste (h : St n w c j d) (hc : c ≤ 1) (x : Int) : Ste n w j c d c (d.told j x) :=
  ⟨Nat.le_refl _, hc, fun _ => rfl, ⟨h.ni.told x, h.kn, h.le⟩, fun _ h => h, fun _ h => h, fun _ => rfl, rfl, rfl⟩
end
end Go.Proofs.YtpoofjnfaijjjaaGreatDoor
namespace Go.Proofs.YtpoofjnfaijjjaaGreatDoor
open Go.RowKit Go.Proofs.YtpoofjnfaijjjaaGreatDoor.Ro
def Oth (n w : Nat) (x : Int) : Prop := ∃ m : Nat, x = m ∧ m < n ∧ m ≠ w
/-- The next one of the round: the first that is left, or the first of all of them, shuffled. -/
def NX (n w : Nat) (s : List Int) (x : Int) (s' : List Int) : Prop := s = x :: s' ∨ (s = [] ∧ (∀ y, y ∈ x :: s' ↔ Oth n w y) ∧ (x :: s').length + 1 = n)
section
variable {n w c k j : Nat} {d : Det}
theorem inv_st (hn : n ≤ 64) (hw : w < n) (hj : j < n) (h : St n w c j d) : Inv j d.f := by
  refine ⟨by omega, ?_, fun m u hu => ?_⟩
  · obtain ⟨i, hi, _⟩ := h.ni.m
    exact ⟨i, hi⟩
  · have ha := h.ni.f m u hu
    have hr := ha.rng hw
    exact ⟨ha.may hw hn, h.ni.n m u hu, by unfold InOk; omega⟩
theorem oth_mem (hn : n ≤ 64) (hw : w < n) (hj : j < n) (h : St n w c j d) : (∀ x ∈ othS j d.f, Oth n j x) ∧ ∀ m : Nat, m < n → m ≠ j → m ≠ w → (m : Int) ∈ othS j d.f := by
  have hI := inv_st hn hw hj h
  refine ⟨fun x hx => ?_, fun m hm hmj hmw => ?_⟩
  · have hne := oth_not j d.f x hx
    have hr := oth_nd hx
    unfold othS at hx
    rw [Bnd.mem_lst] at hx
    unfold Bnd.hasS at hx
    simp only [Bool.and_eq_true] at hx
    have h2 := hx.2
    rw [Bnd.testBit_lessS, testBit_all hI (by have := hr.2; omega : x.toNat < 64)] at h2
    have hl : liveAt d.f x.toNat = true := by
      cases e : liveAt d.f x.toNat
      · rw [e] at h2; cases h2
      · rfl
    unfold liveAt at hl
    simp only [Bool.and_eq_true] at hl
    obtain ⟨v, hv⟩ := Option.isSome_iff_exists.1 hl.1
    have h3 := (h.ni.f _ v hv).rng hw
    have h4 := h.ni.n _ v hv
    exact ⟨x.toNat, by have := hr.1; omega, by omega, by have := hr.1; omega⟩
  · unfold othS
    rw [Bnd.mem_lst]
    unfold Bnd.hasS
    rw [Bnd.testBit_lessS, Int.toNat_natCast, testBit_all hI (by omega : m < 64)]
    have hl : liveAt d.f m = true := by
      unfold liveAt
      rw [h.al hm hmw]
      rfl
    simp [hl, Bnd.nodeS]
    omega
theorem len_oth {s : List Int} (hw : w < n) (hs : s.Nodup) (hm : ∀ x, x ∈ s ↔ Oth n w x) : s.length + 1 = n := by
  have hc : ((List.range n).map fun (i : Nat) => (i : Int)).Nodup := by
    rw [List.nodup_iff_pairwise_ne, List.pairwise_map]
    exact List.nodup_range.imp fun h e => h (by omega)
  have h1 := nodup_sub ((w : Int) :: s) ((List.range n).map fun (i : Nat) => (i : Int)) (List.nodup_cons.2 ⟨fun h => by
    obtain ⟨m, e, _, h2⟩ := (hm _).1 h
    exact h2 (by omega), hs⟩) fun x hx => by
    rcases List.mem_cons.1 hx with rfl | hx
    · exact List.mem_map.2 ⟨w, List.mem_range.2 hw, rfl⟩
    · obtain ⟨m, e, h1, _⟩ := (hm _).1 hx
      exact List.mem_map.2 ⟨m, List.mem_range.2 h1, e.symm⟩
  have h2 := nodup_sub ((List.range n).map fun (i : Nat) => (i : Int)) ((w : Int) :: s) hc fun x hx => by
    obtain ⟨m, h1, rfl⟩ := List.mem_map.1 hx
    by_cases e : m = w
    · subst e; simp
    · exact List.mem_cons_of_mem _ ((hm _).2 ⟨m, rfl, List.mem_range.1 h1, e⟩)
  simp only [List.length_cons, List.length_map, List.length_range] at h1 h2
  omega
theorem nxt_rr {s o : List Int} (l : List Int) (hs : ∀ y ∈ s, y ∈ o) (ho : o ≠ []) : s = (Rn.nxtS s o l).1.1 :: (Rn.nxtS s o l).2.1 ∨ (s = [] ∧ ((Rn.nxtS s o l).1.1 :: (Rn.nxtS s o l).2.1).Perm o) := by
  unfold Rn.nxtS
  rw [if_neg ho]
  cases s with
  | nil =>
    right
    rw [List.dropWhile_nil, if_pos rfl]
    refine ⟨rfl, ?_⟩
    have hp := Rn.shufS_perm o l
    cases e : (Rn.shufS o l).1 with
    | nil =>
      rw [e] at hp
      exact absurd hp.symm.eq_nil ho
    | cons a r =>
      rw [e] at hp
      exact hp
  | cons a r =>
    left
    have : (a :: r).dropWhile (fun x => !decide (x ∈ o)) = a :: r := by
      rw [List.dropWhile_cons]
      have : a ∈ o := hs a (by simp)
      simp [this]
    rw [this, if_neg (by simp)]
    rfl
theorem tick_ste (hn : n ≤ 64) (h3 : 3 ≤ n) (hw : w < n) (hk : k < n) (hc : c ≤ 1) (h : St n w c k d) (hE : d.E = []) (hW : d.W = []) (l : List Int) :
    ∃ (c' x : Nat) (q a : Int) (U : List Upd), (d.tick k l).1 = [⟨1, k, x, q, 0, U⟩] ∧ x < n ∧ x ≠ k ∧ c ≤ c' ∧ c' ≤ 1 ∧ (k ≠ w → c' = c) ∧ St n w c' k (d.tick k l).2.1 ∧ (k ≠ w → Bt w d.f → Bt w (d.tick k l).2.1.f) ∧ (k ≠ w → Sb w d.f → Sb w (d.tick k l).2.1.f) ∧
      (d.tick k l).2.1.E = [] ∧ (d.tick k l).2.1.W = [⟨x, q, a, false⟩] ∧ Nin (Aw n w c') ⟨1, k, x, q, 0, U⟩ ∧ (k = w → c' = 1 → (⟨w, 1, 0⟩ : Upd) ∈ U) ∧ (k = w → (∀ y ∈ d.s, Oth n w y) → NX n w d.s x (d.tick k l).2.1.s) := by
  obtain ⟨f, s, Q, D, W, E, la, no, le⟩ := d
  have hle := h.le
  dsimp only at hE hW hle
  subst hE hW hle
  obtain ⟨y, HY⟩ : ∃ y, u64w (no + 1) = y := ⟨_, rfl⟩
  have h2 : St n w c k (⟨f, s, Q, Do.stayD D y, [], [], la, y, false⟩ : Det) :=
    ⟨⟨h.ni.m, h.ni.f, h.ni.n, h.ni.Q, fun x hx => h.ni.D x (List.mem_filter.1 hx).1, (fun x hx => by cases hx), (fun x hx => by cases hx)⟩, h.kn, rfl⟩
  obtain ⟨c', s3⟩ := dead_ste hn hw hk ((Do.overD D y).map Do.deadOf) hc h2 (fun u hu => by
    obtain ⟨x, hx, rfl⟩ := List.mem_map.1 hu
    exact h.ni.D x (List.mem_filter.1 hx).1) l
  have e : (⟨f, s, Q, D, [], [], la, no, false⟩ : Det).tick k l = ((⟨f, s, Q, Do.stayD D (u64w (no + 1)), [], [], la, u64w (no + 1), false⟩ : Det).dead k ((Do.overD D (u64w (no + 1))).map Do.deadOf) l).1.pingNext k ((⟨f, s, Q, Do.stayD D (u64w (no + 1)), [], [], la, u64w (no + 1), false⟩ : Det).dead k ((Do.overD D (u64w (no + 1))).map Do.deadOf) l).2 := rfl
  rw [HY] at e
  rw [e]
  clear e
  generalize (⟨f, s, Q, Do.stayD D y, [], [], la, y, false⟩ : Det).dead k ((Do.overD D y).map Do.deadOf) l = X at *
  obtain ⟨d3, l3⟩ := X
  dsimp only at s3 ⊢
  have ho := oth_mem hn hw hk s3.st
  have hne : othS k d3.f ≠ [] := fun e => by
    obtain ⟨m, hm, hmk, hmw⟩ : ∃ m : Nat, m < n ∧ m ≠ k ∧ m ≠ w := by
      by_cases h0 : k ≠ 0 ∧ w ≠ 0
      · exact ⟨0, by omega, by omega, by omega⟩
      · by_cases h1 : k ≠ 1 ∧ w ≠ 1
        · exact ⟨1, by omega, by omega, by omega⟩
        · exact ⟨2, by omega, by omega, by omega⟩
    have := ho.2 m hm hmk hmw
    rw [e] at this
    cases this
  have hnx := nxt_some (s := d3.s) (o := othS k d3.f) l3 hne
  obtain ⟨x, hx, hxn, hxk⟩ := ho.1 _ (nxt_in (s := d3.s) l3 hnx)
  have hpn := Ni.pingNext s3.st.ni l3
  have hrr := fun hs => nxt_rr (s := d3.s) (o := othS k d3.f) l3 hs hne
  have hNX : k = w → (∀ y ∈ s, Oth n w y) → NX n w s x (Rn.nxtS d3.s (othS k d3.f) l3).2.1 := fun e hs => by
    subst e
    have hss : d3.s = s := s3.s rfl
    rcases hrr (fun y hy => by
      rw [hss] at hy
      obtain ⟨m, rfl, h1, h2⟩ := hs y hy
      exact ho.2 m h1 h2 h2) with h' | ⟨h', hp⟩
    · left
      rw [← hss, ← hx]
      exact h'
    · right
      rw [hx] at hp
      have hmem : ∀ y, y ∈ othS k d3.f ↔ Oth n k y := fun y => ⟨ho.1 y, fun ⟨m, e, h1, h2⟩ => by rw [e]; exact ho.2 m h1 h2 h2⟩
      refine ⟨hss ▸ h', fun y => (hp.mem_iff).trans (hmem y), ?_⟩
      rw [hp.length_eq]
      exact len_oth hw (oth_nodup _ _) hmem
  have hmine : k = w → c' = 1 → ∀ z, (⟨w, 1, 0⟩ : Upd) ∈ ({ d3 with s := (Rn.nxtS d3.s (othS k d3.f) l3).2.1 } : Det).news k z := fun e e1 z => by
    subst e
    obtain ⟨i, hi, hI⟩ := s3.st.ni.m
    unfold Iw at hI
    rw [if_pos rfl, e1] at hI
    have hI : i = 1 := hI
    subst hI
    unfold Det.news Det.pre Det.mine
    rw [hi]
    split <;> simp [ud]
  unfold Det.pingNext at hpn ⊢
  dsimp only at hpn ⊢
  rw [if_neg (by rw [hnx]; decide)] at hpn ⊢
  rw [hx] at hpn ⊢
  refine ⟨c', x, u64w (d3.la + 1), d3.no, ({ d3 with s := (Rn.nxtS d3.s (othS k d3.f) l3).2.1 } : Det).news k x, rfl, hxn, hxk, s3.le, s3.c1, s3.same, ⟨hpn.2, s3.st.kn, s3.st.le⟩, s3.B, s3.S, s3.E, ?_, hpn.1 _ (by simp; rfl), fun e e1 => hmine e e1 _, hNX⟩
  show d3.W ++ _ = _
  rw [s3.W]
  rfl
/-- A note is heard. -/
theorem hear_ste (hn : n ≤ 64) (hw : w < n) (hj : j < n) (hc : c ≤ 1) (h : St n w c j d) {K q o : Int} {x : Nat} {U : List Upd} (hx : x < n) (hxj : x ≠ j) (ho : Nd o) (hK : 1 ≤ K ∧ K ≤ 3) (hU : ∀ u ∈ U, Aw n w c u) (l : List Int) :
    ∃ (c' : Nat) (d1 : Det) (l' : List Int), Ste n w j c d c' d1 ∧ d.hear j ⟨K, x, j, q, o, U⟩ l = (((d1.answer j ⟨K, x, j, q, o, U⟩).1, 0), (d1.answer j ⟨K, x, j, q, o, U⟩).2, l') ∧ (j = w → (∃ u ∈ U, u.n = w ∧ u.s ≠ 0) → c' = 1) ∧ (j ≠ w → (⟨w, 1, 0⟩ : Upd) ∈ U → Bt w d1.f) := by
  have hflt : d.fault j ⟨K, x, j, q, o, U⟩ = 0 := by
    unfold Det.fault
    rw [if_neg (by rw [h.le]; decide)]
    have h1 : nodeB (x : Int) = true := by unfold nodeB; simp; omega
    have h2 : nodeB o = true := by unfold nodeB; simp; exact ho
    rw [if_neg (by simp [h1, h2]; omega), if_neg (show ¬ (K < 1 ∨ 3 < K) by omega)]
  have hfi : d.first j x l = (d, l) := by
    unfold Det.first
    rw [if_pos]
    unfold getS
    rw [if_pos (by omega), Int.toNat_natCast]
    exact h.kn x hx
  obtain ⟨c', s1, z1, a1, b1⟩ := takes_ste hn hw hj x U hc h hU l
  refine ⟨c', _, (d.takes j x U l).2.2, s1, ?_, a1, b1⟩
  unfold Det.hear
  rw [if_neg (by rw [hflt]; decide)]
  dsimp only
  rw [hfi]
  dsimp only
  rw [z1, if_neg (by decide)]
/-- All of them, between their ticks. -/
structure Net (n w c : Nat) (F : Nat → Det) : Prop where
  st : ∀ j, j < n → St n w c j (F j)
  E : ∀ j, j < n → (F j).E = []
  W : ∀ j, j < n → (F j).W = []
theorem St.to64 {c : Nat} (h : St n w c j d) (hw : w < n) (hc : c ≤ 1) : Ni A64 U64 j d := by
  have haf : ∀ u, Aw n w c u → A64 u := fun u hu => by have := hu.rng hw; unfold A64; exact ⟨by omega, by omega⟩
  refine ⟨?_, fun m u hu => haf u (h.ni.f m u hu), h.ni.n, fun y hy => haf _ (h.ni.Q y hy), fun y hy => haf _ (h.ni.D y hy), h.ni.E, h.ni.W⟩
  obtain ⟨i, hi, e⟩ := h.ni.m
  unfold Iw at e
  refine ⟨i, hi, ?_⟩
  rw [e]
  split
  · exact ⟨by omega, by omega⟩
  · exact ⟨by decide, by decide⟩
theorem ref_step {F : Nat → Det} (hn : n ≤ 8) (h3 : 3 ≤ n) (hw : w < n) (hk : k < n) (hc : c ≤ 1) (h : Net n w c F) (l : List Int) :
    (∀ x ∈ ((F k).tick k l).1, Nin A64 x) ∧ ((F k).tick k l).1.length ≤ 1 ∧ All64 n (putF F k ((F k).tick k l).2.1) ∧
      ∃ (c' : Nat) (F' : Nat → Det) (l' : List Int), settleS n 255 5001 (putF F k ((F k).tick k l).2.1) ((F k).tick k l).1 ((F k).tick k l).2.2 = (true, F', l') ∧ Net n w c' F' ∧ c ≤ c' ∧ c' ≤ 1 ∧
        (∀ j, j < n → j ≠ w → Bt w (F j).f → Bt w (F' j).f) ∧ (∀ j, j < n → j ≠ w → Sb w (F j).f → Sb w (F' j).f) ∧ (k ≠ w → (F' w).s = (F w).s) ∧
        (k = w → (∀ y ∈ (F w).s, Oth n w y) → ∃ x : Nat, x < n ∧ x ≠ w ∧ NX n w (F w).s x (F' w).s ∧ (Sb w (F x).f → c' = 1) ∧ (c = 1 → Bt w (F' x).f)) := by
  obtain ⟨c1, x, q, a, U, e1, hx, hxk, hc1, hc1', hsame, hT, hTB, hTS, hTE, hTW, hN, hmine, hNX⟩ := tick_ste (by omega) h3 hw hk hc (h.st k hk) (h.E k hk) (h.W k hk) l
  generalize (F k).tick k l = T at *
  obtain ⟨T1, T2, T3⟩ := T
  dsimp only at e1 hT hTB hTS hTE hTW hNX ⊢
  subst e1
  have hup : ∀ j : Nat, j < n → Bnd.hasS 255 j = true := fun j hj => by
    have : j = 0 ∨ j = 1 ∨ j = 2 ∨ j = 3 ∨ j = 4 ∨ j = 5 ∨ j = 6 ∨ j = 7 := by omega
    rcases this with e | e | e | e | e | e | e | e <;> subst e <;> rfl
  have hFx : putF F k T2 x = F x := putF_other _ _ hxk
  have hSx : St n w c1 x (F x) := by
    by_cases e : k = w
    · exact (h.st x hx).up (by omega) hc1 hc1'
    · rw [hsame e]; exact h.st x hx
  obtain ⟨c2, d1, l1, s1, hh1, a1, b1⟩ := hear_ste (d := F x) (K := 1) (q := q) (o := 0) (by omega) hw hx hc1' hSx hk (fun e => hxk e.symm) ⟨by decide, by decide⟩ ⟨by decide, by decide⟩ hN.u T3
  have ha1 : d1.answer x ⟨1, k, x, q, 0, U⟩ = ([⟨2, x, k, q, x, d1.news x k⟩], d1.told x k) := rfl
  rw [ha1] at hh1
  obtain ⟨V, HV⟩ : ∃ V, d1.news x k = V := ⟨_, rfl⟩
  have hVA : ∀ u ∈ V, Aw n w c2 u := by rw [← HV]; exact (news_A s1.st.ni k).2
  rw [HV] at hh1
  have hSk : St n w c2 k T2 := by
    by_cases e : k = w
    · rw [s1.same (by omega)]; exact hT
    · exact hT.up e s1.le s1.c1
  obtain ⟨c3, d2, l2, s2, hh2, a2, _⟩ := hear_ste (d := T2) (K := 2) (q := q) (o := x) (by omega) hw hk s1.c1 hSk hx hxk ⟨by omega, by omega⟩ ⟨by decide, by decide⟩ hVA l1
  rw [ack_cm (s2.E.trans hTE) (s2.W.trans hTW)] at hh2
  have hFk : putF (putF F k T2) x (d1.told x k) k = T2 := by rw [putF_other _ _ (fun e => hxk e.symm), putF_same]
  have hset : settleS n 255 5001 (putF F k T2) [⟨1, k, x, q, 0, U⟩] T3 = (true, putF (putF (putF F k T2) x (d1.told x k)) k { d2 with W := [] }, l2) := by
    have k1 : skipN n 255 ⟨1, k, x, q, 0, U⟩ = false := by
      unfold skipN
      dsimp only
      rw [hup x hx, hup k hk, decide_eq_false (by omega)]
      rfl
    have k2 : skipN n 255 ⟨2, x, k, q, x, V⟩ = false := by
      unfold skipN
      dsimp only
      rw [hup x hx, hup k hk, decide_eq_false (by omega)]
      rfl
    show settleS n 255 (5000 + 1) _ _ _ = _
    rw [settleS, k1, if_neg (by decide)]
    dsimp only
    rw [Int.toNat_natCast, hFx, hh1, if_pos rfl]
    dsimp only
    show settleS n 255 (4999 + 1) _ _ _ = _
    rw [List.nil_append, settleS, k2, if_neg (by decide)]
    dsimp only
    rw [Int.toNat_natCast, hFk, hh2, if_pos rfl]
    rfl
  have hc2 := s1.le
  have hc3 := s2.le
  have Fk : putF (putF (putF F k T2) x (d1.told x k)) k { d2 with W := [] } k = { d2 with W := [] } := putF_same _ _ _
  have Fx : putF (putF (putF F k T2) x (d1.told x k)) k { d2 with W := [] } x = d1.told x k := by rw [putF_other _ _ hxk, putF_same]
  have Fo : ∀ j, j ≠ k → j ≠ x → putF (putF (putF F k T2) x (d1.told x k)) k { d2 with W := [] } j = F j := fun j e1 e2 => by rw [putF_other _ _ e1, putF_other _ _ e2, putF_other _ _ e1]
  generalize putF (putF (putF F k T2) x (d1.told x k)) k { d2 with W := [] } = F' at *
  refine ⟨fun y hy => ?_, Nat.le_refl _, ⟨fun j hj => ?_, fun j hj => ?_⟩, c3, F', l2, hset, ⟨fun j hj => ?_, fun j hj => ?_, fun j hj => ?_⟩, by omega, s2.c1, fun j hj hjw hb => ?_, fun j hj hjw hb => ?_, fun e => ?_, fun e hs => ?_⟩
  · obtain rfl := List.mem_singleton.1 hy
    exact ⟨hN.q, hN.len, fun v hv => by have := (hN.u v hv).rng hw; unfold A64; exact ⟨by omega, by omega⟩⟩
  · by_cases e : j = k
    · subst e; rw [putF_same]; exact hT.to64 hw hc1'
    · rw [putF_other _ _ e]; exact (h.st j hj).to64 hw hc
  · by_cases e : j = k
    · subst e; rw [putF_same, hTW]; simp
    · rw [putF_other _ _ e, h.W j hj]; simp
  · by_cases ek : j = k
    · subst ek
      rw [Fk]
      exact ⟨⟨s2.st.ni.m, s2.st.ni.f, s2.st.ni.n, s2.st.ni.Q, s2.st.ni.D, s2.st.ni.E, fun y hy => by cases hy⟩, s2.st.kn, s2.st.le⟩
    · by_cases ex : j = x
      · subst ex
        rw [Fx]
        have ht := (told_ste s1.st s1.c1 (k : Int)).st
        by_cases e : j = w
        · rw [s2.same (by omega)]; exact ht
        · exact ht.up e hc3 s2.c1
      · rw [Fo j ek ex]
        by_cases e : j = w
        · rw [s2.same (by omega), s1.same (by omega), hsame (by omega)]; exact h.st j hj
        · exact (h.st j hj).up e (by omega) s2.c1
  · by_cases ek : j = k
    · subst ek; rw [Fk]; exact s2.E.trans hTE
    · by_cases ex : j = x
      · subst ex; rw [Fx]; exact s1.E.trans (h.E j hj)
      · rw [Fo j ek ex]; exact h.E j hj
  · by_cases ek : j = k
    · subst ek; rw [Fk]
    · by_cases ex : j = x
      · subst ex; rw [Fx]; exact s1.W.trans (h.W j hj)
      · rw [Fo j ek ex]; exact h.W j hj
  · by_cases ek : j = k
    · subst ek; rw [Fk]; exact s2.B hjw (hTB hjw hb)
    · by_cases ex : j = x
      · subst ex; rw [Fx]; exact s1.B hjw hb
      · rw [Fo j ek ex]; exact hb
  · by_cases ek : j = k
    · subst ek; rw [Fk]; exact s2.S hjw (hTS hjw hb)
    · by_cases ex : j = x
      · subst ex; rw [Fx]; exact s1.S hjw hb
      · rw [Fo j ek ex]; exact hb
  · by_cases ex : w = x
    · subst ex; rw [Fx]; exact s1.s rfl
    · rw [Fo w (by omega) ex]
  · subst e
    have hxw : x ≠ k := hxk
    refine ⟨x, hx, hxw, ?_, fun hb => ?_, fun e1 => ?_⟩
    · rw [Fk]
      have := hNX rfl hs
      rw [← s2.s rfl] at this
      exact this
    · have hb1 := s1.S hxw hb
      by_cases e2 : c2 = 1
      · have := s2.c1; omega
      · have hc0 : c2 = 0 := by have := s1.c1; omega
        obtain ⟨v, hv, hvs⟩ := hb1
        have hva := s1.st.ni.f _ v hv
        have hvn := s1.st.ni.n _ v hv
        have hv13 : v.s = 1 ∨ v.s = 3 := by
          rcases hva with h' | ⟨_, _, h3⟩ | ⟨h0, _⟩
          · have := h'.i; have := h'.s; omega
          · exact h3
          · omega
        refine a2 rfl ⟨v, ?_, hvn, by omega⟩
        rw [← HV]
        have hg : getS d1.f (k : Int) = some v := by
          unfold getS
          rw [if_pos (by omega), Int.toNat_natCast]
          exact hv
        unfold Det.news Det.pre
        rw [hg, if_pos ⟨rfl, hv13⟩]
        simp [ud]
    · rw [Fx]
      exact b1 hxw (hmine rfl (by omega))
/-- How far the round of the suspected one has come, behind t of its ticks. -/
structure Prog (n w b t c : Nat) (F : Nat → Det) : Prop where
  S : Sb w (F b).f
  sub : ∀ y ∈ (F w).s, Oth n w y
  way : (t + (F w).s.length + 1 = n ∧ (c = 1 ∨ (b : Int) ∈ (F w).s)) ∨ (c = 1 ∧ t + (F w).s.length + 2 = 2 * n ∧ ∀ x, x < n → x ≠ w → Bt w (F x).f ∨ (x : Int) ∈ (F w).s) ∨ (c = 1 ∧ ∀ x, x < n → x ≠ w → Bt w (F x).f)
theorem prog_other {b t c' : Nat} {F F' : Nat → Det} (h : Prog n w b t c F) (hb : b < n) (hbw : b ≠ w) (hc : c ≤ c') (hc1 : c' ≤ 1) (hB : ∀ j, j < n → j ≠ w → Bt w (F j).f → Bt w (F' j).f) (hS : ∀ j, j < n → j ≠ w → Sb w (F j).f → Sb w (F' j).f) (hs : (F' w).s = (F w).s) : Prog n w b t c' F' := by
  refine ⟨hS b hb hbw h.S, by rw [hs]; exact h.sub, ?_⟩
  rw [hs]
  rcases h.way with ⟨h1, h2⟩ | ⟨h1, h2, h3⟩ | ⟨h1, h2⟩
  · exact .inl ⟨h1, h2.imp (fun e => by omega) id⟩
  · exact .inr (.inl ⟨by omega, h2, fun x hx hxw => (h3 x hx hxw).imp (hB x hx hxw) id⟩)
  · exact .inr (.inr ⟨by omega, fun x hx hxw => hB x hx hxw (h2 x hx hxw)⟩)
theorem prog_own {b t c' x : Nat} {F F' : Nat → Det} (h : Prog n w b t c F) (hb : b < n) (hbw : b ≠ w) (hc : c ≤ c') (hc1 : c' ≤ 1) (hB : ∀ j, j < n → j ≠ w → Bt w (F j).f → Bt w (F' j).f) (hS : ∀ j, j < n → j ≠ w → Sb w (F j).f → Sb w (F' j).f)
    (hNX : NX n w (F w).s x (F' w).s) (h1 : Sb w (F x).f → c' = 1) (h2 : c = 1 → Bt w (F' x).f) : Prog n w b (t + 1) c' F' := by
  have hSb := hS b hb hbw h.S
  rcases hNX with e | ⟨e, hmem, hlen⟩
  · have hsub : ∀ y ∈ (F' w).s, Oth n w y := fun y hy => h.sub y (by rw [e]; exact List.mem_cons_of_mem _ hy)
    refine ⟨hSb, hsub, ?_⟩
    rcases h.way with ⟨p1, p2⟩ | ⟨p1, p2, p3⟩ | ⟨p1, p2⟩
    · rw [e, List.length_cons] at p1
      refine .inl ⟨by omega, ?_⟩
      rcases p2 with p2 | p2
      · exact .inl (by omega)
      · rw [e] at p2
        rcases List.mem_cons.1 p2 with p2 | p2
        · have : b = x := by omega
          subst this
          exact .inl (h1 h.S)
        · exact .inr p2
    · rw [e, List.length_cons] at p2
      refine .inr (.inl ⟨by omega, by omega, fun y hy hyw => ?_⟩)
      rcases p3 y hy hyw with p | p
      · exact .inl (hB y hy hyw p)
      · rw [e] at p
        rcases List.mem_cons.1 p with p | p
        · have : y = x := by omega
          subst this
          exact .inl (h2 p1)
        · exact .inr p
    · exact .inr (.inr ⟨by omega, fun y hy hyw => hB y hy hyw (p2 y hy hyw)⟩)
  · have hsub : ∀ y ∈ (F' w).s, Oth n w y := fun y hy => (hmem y).1 (List.mem_cons_of_mem _ hy)
    rw [List.length_cons] at hlen
    refine ⟨hSb, hsub, ?_⟩
    have key : c = 1 → ∀ y, y < n → y ≠ w → Bt w (F' y).f ∨ (y : Int) ∈ (F' w).s := fun p1 y hy hyw => by
      rcases List.mem_cons.1 ((hmem y).2 ⟨y, rfl, hy, hyw⟩) with p | p
      · have : y = x := by omega
        subst this
        exact .inl (h2 p1)
      · exact .inr p
    rcases h.way with ⟨p1, p2⟩ | ⟨p1, p2, p3⟩ | ⟨p1, p2⟩
    · rw [e] at p1 p2
      have pc : c = 1 := p2.elim id fun h => by cases h
      rw [List.length_nil] at p1
      exact .inr (.inl ⟨by omega, by omega, key pc⟩)
    · rw [e] at p3
      exact .inr (.inr ⟨by omega, fun y hy hyw => hB y hy hyw ((p3 y hy hyw).elim id fun h => by cases h)⟩)
    · exact .inr (.inr ⟨by omega, fun y hy hyw => hB y hy hyw (p2 y hy hyw)⟩)
end
end Go.Proofs.YtpoofjnfaijjjaaGreatDoor
namespace Go.Proofs.YtpoofjnfaijjjaaGreatDoor
open Go.RowKit Go.Proofs.YtpoofjnfaijjjaaGreatDoor.Ro
section
variable {n w k : Nat}
theorem inv_fullK {m : Nat} (hn : n ≤ 64) (hk : k < n) (hm : m ≤ n) : Inv k (fullK m k) := by
  refine ⟨by omega, ⟨0, ?_⟩, fun j u h => ?_⟩
  · unfold fullK
    rw [if_pos (.inr rfl)]
  · unfold fullK at h
    by_cases e : j < m ∨ j = k
    · rw [if_pos e] at h
      obtain rfl := Option.some.inj h
      exact ⟨may_alive (by omega), rfl, by unfold InOk; dsimp only; omega⟩
    · rw [if_neg e] at h; cases h
theorem know_s (hn : n ≤ 64) (hk : k < n) : ∀ m, m ≤ n → (knowS k m (Det.new k)).s.Nodup ∧ ∀ x, x ∈ (knowS k m (Det.new k)).s ↔ ∃ j : Nat, x = j ∧ j < m ∧ j ≠ k
  | 0, _ => ⟨List.nodup_nil, fun x => ⟨(fun h => by cases h), (fun ⟨j, _, h, _⟩ => by cases h)⟩⟩
  | m + 1, h => by
    obtain ⟨h1, h2⟩ := know_s hn hk m (by omega)
    obtain ⟨_, hf, _⟩ := know_step hn hk m (by omega)
    have hd : knowS k (m + 1) (Det.new k) = ((knowS k m (Det.new k)).take k ⟨m, 0, 0⟩ k []).2.1 := rfl
    rw [hd]
    generalize knowS k m (Det.new k) = d at *
    by_cases e : m = k
    · have hs : (d.take k ⟨m, 0, 0⟩ k []).2.1.s = d.s := by
        have hno : (hearS k d.f ⟨m, 0, 0⟩).1.1 = false := by
          unfold hearS
          rw [if_pos (may_alive (by omega)), if_pos (by simp [e])]
        unfold Det.take
        split
        · rfl
        · rw [if_neg (by rw [hno]; decide)]
          split
          · rfl
          · split <;> rfl
      rw [hs]
      refine ⟨h1, fun x => (h2 x).trans ⟨fun ⟨j, a, b, c⟩ => ⟨j, a, by omega, c⟩, fun ⟨j, a, b, c⟩ => ⟨j, a, by omega, c⟩⟩⟩
    · have hyes : hearS k d.f ⟨m, 0, 0⟩ = ((true, 0), d.f.set m ⟨m, 0, 0⟩) := by
        have hfm : d.f (m : Int).toNat = none := by
          rw [hf, Int.toNat_natCast]
          unfold fullK
          rw [if_neg (by omega)]
        unfold hearS
        rw [if_pos (may_alive (by omega)), if_neg (by simp; omega), if_neg (by show ¬ ((d.f (m : Int).toNat).isSome && !newerU ⟨m, 0, 0⟩ (ud (d.f (m : Int).toNat))) = true; rw [hfm]; simp)]
        rfl
      have hwas : Bnd.hasS d.live m = false := by
        unfold Det.live
        rw [hf]
        unfold Bnd.hasS
        rw [Int.toNat_natCast, testBit_all (inv_fullK hn hk (by omega)) (by omega)]
        have : liveAt (fullK m k) m = false := by
          unfold liveAt fullK
          rw [if_neg (by omega)]
          rfl
        rw [this, Bool.and_false]
      have hs : (d.take k ⟨m, 0, 0⟩ k []).2.1.s = (Rn.joinS d.s m []).1 := by
        unfold Det.take
        rw [hyes]
        dsimp only
        rw [if_neg (by decide), if_pos rfl]
        unfold Det.learn
        dsimp only
        rw [if_neg (by decide), if_pos ⟨rfl, hwas⟩]
      have hnot : (m : Int) ∉ d.s := fun hm => by
        obtain ⟨j, a, b, _⟩ := (h2 _).1 hm
        omega
      have hp := join_perm [] hnot
      rw [hs]
      refine ⟨hp.nodup_iff.2 (List.nodup_cons.2 ⟨hnot, h1⟩), fun x => hp.mem_iff.trans ⟨fun hx => ?_, fun ⟨j, a, b, c⟩ => ?_⟩⟩
      · rcases List.mem_cons.1 hx with rfl | hx
        · exact ⟨m, rfl, by omega, e⟩
        · obtain ⟨j, a, b, c⟩ := (h2 x).1 hx
          exact ⟨j, a, by omega, c⟩
      · by_cases ej : j = m
        · rw [a, ej]; simp
        · exact List.mem_cons_of_mem _ ((h2 x).2 ⟨j, a, by omega, c⟩)
theorem cm_st {d : Det} {j : Nat} (h : Cm n j d) : St n w 0 j d :=
  ⟨⟨by
    obtain ⟨i, hi, e⟩ := h.ni.m
    refine ⟨i, hi, ?_⟩
    unfold Iw
    rw [e]
    split <;> rfl, fun m v hv => .inl (h.ni.f m v hv), h.ni.n, fun x hx => .inl (h.ni.Q x hx), (fun x hx => by rw [h.D] at hx; cases hx), h.ni.E, h.ni.W⟩, fun m hm => by
    rw [h.f]
    unfold full
    rw [if_pos hm]
    rfl, h.le⟩
/-- The beginning: one of them is told that another one is suspected. -/
theorem ref_start {b : Nat} (hn : n ≤ 64) (hw : w < n) (hb : b < n) (hbw : b ≠ w) (l : List Int) :
    ((beganS n b).take b ⟨w, 0, 1⟩ b l).1 = 0 ∧ Net n w 0 (putF (beganS n) b ((beganS n b).take b ⟨w, 0, 1⟩ b l).2.1) ∧ Prog n w b 0 0 (putF (beganS n) b ((beganS n b).take b ⟨w, 0, 1⟩ b l).2.1) := by
  have hcb := began_cm hn hb
  have hu : Aw n w 0 ⟨w, 0, 1⟩ := .inr (.inl ⟨rfl, rfl, .inl rfl⟩)
  obtain ⟨c', s1, z1, _⟩ := take_ste hn hw hb (Nat.zero_le _) (cm_st (w := w) hcb) hu b l
  have hc' := s1.same hbw
  subst hc'
  refine ⟨z1, ⟨fun j hj => ?_, fun j hj => ?_, fun j hj => ?_⟩, ⟨?_, ?_, .inl ?_⟩⟩
  · by_cases e : j = b
    · subst e; rw [putF_same]; exact s1.st
    · rw [putF_other _ _ e]; exact cm_st (began_cm hn hj)
  · by_cases e : j = b
    · subst e; rw [putF_same]; exact s1.E.trans hcb.E
    · rw [putF_other _ _ e]; exact (began_cm hn hj).E
  · by_cases e : j = b
    · subst e; rw [putF_same]; exact s1.W.trans hcb.W
    · rw [putF_other _ _ e]; exact (began_cm hn hj).W
  · rw [putF_same]
    refine ⟨⟨w, 0, 1⟩, ?_, .inl (show (1 : Int) ≠ 0 by decide)⟩
    rw [(take_fr b (beganS n b) ⟨w, 0, 1⟩ b l).2.2.2.2.2, hcb.f]
    have hfw : full n (w : Int).toNat = some ⟨w, 0, 0⟩ := by
      unfold full
      rw [Int.toNat_natCast, if_pos hw]
    unfold hearS
    rw [if_pos (hu.may hw hn), if_neg (by simp; omega), if_neg (by show ¬ ((full n (w : Int).toNat).isSome && !newerU ⟨w, 0, 1⟩ (ud (full n (w : Int).toNat))) = true; rw [hfw]; simp [ud, newerU, newerS])]
    show (full n).set (w : Int).toNat ⟨w, 0, 1⟩ w = _
    rw [Int.toNat_natCast]
    exact Tab.set_same _ _ _
  · rw [putF_other _ _ (fun e => hbw e.symm)]
    intro y hy
    obtain ⟨j, a, b', c⟩ := ((know_s hn hw n (Nat.le_refl _)).2 y).1 hy
    exact ⟨j, a, b', c⟩
  · rw [putF_other _ _ (fun e => hbw e.symm)]
    have hs := know_s hn hw n (Nat.le_refl _)
    refine ⟨?_, .inr ((hs.2 _).2 ⟨b, rfl, hb, hbw⟩)⟩
    have := len_oth hw hs.1 hs.2
    show 0 + (knowS w n (Det.new w)).s.length + 1 = n
    omega
/-- The end. -/
def full1 (n w : Nat) : Tab := fun m => if m < n then some ⟨m, if m = w then 1 else 0, 0⟩ else none
theorem ref_end {b t c : Nat} {F : Nat → Det} (hn : n ≤ 8) (hw : w < n) (ht : 2 * n ≤ t) (hN : Net n w c F) (h : Prog n w b t c F) : ∀ j, j < n → (F j).f = full1 n w := fun j hj => by
  have hst := hN.st j hj
  obtain ⟨hc, hB⟩ : c = 1 ∧ ∀ x, x < n → x ≠ w → Bt w (F x).f := by
    rcases h.way with ⟨p1, _⟩ | ⟨_, p2, _⟩ | p
    · omega
    · omega
    · exact p
  funext m
  unfold full1
  by_cases hm : m < n
  · rw [if_pos hm]
    by_cases e : m = w
    · rw [if_pos e]
      subst e
      by_cases ej : j = m
      · subst ej
        obtain ⟨i, hi, hI⟩ := hst.ni.m
        unfold Iw at hI
        rw [if_pos rfl, hc] at hI
        have hI : i = 1 := hI
        subst hI
        exact hi
      · exact hB j hj ej
    · rw [if_neg e]
      exact hst.al hm e
  · rw [if_neg hm]
    cases hv : (F j).f m with
    | none => rfl
    | some v =>
      have h1 := (hst.ni.f m v hv).rng hw
      have h2 := hst.ni.n m v hv
      omega
theorem full1_all : ∀ n : Nat, n < 8 → ∀ w : Nat, w < n → (allS (full1 n w)).length = n ∧ Bnd.manyS (bandS (allS (full1 n w))) = n ∧ (allS (full1 n w)).all (fun u => decide (u.s = 0)) = true := by decide +kernel
end
end Go.Proofs.YtpoofjnfaijjjaaGreatDoor
