/-
  One of them is suspected by another one: what each knows of it, step by step. No program is known here.
-/
import Derived.Test.YtpoofjnfaijjjaaGreatDoorMCam
namespace Go.Proofs.YtpoofjnfaijjjaaGreatDoor
open Go.RowKit Go.Proofs.YtpoofjnfaijjjaaGreatDoor.Ro
/-- What may be told of it: phase 0: that it is Alive, Suspect or Dead at 0; phase 1: also that it is Alive at 1. -/
def Aw (n w c : Nat) (u : Upd) : Prop := Af n u ∨ (u.n = w ∧ u.i = 0 ∧ (u.s = 1 ∨ u.s = 3)) ∨ (c = 1 ∧ u.n = w ∧ u.i = 1 ∧ u.s = 0)
def Iw (w c j : Nat) : Int → Prop := fun i => i = if j = w then (c : Int) else 0
def Bt (w : Nat) (f : Tab) : Prop := f w = some ⟨w, 1, 0⟩
def Sb (w : Nat) (f : Tab) : Prop := ∃ v, f w = some v ∧ (v.s ≠ 0 ∨ v.i = 1)
structure St (n w c j : Nat) (d : Det) : Prop where
  ni : Ni (Aw n w c) (Iw w c j) j d
  kn : ∀ m, m < n → (d.f m).isSome = true
  le : d.le = false
section
variable {n w c j : Nat} {d : Det} {u : Upd}
theorem Aw.up {c' : Nat} (h : Aw n w c u) (hc : c ≤ c') (h1 : c' ≤ 1) : Aw n w c' u := by
  rcases h with h | h | ⟨h, h'⟩
  · exact .inl h
  · exact .inr (.inl h)
  · exact .inr (.inr ⟨by omega, h'⟩)
theorem Aw.rng (h : Aw n w c u) (hw : w < n) : 0 ≤ u.n ∧ u.n < n ∧ 0 ≤ u.i ∧ u.i ≤ 1 ∧ 0 ≤ u.s ∧ u.s ≤ 3 := by
  rcases h with h | ⟨h1, h2, h3⟩ | ⟨_, h1, h2, h3⟩
  · have := h.n0; have := h.n1; have := h.i; have := h.s; omega
  · omega
  · omega
theorem Aw.may (h : Aw n w c u) (hw : w < n) (hn : n ≤ 64) : mayU u = true := by
  have := h.rng hw
  unfold mayU mayS
  simp
  omega
theorem Aw.not (h : Aw n w c u) (hne : u.n ≠ w) : Af n u := by
  rcases h with h | ⟨h1, _⟩ | ⟨_, h1, _⟩
  · exact h
  · exact absurd h1 hne
  · exact absurd h1 hne
theorem newer_iff {a b x y : Int} : newerS a b x y = true ↔ x < a ∨ (a = x ∧ y < b) := by
  unfold newerS
  simp
/-- At a node that is not the hearer's own. -/
theorem hear_at {k m : Nat} {f : Tab} (hm : m ≠ k) : (hearS k f u).2 m = f m ∨ (u.n = m ∧ (hearS k f u).2 m = some u ∧ ∀ v, f m = some v → newerU u v = true) := by
  unfold hearS
  split
  · rename_i hmay
    split
    · unfold refuteS
      split
      · split
        · exact .inl rfl
        · exact .inl (Tab.set_other _ _ hm)
      · exact .inl rfl
    · split
      · exact .inl rfl
      · rename_i hc
        by_cases e : m = u.n.toNat
        · have h0 : 0 ≤ u.n := by
            unfold mayU mayS at hmay
            simp only [Bool.and_eq_true, decide_eq_true_eq] at hmay
            omega
          refine .inr ⟨by omega, ?_, fun v hv => ?_⟩
          · show f.set u.n.toNat u m = _
            rw [e]; exact Tab.set_same _ _ _
          · rw [← e, hv] at hc
            cases hx : newerU u v
            · exfalso; apply hc; simp [ud, hx]
            · rfl
        · exact .inl (Tab.set_other _ _ e)
  · exact .inl rfl
theorem hear_some {k m : Nat} {f : Tab} (h : (f m).isSome = true) : ((hearS k f u).2 m).isSome = true := by
  unfold hearS
  split
  · split
    · unfold refuteS
      split
      · split
        · exact h
        · show ((f.set k ⟨k, u.i + 1, 0⟩) m).isSome = true
          by_cases e : m = k
          · subst e; rw [Tab.set_same]; rfl
          · rw [Tab.set_other _ _ e]; exact h
      · exact h
    · split
      · exact h
      · show ((f.set u.n.toNat u) m).isSome = true
        by_cases e : m = u.n.toNat
        · subst e; rw [Tab.set_same]; rfl
        · rw [Tab.set_other _ _ e]; exact h
  · exact h
theorem hear_code {k : Nat} {f : Tab} (h : mayU u = true) (hi : u.i ≠ 18446744073709551615) : (hearS k f u).1.2 = 0 ∨ (hearS k f u).1.2 = 70 := by
  have hi' : ¬ (u.i == 18446744073709551615) = true := by simpa using hi
  unfold hearS
  rw [if_pos h]
  split
  · unfold refuteS
    split
    · exact .inl rfl
    · exact .inr rfl
  · split
    · exact .inr rfl
    · exact .inl rfl
theorem take_zero {k : Nat} (h : mayU u = true) (hi : u.i ≠ 18446744073709551615) (f : Int) (l : List Int) : (d.take k u f l).1 = 0 := by
  have hc := hear_code (k := k) (f := d.f) h hi
  unfold Det.take
  rw [if_neg (by omega)]
  split
  · rfl
  · split
    · rfl
    · split <;> rfl
/-- A step of one of them: phases, what it knows, the round of the one that is suspected. -/
structure Ste (n w j c : Nat) (d : Det) (c' : Nat) (d' : Det) : Prop where
  le : c ≤ c'
  c1 : c' ≤ 1
  same : j ≠ w → c' = c
  st : St n w c' j d'
  B : j ≠ w → Bt w d.f → Bt w d'.f
  S : j ≠ w → Sb w d.f → Sb w d'.f
  s : j = w → d'.s = d.s
  W : d'.W = d.W
  E : d'.E = d.E
theorem Ste.refl (h : St n w c j d) (hc : c ≤ 1) : Ste n w j c d c d := ⟨Nat.le_refl _, hc, fun _ => rfl, h, fun _ h => h, fun _ h => h, fun _ => rfl, rfl, rfl⟩
theorem Ste.trans {c1 c2 : Nat} {d1 d2 : Det} (h : Ste n w j c d c1 d1) (k : Ste n w j c1 d1 c2 d2) : Ste n w j c d c2 d2 :=
  ⟨Nat.le_trans h.le k.le, k.c1, fun e => (k.same e).trans (h.same e), k.st, fun e x => k.B e (h.B e x), fun e x => k.S e (h.S e x), fun e => (k.s e).trans (h.s e), k.W.trans h.W, k.E.trans h.E⟩
theorem St.up {c' : Nat} (h : St n w c j d) (hj : j ≠ w) (hc : c ≤ c') (h1 : c' ≤ 1) : St n w c' j d :=
  ⟨⟨by
    obtain ⟨i, e, hi⟩ := h.ni.m
    unfold Iw at hi ⊢
    rw [if_neg hj] at hi ⊢
    exact ⟨i, e, hi⟩, fun m v hv => (h.ni.f m v hv).up hc h1, h.ni.n, fun x hx => (h.ni.Q x hx).up hc h1, fun x hx => (h.ni.D x hx).up hc h1, h.ni.E, h.ni.W⟩, h.kn, h.le⟩
/-- What one of them knows of the others but the suspected one. -/
theorem St.al (h : St n w c j d) {m : Nat} (hm : m < n) (hmw : m ≠ w) : d.f m = some ⟨m, 0, 0⟩ := by
  obtain ⟨v, hv⟩ := Option.isSome_iff_exists.1 (h.kn m hm)
  have hn := h.ni.n m v hv
  have ha := (h.ni.f m v hv).not (by omega)
  rw [hv]
  obtain ⟨a, b, s⟩ := v
  have h3 := ha.i
  have h4 := ha.s
  dsimp only at hn h3 h4
  rw [hn, h3, h4]
theorem clsu (hu : Aw n w c u) (h : j ≠ w ∨ c = 1 ∨ u.n ≠ w ∨ u.s = 0) (hc : c ≤ 1) : ClsU (Aw n w c) (Iw w c j) j u := by
  refine ⟨fun hs => ?_, fun i hn hi hnew => ?_⟩
  · rcases hu with h | ⟨h1, h2, h3⟩ | ⟨_, h1, h2, h3⟩
    · have := h.s; omega
    · exact .inr (.inl ⟨h1, h2, .inr rfl⟩)
    · omega
  · exfalso
    unfold Iw at hi
    rw [newer_iff] at hnew
    rcases hu with h' | ⟨h1, h2, h3⟩ | ⟨h0, h1, h2, h3⟩
    · have := h'.i; have := h'.s
      by_cases e : j = w
      · rw [if_pos e] at hi; omega
      · rw [if_neg e] at hi; omega
    · have e : j = w := by omega
      rw [if_pos e] at hi
      rcases h with h | h | h | h
      · exact h e
      · omega
      · omega
      · omega
    · have e : j = w := by omega
      rw [if_pos e] at hi
      omega
theorem take_ste (hn : n ≤ 64) (hw : w < n) (hj : j < n) (hc : c ≤ 1) (h : St n w c j d) (hu : Aw n w c u) (f : Int) (l : List Int) :
    ∃ c', Ste n w j c d c' (d.take j u f l).2.1 ∧ (d.take j u f l).1 = 0 ∧ (j = w → u.n = w → u.s ≠ 0 → c' = 1) ∧ (j ≠ w → u = ⟨w, 1, 0⟩ → Bt w (d.take j u f l).2.1.f) := by
  have hr := hu.rng hw
  have hmay := hu.may hw hn
  have hz := take_zero (d := d) (k := j) hmay (by omega : u.i ≠ 18446744073709551615) f l
  obtain ⟨t1, t2, _, _, t5, t6⟩ := take_fr j d u f l
  have hkn : ∀ m, m < n → ((d.take j u f l).2.1.f m).isSome = true := fun m hm => by rw [t6]; exact hear_some (h.kn m hm)
  have hle : (d.take j u f l).2.1.le = false := t5.trans h.le
  have hB : j ≠ w → Bt w d.f → Bt w (d.take j u f l).2.1.f := fun e hb => by
    unfold Bt at hb ⊢
    rw [t6]
    rcases hear_at (u := u) (f := d.f) (fun e' => e e'.symm : w ≠ j) with h' | ⟨hun, _, h3⟩
    · rw [h']; exact hb
    · have h4 := h3 _ hb
      unfold newerU at h4
      rw [newer_iff] at h4
      rcases hu with h' | ⟨_, h2, _⟩ | ⟨_, _, h2, h3'⟩
      · have := h'.i; have := h'.s; dsimp only at h4; omega
      · dsimp only at h4; omega
      · dsimp only at h4; omega
  have hS : j ≠ w → Sb w d.f → Sb w (d.take j u f l).2.1.f := fun e hb => by
    obtain ⟨v, hv, hs⟩ := hb
    unfold Sb
    rw [t6]
    rcases hear_at (u := u) (f := d.f) (fun e' => e e'.symm : w ≠ j) with h' | ⟨_, h2, h3⟩
    · exact ⟨v, h'.trans hv, hs⟩
    · refine ⟨u, h2, ?_⟩
      have h4 := h3 _ hv
      unfold newerU at h4
      rw [newer_iff] at h4
      have hvr := (h.ni.f w v hv).rng hw
      omega
  by_cases hcase : j ≠ w ∨ c = 1 ∨ u.n ≠ w ∨ u.s = 0
  · refine ⟨c, ⟨Nat.le_refl _, hc, fun _ => rfl, ⟨h.ni.takeU (clsu hu hcase hc) hu f l, hkn, hle⟩, hB, hS, fun e => ?_, t1, t2⟩, hz, fun e1 e2 e3 => ?_, fun e e' => ?_⟩
    · -- at the suspected one nothing is ever news
      subst e
      have hno : (hearS j d.f u).1.1 = false := by
        unfold hearS
        rw [if_pos hmay]
        by_cases en : u.n = j
        · rw [if_pos (by rw [en]; simp)]
        · rw [if_neg (by simpa using en)]
          have ha := hu.not en
          obtain ⟨m, hm, rfl⟩ := ha.eq
          have hmj : m ≠ j := fun e => en (by rw [e])
          have hf : d.f (m : Int).toNat = some ⟨m, 0, 0⟩ := by rw [Int.toNat_natCast]; exact h.al hm hmj
          rw [if_pos (by show ((d.f (m : Int).toNat).isSome && !newerU ⟨m, 0, 0⟩ (ud (d.f (m : Int).toNat))) = true; rw [hf]; rfl)]
      unfold Det.take
      split
      · rfl
      · rw [if_neg (by rw [hno]; decide)]
        split
        · rfl
        · split <;> rfl
    · rcases hcase with h' | h' | h' | h'
      · exact absurd e1 h'
      · exact h'
      · exact absurd e2 h'
      · exact absurd h' e3
    · subst e'
      unfold Bt
      rw [t6]
      rcases hear_at (u := ⟨w, 1, 0⟩) (f := d.f) (fun e' => e e'.symm : w ≠ j) with h' | ⟨_, h2, _⟩
      · rw [h']
        obtain ⟨v, hv⟩ := Option.isSome_iff_exists.1 (h.kn w hw)
        have hvn := h.ni.n w v hv
        rw [hv]
        -- what is older would have been replaced
        have hmu := hmay
        unfold hearS at h'
        rw [if_pos hmay, if_neg (by simp; omega)] at h'
        have hvr := h.ni.f w v hv
        by_cases hnew : newerU ⟨w, 1, 0⟩ v = true
        · rw [if_neg (by show ¬ ((d.f (w : Int).toNat).isSome && !newerU ⟨w, 1, 0⟩ (ud (d.f (w : Int).toNat))) = true; rw [Int.toNat_natCast, hv]; simp [ud, hnew])] at h'
          have h'' : d.f.set (w : Int).toNat ⟨w, 1, 0⟩ w = d.f w := h'
          rw [Int.toNat_natCast, Tab.set_same, hv] at h''
          rw [← h'']
        · have hnn : ¬ (v.i < 1 ∨ ((1 : Int) = v.i ∧ v.s < 0)) := by
            intro hx
            apply hnew
            unfold newerU
            rw [newer_iff]
            exact hx
          rcases hvr with h1 | ⟨_, h2, _⟩ | ⟨_, _, h2, h3⟩
          · have := h1.i; omega
          · omega
          · obtain ⟨a, b, s⟩ := v
            dsimp only at hvn h2 h3
            rw [hvn, h2, h3]
      · exact h2
  · -- it refutes
    have e1 : j = w := by
      by_cases e : j = w
      · exact e
      · exact absurd (.inl e) hcase
    have e2 : c = 0 := by
      by_cases e : c = 1
      · exact absurd (.inr (.inl e)) hcase
      · omega
    have e3 : u.n = w := by
      by_cases e : u.n = w
      · exact e
      · exact absurd (.inr (.inr (.inl e))) hcase
    have e4 : u.s ≠ 0 := fun e => hcase (.inr (.inr (.inr e)))
    subst e1
    subst e2
    obtain ⟨i, hi, hI⟩ := h.ni.m
    unfold Iw at hI
    rw [if_pos rfl] at hI
    have hI : i = 0 := hI
    subst hI
    have hui : u.i = 0 := by
      rcases hu with h' | ⟨_, h2, _⟩ | ⟨h0, _⟩
      · exact h'.i
      · exact h2
      · cases h0
    have hown := hear_own hi hmay e3
    rw [if_pos (by unfold newerU; rw [newer_iff]; dsimp only; omega), if_neg (by rw [hui]; decide), hui] at hown
    have htake : (d.take j u f l).2.1 = ({ d with f := d.f.set j ⟨j, 1, 0⟩ } : Det).tell ⟨j, 1, 0⟩ := by
      unfold Det.take
      rw [hown]
      dsimp only
      rw [if_neg (by decide), if_neg (by decide), if_pos rfl]
      dsimp only
      rw [show (0 : Int) + 1 = 1 from rfl, Tab.set_same]
      rfl
    have h1A : Aw n j 1 ⟨j, 1, 0⟩ := .inr (.inr ⟨rfl, rfl, rfl, rfl⟩)
    have up : ∀ {v : Upd}, Aw n j 0 v → Aw n j 1 v := fun h => h.up (Nat.zero_le _) (Nat.le_refl _)
    have hni : Ni (Aw n j 1) (Iw j 1 j) j ({ d with f := d.f.set j ⟨j, 1, 0⟩ } : Det) := by
      refine ⟨⟨1, Tab.set_same _ _ _, by unfold Iw; rw [if_pos rfl]; rfl⟩, fun m v hv => ?_, fun m v hv => ?_, fun x hx => up (h.ni.Q x hx), fun x hx => up (h.ni.D x hx), h.ni.E, h.ni.W⟩
      · have hv' : d.f.set j ⟨j, 1, 0⟩ m = some v := hv
        by_cases e : m = j
        · subst e; rw [Tab.set_same] at hv'; rw [← Option.some.inj hv']; exact h1A
        · rw [Tab.set_other _ _ e] at hv'; exact up (h.ni.f m v hv')
      · have hv' : d.f.set j ⟨j, 1, 0⟩ m = some v := hv
        by_cases e : m = j
        · subst e; rw [Tab.set_same] at hv'; rw [← Option.some.inj hv']
        · rw [Tab.set_other _ _ e] at hv'; exact h.ni.n m v hv'
    refine ⟨1, ⟨Nat.zero_le _, Nat.le_refl _, fun e => absurd rfl e, ⟨by rw [htake]; exact hni.tell h1A, hkn, hle⟩, fun e => absurd rfl e, fun e => absurd rfl e, fun _ => by rw [htake]; rfl, t1, t2⟩, hz, fun _ _ _ => rfl, fun e => absurd rfl e⟩
theorem takes_ste (hn : n ≤ 64) (hw : w < n) (hj : j < n) (f : Int) : ∀ (U : List Upd) {c : Nat} {d : Det} (_ : c ≤ 1) (_ : St n w c j d) (_ : ∀ u ∈ U, Aw n w c u) (l : List Int),
    ∃ c', Ste n w j c d c' (d.takes j f U l).2.1 ∧ (d.takes j f U l).1 = 0 ∧ (j = w → (∃ u ∈ U, u.n = w ∧ u.s ≠ 0) → c' = 1) ∧ (j ≠ w → (⟨w, 1, 0⟩ : Upd) ∈ U → Bt w (d.takes j f U l).2.1.f)
  | [], c, d, hc, h, _, l => ⟨c, Ste.refl h hc, rfl, (fun _ ⟨u, hu, _⟩ => by cases hu), (fun _ hu => by cases hu)⟩
  | u :: r, c, d, hc, h, hU, l => by
    obtain ⟨c1, s1, z1, a1, b1⟩ := take_ste hn hw hj hc h (hU u (by simp)) f l
    have hr : ∀ v ∈ r, Aw n w c1 v := fun v hv => (hU v (by simp [hv])).up s1.le s1.c1
    obtain ⟨c2, s2, z2, a2, b2⟩ := takes_ste hn hw hj f r s1.c1 s1.st hr (d.take j u f l).2.2
    rw [Det.takes, z1, if_neg (by decide)]
    refine ⟨c2, s1.trans s2, z2, fun e ⟨v, hv, h1, h2⟩ => ?_, fun e hv => ?_⟩
    · rcases List.mem_cons.1 hv with rfl | hv
      · have := a1 e h1 h2; have := s2.le; have := s2.c1; omega
      · exact a2 e ⟨v, hv, h1, h2⟩
    · rcases List.mem_cons.1 hv with e' | hv
      · exact s2.B e (b1 e e'.symm)
      · exact b2 e hv
theorem dead_ste (hn : n ≤ 64) (hw : w < n) (hj : j < n) : ∀ (U : List Upd) {c : Nat} {d : Det} (_ : c ≤ 1) (_ : St n w c j d) (_ : ∀ u ∈ U, Aw n w c u) (l : List Int), ∃ c', Ste n w j c d c' (d.dead j U l).1
  | [], c, d, hc, h, _, l => ⟨c, Ste.refl h hc⟩
  | u :: r, c, d, hc, h, hU, l => by
    obtain ⟨c1, s1, _⟩ := take_ste hn hw hj hc h (hU u (by simp)) j l
    have hr : ∀ v ∈ r, Aw n w c1 v := fun v hv => (hU v (by simp [hv])).up s1.le s1.c1
    obtain ⟨c2, s2⟩ := dead_ste hn hw hj r s1.c1 s1.st hr (d.take j u j l).2.2
    exact ⟨c2, s1.trans s2⟩
theorem told_ste (h : St n w c j d) (hc : c ≤ 1) (x : Int) : Ste n w j c d c (d.told j x) :=
  ⟨Nat.le_refl _, hc, fun _ => rfl, ⟨h.ni.told x, h.kn, h.le⟩, fun _ h => h, fun _ h => h, fun _ => rfl, rfl, rfl⟩
end
end Go.Proofs.YtpoofjnfaijjjaaGreatDoor
