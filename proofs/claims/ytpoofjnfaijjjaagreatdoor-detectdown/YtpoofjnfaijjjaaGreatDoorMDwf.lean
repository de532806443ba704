/-
  One of them is down: what each of the others doubts. No program is known here. One of them is down: what the others hear. No program is known here. One of them is down: notes settle. No program is known here. One of them is down: a tick of one of the others. No program is known here. One of them is down: a whole tick of one of the others. No program is known here. One of them is down: a tick, whole. No program is known here. One of them is down: the rounds, how they begin, and how they end. No program is known here.
-/
import Derived.Test.YtpoofjnfaijjjaaGreatDoorMRfz
import Derived.Test.YtpoofjnfaijjjaaGreatDoorMDEmt
namespace Go.Proofs.YtpoofjnfaijjjaaGreatDoor
open Go.RowKit Go.Proofs.YtpoofjnfaijjjaaGreatDoor.Ro
/-- The doubts on the one that is down. -/
structure Dm (n g : Nat) (d : Det) : Prop where
  di : Do.Di d.D
  a : ∀ y ∈ d.D, y.a ≤ n + 3
  u : ∀ y ∈ d.D, y.u ≤ y.a + 8
  sus : d.f g = some ⟨g, 0, 1⟩ → ∃ y ∈ d.D, y.n = g
section
variable {n g k : Nat} {d : Det} {u : Upd}
theorem D_g (h : St n g 0 k d) : ∀ y ∈ d.D, y.n = g ∧ y.i = 0 := fun y hy => by
  rcases h.ni.D y hy with h | ⟨h1, h2, _⟩ | ⟨h0, _⟩
  · have := h.s; dsimp only at this; omega
  · exact ⟨h1, h2⟩
  · omega
theorem many_8 (hn : n ≤ 8) (hg : g < n) (hk : k < n) (h : St n g 0 k d) : 0 ≤ d.many ∧ d.many ≤ 8 := by
  have hI := inv_st (by omega) hg hk h
  have hnd : (Bnd.lst d.live).Nodup := (Bnd.lst_sorted _).imp fun h => by omega
  have hsub : ∀ x ∈ Bnd.lst d.live, x ∈ (List.range n).map fun (i : Nat) => (i : Int) := fun x hx => by
    have hr := Bnd.lst_range hx
    rw [Bnd.mem_lst] at hx
    unfold Bnd.hasS Det.live at hx
    simp only [Bool.and_eq_true] at hx
    have h2 := hx.2
    rw [testBit_all hI (by omega : x.toNat < 64)] at h2
    unfold liveAt at h2
    simp only [Bool.and_eq_true] at h2
    obtain ⟨v, hv⟩ := Option.isSome_iff_exists.1 h2.1
    have h3 := (h.ni.f _ v hv).rng hg
    have h4 := h.ni.n _ v hv
    exact List.mem_map.2 ⟨x.toNat, List.mem_range.2 (by omega), by omega⟩
  have hl := nodup_sub _ _ hnd hsub
  rw [Bnd.lst_length, List.length_map, List.length_range] at hl
  unfold Det.many
  omega
theorem bits_8 {m : Int} (h0 : 0 ≤ m) (h8 : m ≤ 8) : Do.Re.bitsS m ≤ 4 := by
  have : m = 0 ∨ m = 1 ∨ m = 2 ∨ m = 3 ∨ m = 4 ∨ m = 5 ∨ m = 6 ∨ m = 7 ∨ m = 8 := by omega
  rcases this with e | e | e | e | e | e | e | e | e <;> subst e <;> decide
theorem until_8 {m a t : Int} (h0 : 0 ≤ m) (h8 : m ≤ 8) (ht : 0 ≤ t) (ht' : t ≤ 1000) : Do.untilS two m a t ≤ a + 8 := by
  have h1 := Do.until_mono two (by decide) m a (by omega) ht (by omega)
  have h2 : Do.tkS two m 0 = max 2 (2 * Do.Re.bitsS m) := Do.tk_two m (by omega)
  have h3 := bits_8 h0 h8
  have h4 : Do.untilS two m a 0 ≤ a + 8 := by
    unfold Do.untilS Do.laterS
    rw [h2]
    omega
  omega
theorem keepD_mem {L : List Do.Dbt} {x : Do.Dbt} : x ∈ Do.keepD L x := by
  unfold Do.keepD
  exact (Do.insD_mem _ _ _).2 (.inl rfl)
/-- A doubt is raised. -/
theorem raise_dm {L : List Do.Dbt} {m : Int} (hm : 0 ≤ m ∧ m ≤ 8) (hg : g < 64) (hdi : Do.Di L) (ha : ∀ y ∈ L, y.a ≤ n + 3) (hu : ∀ y ∈ L, y.u ≤ y.a + 8) (hL : ∀ y ∈ L, y.n = g ∧ y.i = 0) {from_ no : Int} (hf : Nd from_) (hno : 0 ≤ no ∧ no ≤ 18446744073709551615) (hn3 : (∀ y ∈ L, y.n ≠ g) → no ≤ n + 3) :
    Do.Di (Do.raiseS L g 0 1 from_ no m two).2.2 ∧ (∀ y ∈ (Do.raiseS L g 0 1 from_ no m two).2.2, y.a ≤ n + 3) ∧ (∀ y ∈ (Do.raiseS L g 0 1 from_ no m two).2.2, y.u ≤ y.a + 8) ∧ ∃ y ∈ (Do.raiseS L g 0 1 from_ no m two).2.2, y.n = g := by
  have harg : Do.argS g 1 from_ = true := by
    unfold Do.argS mayS
    simp
    have := hf.1
    have := hf.2
    omega
  have hmem : Do.hasD L g = true → Do.getD L g ∈ L ∧ (Do.getD L g).n = g ∧ (Do.getD L g).i = 0 := fun e => by
    have h1 := getD_mem e
    exact ⟨h1.1, h1.2, (hL _ h1.1).2⟩
  refine ⟨Do.raise_di hdi ⟨by decide, by decide⟩ hno, ?_⟩
  unfold Do.raiseS
  rw [if_neg (by rw [harg]; decide)]
  by_cases hA : Do.hasD L g = false ∨ (Do.getD L g).i < 0
  · rw [if_pos hA]
    dsimp only
    have hno3 : no ≤ n + 3 := hn3 fun y hy e => by
      have hh : Do.hasD L g = true := List.any_eq_true.2 ⟨y, hy, by simpa using e⟩
      rcases hA with h1 | h1
      · rw [hh] at h1; cases h1
      · have := (hmem hh).2.2; omega
    refine ⟨fun y hy => ?_, fun y hy => ?_, _, keepD_mem, rfl⟩
    · rcases keepD_sub hy with rfl | hy
      · exact hno3
      · exact ha y hy
    · rcases keepD_sub hy with rfl | hy
      · exact until_8 hm.1 hm.2 (Int.le_refl 0) (by decide)
      · exact hu y hy
  · rw [if_neg hA]
    have hh : Do.hasD L g = true := by
      cases e : Do.hasD L g
      · exact absurd (.inl e) hA
      · rfl
    obtain ⟨h1, h2, h3⟩ := hmem hh
    rw [if_neg (by omega)]
    by_cases hB : Bnd.hasS (Do.getD L g).f from_ = true
    · rw [if_pos hB]
      exact ⟨ha, hu, _, h1, h2⟩
    · rw [if_neg hB]
      dsimp only
      have hok := hdi.ok _ h1
      have ht := hok.t1
      have ht0 := hok.t0
      have hml := Bnd.many_le (Do.getD L g).f
      refine ⟨fun y hy => ?_, fun y hy => ?_, _, keepD_mem, h2⟩
      · rcases keepD_sub hy with rfl | hy
        · show (Do.getD L g).a ≤ n + 3
          exact ha _ h1
        · exact ha y hy
      · rcases keepD_sub hy with rfl | hy
        · exact until_8 hm.1 hm.2 (by omega) (by omega)
        · exact hu y hy
theorem st_hear (hkg : k ≠ g) (h : St n g 0 k d) (hu : Aw n g 0 u) : St n g 0 k { d with f := (hearS k d.f u).2 } := by
  obtain ⟨h1, h2⟩ := hear_f (clsu hu (.inl hkg) (Nat.zero_le 1)) h.ni.m h.ni.f hu
  exact ⟨⟨h1, h2, hear_n h.ni.n, h.ni.Q, h.ni.D, h.ni.E, h.ni.W⟩, fun m hm => hear_some (h.kn m hm), h.le⟩
theorem hear_nt {f : Tab} (h : (hearS k f u).1.1 = false) (hg : g ≠ k) : (hearS k f u).2 g = f g := by
  unfold hearS at h ⊢
  split
  · rename_i hm
    rw [if_pos hm] at h
    split
    · unfold refuteS
      split
      · split
        · rfl
        · exact Tab.set_other _ _ hg
      · rfl
    · rename_i ho
      rw [if_neg ho] at h
      split
      · rfl
      · rename_i hc
        rw [if_neg hc] at h
        cases h
  · rfl
/-- What is news at another one than the one that is down. -/
theorem hear_took2 (hn : n ≤ 64) (hg : g < n) (h : St n g 0 k d) (hu : Aw n g 0 u) (ht : (hearS k d.f u).1.1 = true) : u.n = g ∧ u.i = 0 ∧ (u.s = 1 ∨ u.s = 3) ∧ (u.s = 1 → d.f g = some ⟨g, 0, 0⟩) ∧ (hearS k d.f u).2 = d.f.set g u := by
  have hmay := hu.may hg hn
  unfold hearS at ht ⊢
  rw [if_pos hmay] at ht ⊢
  by_cases ho : (u.n == (k : Int)) = true
  · rw [if_pos ho] at ht; cases ht
  rw [if_neg ho] at ht ⊢
  by_cases hc : ((d.f u.n.toNat).isSome && !newerU u (ud (d.f u.n.toNat))) = true
  · rw [if_pos hc] at ht; cases ht
  rw [if_neg hc] at ht ⊢
  have hng : u.n = g := by
    by_cases e : u.n = g
    · exact e
    · exfalso
      obtain ⟨m, hm, rfl⟩ := (hu.not e).eq
      have hmg : m ≠ g := fun e' => e (by rw [e'])
      apply hc
      show ((d.f (m : Int).toNat).isSome && !newerU ⟨m, 0, 0⟩ (ud (d.f (m : Int).toNat))) = true
      rw [Int.toNat_natCast, h.al hm hmg]
      rfl
  have htn : u.n.toNat = g := by omega
  obtain ⟨v, hv⟩ := Option.isSome_iff_exists.1 (h.kn g hg)
  have hvn := h.ni.n g v hv
  have hva := h.ni.f g v hv
  have hnew : newerU u v = true := by
    rw [htn, hv] at hc
    cases e : newerU u v
    · exfalso; apply hc; simp [ud, e]
    · rfl
  unfold newerU at hnew
  rw [newer_iff] at hnew
  have hvr := hva.rng hg
  have hv0 : v.i = 0 := by
    rcases hva with h1 | ⟨_, h1, _⟩ | ⟨h1, _⟩
    · exact h1.i
    · exact h1
    · cases h1
  have hu2 : u.i = 0 ∧ (u.s = 1 ∨ u.s = 3) := by
    rcases hu with h1 | ⟨_, h1, h2⟩ | ⟨h1, _⟩
    · have := h1.i; have := h1.s; omega
    · exact ⟨h1, h2⟩
    · cases h1
  refine ⟨hng, hu2.1, hu2.2, fun e => ?_, by rw [htn]⟩
  rw [hv]
  obtain ⟨a, b, c⟩ := v
  dsimp only at hvn hv0 hnew hvr
  have hc0 : c = 0 := by omega
  rw [hvn, hv0, hc0]
theorem take_dm (hn : n ≤ 8) (hg : g < n) (hk : k < n) (hkg : k ≠ g) (h : St n g 0 k d) (hD : Dm n g d) (hu : Aw n g 0 u) {from_ : Int} (hf : Nd from_) (hno : 0 ≤ d.no ∧ d.no ≤ 18446744073709551615) (hal : d.f g = some ⟨g, 0, 0⟩ → d.no ≤ n + 3) (l : List Int) :
    Dm n g (d.take k u from_ l).2.1 ∧ (d.take k u from_ l).2.1.s = d.s := by
  have hmay := hu.may hg (by omega)
  have hr := hu.rng hg
  have hcd := hear_code (k := k) (f := d.f) hmay (by omega : u.i ≠ 18446744073709551615)
  unfold Det.take
  rw [if_neg (by omega)]
  by_cases ht : (hearS k d.f u).1.1 = true
  · rw [if_pos ht]
    obtain ⟨h1, h2, h3, h4, h5⟩ := hear_took2 (by omega) hg h hu ht
    rw [h5]
    have e : u = ⟨g, 0, u.s⟩ := by
      obtain ⟨a, b, c⟩ := u
      dsimp only at h1 h2
      rw [h1, h2]
    unfold Det.learn
    dsimp only
    by_cases e1 : u.s = 1
    · rw [if_pos e1]
      rw [e1] at e
      have hst := st_hear hkg h hu
      rw [h5] at hst
      have hr2 := raise_dm (n := n) (m := ({ d with f := d.f.set g u } : Det).many) (many_8 hn hg hk hst) (by omega) hD.di hD.a hD.u (D_g h) hf hno (fun _ => hal (h4 e1))
      have ed : ((({ d with f := d.f.set g u } : Det).tell u).susp u from_).D = (Do.raiseS d.D g 0 1 from_ d.no ({ d with f := d.f.set g u } : Det).many two).2.2 := by
        show (Do.raiseS d.D u.n u.i u.s from_ d.no ({ d with f := d.f.set g u } : Det).many two).2.2 = _
        rw [h1, h2, e1]
      refine ⟨⟨?_, ?_, ?_, fun _ => ?_⟩, rfl⟩
      · rw [ed]; exact hr2.1
      · rw [ed]; exact hr2.2.1
      · rw [ed]; exact hr2.2.2.1
      · rw [ed]; exact hr2.2.2.2
    · have e3 : u.s = 3 := by omega
      rw [if_neg e1, if_neg (by omega)]
      refine ⟨⟨hD.di.less _, fun y hy => hD.a y (List.mem_filter.1 hy).1, fun y hy => hD.u y (List.mem_filter.1 hy).1, fun hs => ?_⟩, rfl⟩
      have hs' : d.f.set g u g = some ⟨g, 0, 1⟩ := hs
      rw [Tab.set_same] at hs'
      have := congrArg Upd.s (Option.some.inj hs')
      dsimp only at this
      omega
  · have ht' : (hearS k d.f u).1.1 = false := by simpa using ht
    have hfg := hear_nt ht' (fun e => hkg e.symm)
    rw [if_neg ht]
    split
    · exact ⟨⟨hD.di, hD.a, hD.u, fun hs => hD.sus (by rw [← hfg]; exact hs)⟩, rfl⟩
    · split
      · rename_i hs
        obtain ⟨hs1, hs2⟩ := hs
        have hug : u.n = g ∧ u.i = 0 := by
          rcases hu with h1 | ⟨h1, h2, _⟩ | ⟨h1, _⟩
          · have := h1.s; omega
          · exact ⟨h1, h2⟩
          · cases h1
        have hfu : d.f g = some ⟨g, 0, 1⟩ := by
          rw [← hfg]
          unfold Det.knows getS at hs2
          rw [hug.1, if_pos (by omega), Int.toNat_natCast] at hs2
          simp only [Bool.and_eq_true] at hs2
          obtain ⟨v, hv⟩ := Option.isSome_iff_exists.1 hs2.1
          have h2 := hs2.2
          rw [hv] at h2 ⊢
          unfold eqU at h2
          simp only [Bool.and_eq_true, beq_iff_eq] at h2
          obtain ⟨a, b, c⟩ := v
          have e1 : a = u.n := h2.1
          have e2 : b = u.i := h2.2.1
          have e3 : c = u.s := h2.2.2
          rw [e1, e2, e3, hug.1, hug.2, hs1]
        have hst := st_hear hkg h hu
        have hr2 := raise_dm (n := n) (m := ({ d with f := (hearS k d.f u).2 } : Det).many) (many_8 hn hg hk hst) (by omega) hD.di hD.a hD.u (D_g h) hf hno (fun hh => by
          obtain ⟨y, hy, e⟩ := hD.sus hfu
          exact absurd e (hh y hy))
        have ed : (({ d with f := (hearS k d.f u).2 } : Det).susp u from_).D = (Do.raiseS d.D g 0 1 from_ d.no ({ d with f := (hearS k d.f u).2 } : Det).many two).2.2 := by
          show (Do.raiseS d.D u.n u.i u.s from_ d.no ({ d with f := (hearS k d.f u).2 } : Det).many two).2.2 = _
          rw [hug.1, hug.2, hs1]
        refine ⟨⟨?_, ?_, ?_, fun _ => ?_⟩, rfl⟩
        · rw [ed]; exact hr2.1
        · rw [ed]; exact hr2.2.1
        · rw [ed]; exact hr2.2.2.1
        · rw [ed]; exact hr2.2.2.2
      · exact ⟨⟨hD.di, hD.a, hD.u, fun hs => hD.sus (by rw [← hfg]; exact hs)⟩, rfl⟩
end
end Go.Proofs.YtpoofjnfaijjjaaGreatDoor
namespace Go.Proofs.YtpoofjnfaijjjaaGreatDoor
open Go.RowKit Go.Proofs.YtpoofjnfaijjjaaGreatDoor.Ro
/-- One of the others, behind t of its ticks. -/
structure Dn (n g k t : Nat) (d : Det) : Prop where
  st : St n g 0 k d
  dm : Dm n g d
  no : d.no = t
  E : ∀ x ∈ d.E, x.n = g
  W : ∀ x ∈ d.W, (t : Int) - 3 ≤ x.a ∧ x.a ≤ t
  stage : Sb g d.f ∨ (∃ y ∈ d.W, y.n = g ∧ y.a + 1 ≤ n) ∨ ((g : Int) ∈ d.s ∧ d.s.length + t + 1 ≤ n)
  sub : ∀ y ∈ d.s, Oth n k y
  dd : n + 11 ≤ t → d.f g = some ⟨g, 0, 3⟩
  Wl : d.W.length ≤ t
section
variable {n g k t : Nat} {d : Det} {u : Upd}
theorem Dn.early (h : Dn n g k t d) (ha : d.f g = some ⟨g, 0, 0⟩) : t ≤ n + 2 := by
  rcases h.stage with ⟨v, hv, hs⟩ | ⟨y, hy, _, h2⟩ | ⟨h1, h2⟩
  · rw [ha] at hv
    rw [← Option.some.inj hv] at hs
    exfalso
    rcases hs with hs | hs
    · exact hs rfl
    · exact absurd hs (by show ¬ (0 : Int) = 1; decide)
  · have := (h.W y hy).1
    omega
  · have := List.length_pos_of_mem h1
    omega
theorem dead_stays (hg : g < n) (hkg : k ≠ g) (hu : Aw n g 0 u) {f : Tab} (hf : f g = some ⟨g, 0, 3⟩) : (hearS k f u).2 g = some ⟨g, 0, 3⟩ := by
  rcases hear_at (u := u) (f := f) (fun e => hkg e.symm : g ≠ k) with h | ⟨h1, h2, h3⟩
  · rw [h]; exact hf
  · exfalso
    have h4 := h3 _ hf
    unfold newerU at h4
    rw [newer_iff] at h4
    have hr := hu.rng hg
    dsimp only at h4
    rcases hu with h | ⟨_, h5, h6⟩ | ⟨h5, _⟩
    · have := h.i; have := h.s; omega
    · omega
    · cases h5
theorem take_dn (hn : n ≤ 8) (hg : g < n) (hk : k < n) (hkg : k ≠ g) (ht : t ≤ 1000) (h : Dn n g k t d) (hu : Aw n g 0 u) {from_ : Int} (hf : Nd from_) (l : List Int) : Dn n g k t (d.take k u from_ l).2.1 := by
  obtain ⟨c', s1, _⟩ := take_ste (by omega) hg hk (Nat.zero_le 1) h.st hu from_ l
  have hc := s1.same hkg
  subst hc
  have hno := h.no
  obtain ⟨m1, m2⟩ := take_dm hn hg hk hkg h.st h.dm hu hf ⟨by omega, by omega⟩ (fun e => by have := h.early e; omega) l
  obtain ⟨t1, t2, t3, _, _, t6⟩ := take_fr k d u from_ l
  refine ⟨s1.st, m1, t3.trans h.no, by rw [t2]; exact h.E, by rw [t1]; exact h.W, ?_, by rw [m2]; exact h.sub, fun e => by rw [t6]; exact dead_stays hg hkg hu (h.dd e), by rw [t1]; exact h.Wl⟩
  rw [t1, m2]
  exact h.stage.imp (s1.S hkg) id
theorem takes_dn (hn : n ≤ 8) (hg : g < n) (hk : k < n) (hkg : k ≠ g) (ht : t ≤ 1000) {f : Int} (hf : Nd f) : ∀ (U : List Upd) {d : Det} (_ : Dn n g k t d) (_ : ∀ u ∈ U, Aw n g 0 u) (l : List Int), (d.takes k f U l).1 = 0 ∧ Dn n g k t (d.takes k f U l).2.1
  | [], _, h, _, _ => ⟨rfl, h⟩
  | u :: r, d, h, hU, l => by
    have hu := hU u (by simp)
    have hz := take_zero (d := d) (k := k) (hu.may hg (by omega)) (by have := hu.rng hg; omega : u.i ≠ 18446744073709551615) f l
    have h1 := take_dn hn hg hk hkg ht h hu hf l
    rw [Det.takes, hz, if_neg (by decide)]
    exact takes_dn hn hg hk hkg ht hf r h1 (fun v hv => hU v (by simp [hv])) _
theorem told_dn (h : Dn n g k t d) (x : Int) : Dn n g k t (d.told k x) :=
  ⟨⟨h.st.ni.told x, h.st.kn, h.st.le⟩, ⟨h.dm.di, h.dm.a, h.dm.u, h.dm.sus⟩, h.no, h.E, h.W, h.stage, h.sub, h.dd, h.Wl⟩
/-- A note that is under way. -/
structure Nk (n g : Nat) (m : Nte) (f x : Nat) : Prop where
  nin : Nin (Aw n g 0) m
  ef : m.f = f
  fn : f < n
  fg : f ≠ g
  et : m.t = x
  tn : x < n
  ne : x ≠ f
  kind : (m.k = 1 ∧ m.o = 0) ∨ (m.k = 2 ∧ m.o = f) ∨ (m.k = 3 ∧ m.o = g)
def wt (m : Nte) : Nat := if m.k = 3 then 3 else if m.k = 1 then 2 else 1
/-- What is heard of such a note; what follows. -/
theorem hear_dn (hn : n ≤ 8) (hg : g < n) (hk : k < n) (hkg : k ≠ g) (ht : t ≤ 1000) (h : Dn n g k t d) {m : Nte} {f : Nat} (hm : Nk n g m f k) (l : List Int) :
    ∃ (d' : Det) (X : List Nte) (l' : List Int), d.hear k m l = ((X, 0), d', l') ∧ Dn n g k t d' ∧ (∀ y ∈ X, ∃ x, Nk n g y k x ∧ (x = f ∧ y.k = 2 ∧ m.k = 1 ∧ y.q = m.q ∨ x = g)) ∧ (X.map wt).sum < wt m ∧
      (∀ y ∈ d'.W, y ∈ d.W ∧ (m.k = 2 → ¬ (y.q = m.q ∧ y.n = m.o))) ∧ (m.k = 1 → ∃ y ∈ X, y.k = 2 ∧ y.t = f ∧ y.q = m.q ∧ y.o = k) := by
  obtain ⟨K, F, T, q, o, U⟩ := m
  obtain ⟨hnin, hf, hfn, hfg, hT, _, hne, hkind⟩ := hm
  dsimp only at hf hT hkind
  subst hf hT
  have hU := hnin.u
  have hq := hnin.q
  dsimp only at hU hq
  have ho : Nd o ∧ 1 ≤ K ∧ K ≤ 3 := by
    rcases hkind with ⟨h1, h2⟩ | ⟨h1, h2⟩ | ⟨h1, h2⟩ <;> (refine ⟨⟨?_, ?_⟩, ?_, ?_⟩ <;> omega)
  have hflt : d.fault k ⟨K, f, k, q, o, U⟩ = 0 := by
    unfold Det.fault
    rw [if_neg (by rw [h.st.le]; decide)]
    have h1 : nodeB (f : Int) = true := by unfold nodeB; simp; omega
    have h2 : nodeB o = true := by unfold nodeB; simp; exact ho.1
    rw [if_neg (by simp [h1, h2]; omega), if_neg (show ¬ (K < 1 ∨ 3 < K) by omega)]
  have hfi : d.first k f l = (d, l) := by
    unfold Det.first
    rw [if_pos]
    unfold getS
    rw [if_pos (by omega), Int.toNat_natCast]
    exact h.st.kn f hfn
  obtain ⟨z1, hd1⟩ := takes_dn hn hg hk hkg ht (⟨by omega, by omega⟩ : Nd (f : Int)) U h hU l
  obtain ⟨hW1, _⟩ := takes_fr k f U d l
  have hhe : d.hear k ⟨K, f, k, q, o, U⟩ l = ((((d.takes k f U l).2.1.answer k ⟨K, f, k, q, o, U⟩).1, 0), ((d.takes k f U l).2.1.answer k ⟨K, f, k, q, o, U⟩).2, (d.takes k f U l).2.2) := by
    unfold Det.hear
    rw [if_neg (by rw [hflt]; decide)]
    dsimp only
    rw [hfi]
    dsimp only
    rw [z1, if_neg (by decide)]
  rw [hhe]
  generalize (d.takes k f U l).2.1 = d1 at *
  generalize (d.takes k f U l).2.2 = l1 at *
  rcases hkind with ⟨rfl, rfl⟩ | ⟨rfl, rfl⟩ | ⟨rfl, rfl⟩
  · refine ⟨d1.told k f, [⟨2, k, f, q, k, d1.news k f⟩], l1, rfl, told_dn hd1 _, fun y hy => ?_, by show (1 + 0) < 2; decide, fun y hy => ⟨by rw [← hW1]; exact hy, fun e => by cases e⟩, fun _ => ⟨⟨2, k, f, q, k, d1.news k f⟩, by simp, rfl, rfl, rfl, rfl⟩⟩
    obtain rfl := List.mem_singleton.1 hy
    exact ⟨f, ⟨hd1.st.ni.note _ _ _ _ _ _ hq, rfl, hk, hkg, rfl, hfn, fun e => hne e.symm, .inr (.inl ⟨rfl, rfl⟩)⟩, .inl ⟨rfl, rfl, rfl, rfl⟩⟩
  · have ha : d1.answer k ⟨2, f, k, q, f, U⟩ = ([], { d1 with W := d1.W.filter (fun x => !ackW ⟨2, f, k, q, f, U⟩ x) }) := by
      unfold Det.answer
      rw [if_neg (by show ¬ (2 : Int) = 1; decide), if_pos rfl]
      unfold Det.acked
      rw [List.find?_eq_none.2 fun x hx => by
        unfold ackE
        have := hd1.E x hx
        simp only [Bool.and_eq_true, beq_iff_eq, not_and]
        intro _ e
        omega]
    rw [ha]
    have hback : ∀ y ∈ d1.W.filter (fun x => !ackW ⟨2, f, k, q, f, U⟩ x), y ∈ d1.W ∧ ¬ (y.q = q ∧ y.n = f) := fun y hy => by
      obtain ⟨h1, h2⟩ := List.mem_filter.1 hy
      refine ⟨h1, fun e => ?_⟩
      unfold ackW at h2
      simp [e.1, e.2] at h2
    refine ⟨_, [], l1, rfl, ⟨⟨⟨hd1.st.ni.m, hd1.st.ni.f, hd1.st.ni.n, hd1.st.ni.Q, hd1.st.ni.D, hd1.st.ni.E, fun y hy => hd1.st.ni.W y (hback y hy).1⟩, hd1.st.kn, hd1.st.le⟩, ⟨hd1.dm.di, hd1.dm.a, hd1.dm.u, hd1.dm.sus⟩, hd1.no, hd1.E, fun y hy => hd1.W y (hback y hy).1, ?_, hd1.sub, hd1.dd, Nat.le_trans (List.length_filter_le _ _) hd1.Wl⟩, (fun y hy => by cases hy), by show 0 < 1; decide, fun y hy => ⟨by rw [← hW1]; exact (hback y hy).1, fun _ => (hback y hy).2⟩, fun e => by cases e⟩
    rcases hd1.stage with h1 | ⟨y, hy, h2, h3⟩ | h1
    · exact .inl h1
    · refine .inr (.inl ⟨y, List.mem_filter.2 ⟨hy, ?_⟩, h2, h3⟩)
      unfold ackW
      have : (y.n == (f : Int)) = false := by rw [beq_eq_false_iff_ne]; omega
      simp [this]
    · exact .inr (.inr h1)
  · have ha : d1.answer k ⟨3, f, k, q, g, U⟩ = ([d1.ping k g], { (d1.next).told k g with E := (if 32 ≤ d1.E.length then d1.E.tail else d1.E) ++ [⟨g, u64w (d1.la + 1), d1.no, f, q⟩] }) := by
      unfold Det.answer
      rw [if_neg (by show ¬ (3 : Int) = 1; decide), if_neg (by show ¬ (3 : Int) = 2; decide)]
      unfold Det.helped
      rw [if_neg (by show ¬ (g : Int) = k; omega)]
    rw [ha]
    have hE : ∀ x ∈ (if 32 ≤ d1.E.length then d1.E.tail else d1.E) ++ [(⟨g, u64w (d1.la + 1), d1.no, f, q⟩ : Ern)], x.n = g ∧ U64 x.t := fun x hx => by
      rcases List.mem_append.1 hx with hx | hx
      · split at hx
        · exact ⟨hd1.E x (List.mem_of_mem_tail hx), hd1.st.ni.E x (List.mem_of_mem_tail hx)⟩
        · exact ⟨hd1.E x hx, hd1.st.ni.E x hx⟩
      · obtain rfl := List.mem_singleton.1 hx
        exact ⟨rfl, hq⟩
    have ht := (told_dn hd1 (g : Int)).st.ni
    refine ⟨_, [d1.ping k g], l1, rfl, ⟨⟨⟨ht.m, ht.f, ht.n, ht.Q, ht.D, fun x hx => (hE x hx).2, ht.W⟩, hd1.st.kn, hd1.st.le⟩, ⟨hd1.dm.di, hd1.dm.a, hd1.dm.u, hd1.dm.sus⟩, hd1.no, fun x hx => (hE x hx).1, hd1.W, hd1.stage, hd1.sub, hd1.dd, hd1.Wl⟩, fun y hy => ?_, by show (2 + 0) < 3; decide, fun y hy => ⟨by rw [← hW1]; exact hy, fun e => by cases e⟩, fun e => by cases e⟩
    obtain rfl := List.mem_singleton.1 hy
    exact ⟨g, ⟨hd1.st.ni.note 1 k g (u64w (d1.la + 1)) 0 g (u64w_ok _), rfl, hk, hkg, rfl, hg, fun e => hkg e.symm, .inl ⟨rfl, rfl⟩⟩, .inr rfl⟩
end
end Go.Proofs.YtpoofjnfaijjjaaGreatDoor
namespace Go.Proofs.YtpoofjnfaijjjaaGreatDoor
open Go.RowKit Go.Proofs.YtpoofjnfaijjjaaGreatDoor.Ro
/-- Each watch of one that is up has its ping, or its answer, under way. -/
def Pend (n g : Nat) (F : Nat → Det) (X : List Nte) : Prop :=
  ∀ j, j < n → j ≠ g → ∀ y ∈ (F j).W, y.n = g ∨ ∃ m ∈ X, (m.k = 1 ∧ m.f = j ∧ m.t = y.n ∧ m.q = y.q) ∨ (m.k = 2 ∧ m.t = j ∧ m.q = y.q ∧ m.o = y.n)
theorem wt_pos (m : Nte) : 1 ≤ wt m := by unfold wt; split <;> (try split) <;> omega
theorem settle_dn {n g up : Nat} (hn : n ≤ 8) (hg : g < n) (hup : ∀ j : Nat, j < n → Bnd.hasS up j = decide (j ≠ g)) {τ : Nat → Nat} (hτ : ∀ j, τ j ≤ 1000) : ∀ (fuel : Nat) (X : List Nte) (F : Nat → Det) (l : List Int),
    (∀ j, j < n → j ≠ g → Dn n g j (τ j) (F j)) → (∀ m ∈ X, ∃ f x, Nk n g m f x) → Pend n g F X → (X.map wt).sum ≤ fuel →
    ∃ F' l', settleS n up fuel F X l = (true, F', l') ∧ (∀ j, j < n → j ≠ g → Dn n g j (τ j) (F' j) ∧ ∀ y ∈ (F' j).W, y.n = g) ∧ F' g = F g := by
  intro fuel
  induction fuel with
  | zero =>
    intro X F l hF hX hP hw
    cases X with
    | nil => exact ⟨F, l, rfl, fun j hj hjg => ⟨hF j hj hjg, fun y hy => (hP j hj hjg y hy).elim id fun ⟨m, hm, _⟩ => by cases hm⟩, rfl⟩
    | cons m r =>
      have := wt_pos m
      simp only [List.map_cons, List.sum_cons] at hw
      omega
  | succ fuel ih =>
    intro X F l hF hX hP hw
    cases X with
    | nil => exact ⟨F, l, rfl, fun j hj hjg => ⟨hF j hj hjg, fun y hy => (hP j hj hjg y hy).elim id fun ⟨m, hm, _⟩ => by cases hm⟩, rfl⟩
    | cons m r =>
      obtain ⟨f, x, hm⟩ := hX m (by simp)
      have hwp := wt_pos m
      simp only [List.map_cons, List.sum_cons] at hw
      have hr : ∀ m ∈ r, ∃ f x, Nk n g m f x := fun y hy => hX y (List.mem_cons_of_mem _ hy)
      by_cases hx : x = g
      · have hsk : skipN n up m = true := by
          unfold skipN
          rw [hm.et, hx, hup g hg]
          simp
        rw [settleS, if_pos hsk]
        refine ih r F l hF hr (fun j hj hjg y hy => ?_) (by omega)
        rcases hP j hj hjg y hy with h | ⟨m', hm', h⟩
        · exact .inl h
        · rcases List.mem_cons.1 hm' with e | hm'
          · subst e
            rcases h with ⟨_, _, h3, _⟩ | ⟨_, h2, _⟩
            · left
              rw [← h3, hm.et, hx]
            · exfalso
              rw [hm.et, hx] at h2
              omega
          · exact .inr ⟨m', hm', h⟩
      · have hsk : skipN n up m = false := by
          unfold skipN
          have := hm.tn
          rw [hm.et, hm.ef, hup x hm.tn, hup f hm.fn, decide_eq_true hx, decide_eq_true hm.fg, decide_eq_false (by omega)]
          rfl
        obtain ⟨d', Y, l', e, hd', hY, hsum, hW, hack⟩ := hear_dn hn hg hm.tn hx (hτ x) (hF x hm.tn hx) hm l
        rw [settleS, hsk, if_neg (by decide)]
        rw [hm.et, Int.toNat_natCast, e, if_pos rfl]
        dsimp only
        obtain ⟨F', l2, e2, h2, h3⟩ := ih (r ++ Y) (putF F x d') l' (fun j hj hjg => by
          by_cases ej : j = x
          · subst ej; rw [putF_same]; exact hd'
          · rw [putF_other _ _ ej]; exact hF j hj hjg) (fun y hy => by
          rcases List.mem_append.1 hy with hy | hy
          · exact hr y hy
          · obtain ⟨x', h, _⟩ := hY y hy
            exact ⟨x, x', h⟩) (fun j hj hjg y hy => by
          by_cases ej : j = x
          · subst ej
            rw [putF_same] at hy
            obtain ⟨w1, w2⟩ := hW y hy
            rcases hP j hj hjg y w1 with h | ⟨m', hm', h⟩
            · exact .inl h
            · rcases List.mem_cons.1 hm' with e' | hm'
              · subst e'
                exfalso
                rcases h with ⟨_, h2, _⟩ | ⟨h1, _, h3, h4⟩
                · have := hm.ef; have := hm.ne; omega
                · exact w2 h1 ⟨h3.symm, h4.symm⟩
              · exact .inr ⟨m', List.mem_append_left _ hm', h⟩
          · rw [putF_other _ _ ej] at hy
            rcases hP j hj hjg y hy with h | ⟨m', hm', h⟩
            · exact .inl h
            · rcases List.mem_cons.1 hm' with e' | hm'
              · subst e'
                rcases h with ⟨h1, h2, h3, h4⟩ | ⟨_, h2, _⟩
                · obtain ⟨a, ha, a1, a2, a3, a4⟩ := hack h1
                  refine .inr ⟨a, List.mem_append_right _ ha, .inr ⟨a1, ?_, a3.trans h4, ?_⟩⟩
                  · rw [a2, ← hm.ef]; exact h2
                  · rw [a4, ← hm.et]; exact h3
                · exfalso
                  have := hm.et; omega
              · exact .inr ⟨m', List.mem_append_left _ hm', h⟩) (by
          rw [List.map_append, List.sum_append]
          omega)
        exact ⟨F', l2, e2, h2, h3.trans (putF_other _ _ (fun e => hx e.symm))⟩
end Go.Proofs.YtpoofjnfaijjjaaGreatDoor
namespace Go.Proofs.YtpoofjnfaijjjaaGreatDoor
open Go.RowKit Go.Proofs.YtpoofjnfaijjjaaGreatDoor.Ro
/-- What a part of a tick keeps. -/
structure Dl (n g k T : Nat) (d0 d : Det) : Prop where
  st : St n g 0 k d
  dm : Dm n g d
  no : d.no = T
  S : Sb g d0.f → Sb g d.f
  s : d.s = d0.s
  E : d.E = d0.E
  W : d.W = d0.W
  dd : d0.f g = some ⟨g, 0, 3⟩ → d.f g = some ⟨g, 0, 3⟩
section
variable {n g k T : Nat} {d d0 d1 : Det} {u : Upd}
theorem Dl.trans (h : Dl n g k T d0 d) (h' : Dl n g k T d d1) : Dl n g k T d0 d1 :=
  ⟨h'.st, h'.dm, h'.no, fun e => h'.S (h.S e), h'.s.trans h.s, h'.E.trans h.E, h'.W.trans h.W, fun e => h'.dd (h.dd e)⟩
theorem alive_of (hg : g < n) (h : St n g 0 k d) (hs : ¬ Sb g d.f) : d.f g = some ⟨g, 0, 0⟩ := by
  obtain ⟨v, hv⟩ := Option.isSome_iff_exists.1 (h.kn g hg)
  have hvn := h.ni.n g v hv
  have hva := h.ni.f g v hv
  have h0 : ¬ (v.s ≠ 0 ∨ v.i = 1) := fun e => hs ⟨v, hv, e⟩
  rw [hv]
  obtain ⟨a, b, c⟩ := v
  dsimp only at hvn h0
  have hb : b = 0 := by
    rcases hva with h | ⟨_, h, _⟩ | ⟨h, _⟩
    · exact h.i
    · exact h
    · cases h
  have hc : c = 0 := by
    by_cases e : c = 0
    · exact e
    · exact absurd (.inl e) h0
  rw [hvn, hb, hc]
theorem sb_not_alive (h : Sb g d.f) : d.f g ≠ some ⟨g, 0, 0⟩ := fun e => by
  obtain ⟨v, hv, hs⟩ := h
  rw [e] at hv
  rw [← Option.some.inj hv] at hs
  rcases hs with hs | hs
  · exact hs rfl
  · exact absurd hs (by show ¬ (0 : Int) = 1; decide)
theorem take_dl (hn : n ≤ 8) (hg : g < n) (hk : k < n) (hkg : k ≠ g) (hT : T ≤ 1000) (h : St n g 0 k d) (hD : Dm n g d) (hno : d.no = T) (hal : ¬ Sb g d.f → T ≤ n + 3) (hu : Aw n g 0 u) (l : List Int) : Dl n g k T d (d.take k u k l).2.1 := by
  obtain ⟨c', s1, _⟩ := take_ste (by omega) hg hk (Nat.zero_le 1) h hu k l
  have hc := s1.same hkg
  subst hc
  obtain ⟨m1, m2⟩ := take_dm hn hg hk hkg h hD hu (⟨by omega, by omega⟩ : Nd (k : Int)) ⟨by omega, by omega⟩ (fun e => by
    have := hal fun hs => sb_not_alive hs e
    omega) l
  obtain ⟨t1, t2, t3, _, _, t6⟩ := take_fr k d u k l
  exact ⟨s1.st, m1, t3.trans hno, s1.S hkg, m2, t2, t1, fun e => by rw [t6]; exact dead_stays hg hkg hu e⟩
theorem miss_dl (hn : n ≤ 8) (hg : g < n) (hk : k < n) (hkg : k ≠ g) (hT : T ≤ 1000) (h : St n g 0 k d) (hD : Dm n g d) (hno : d.no = T) (hal : ¬ Sb g d.f → T ≤ n + 3) (l : List Int) : Dl n g k T d (d.miss k g l).1 ∧ Sb g (d.miss k g l).1.f := by
  have hgs : getS d.f (g : Int) = d.f g := by
    unfold getS
    rw [if_pos (by omega), Int.toNat_natCast]
  by_cases hs : Sb g d.f
  · have hl : Dl n g k T d (d.miss k g l).1 := by
      unfold Det.miss
      split
      · rename_i hc
        exfalso
        obtain ⟨v, hv, hvs⟩ := hs
        rw [hgs, hv] at hc
        have h0 : v.s = 0 := hc.2
        rcases hvs with h1 | h1
        · exact h1 h0
        · rcases h.ni.f g v hv with h2 | ⟨_, h2, _⟩ | ⟨h2, _⟩
          · have := h2.i; omega
          · omega
          · cases h2
      · exact ⟨h, hD, hno, id, rfl, rfl, rfl, id⟩
    exact ⟨hl, hl.S hs⟩
  · have ha := alive_of hg h hs
    have hu : Aw n g 0 ⟨g, 0, 1⟩ := .inr (.inl ⟨rfl, rfl, .inl rfl⟩)
    have e : d.miss k g l = (d.take k ⟨g, 0, 1⟩ k l).2 := by
      unfold Det.miss
      rw [hgs, ha, if_pos ⟨rfl, rfl⟩]
      rfl
    rw [e]
    refine ⟨take_dl hn hg hk hkg hT h hD hno hal hu l, ⟨⟨g, 0, 1⟩, ?_, .inl (by show (1 : Int) ≠ 0; decide)⟩⟩
    rw [(take_fr k d ⟨g, 0, 1⟩ k l).2.2.2.2.2]
    unfold hearS
    rw [if_pos (hu.may hg (by omega)), if_neg (by simp; omega), if_neg (by show ¬ ((d.f (g : Int).toNat).isSome && !newerU ⟨g, 0, 1⟩ (ud (d.f (g : Int).toNat))) = true; rw [Int.toNat_natCast, ha]; simp [ud, newerU, newerS])]
    show d.f.set (g : Int).toNat ⟨g, 0, 1⟩ g = _
    rw [Int.toNat_natCast]
    exact Tab.set_same _ _ _
theorem helps_dl (hk : k < n) (hkg : k ≠ g) (w : Wch) (hwn : w.n = g) (hq : U64 w.q) : ∀ (H : List Int) {d : Det} (_ : St n g 0 k d) (_ : Dm n g d) (_ : d.no = T) (_ : ∀ x ∈ H, Oth n k x ∧ x ≠ g),
    (∀ m ∈ (d.helps k w H).1, ∃ x, Nk n g m k x) ∧ Dl n g k T d (d.helps k w H).2 ∧ (d.helps k w H).1.length = H.length
  | [], d, h, hD, hno, _ => ⟨(fun m hm => by cases hm), ⟨h, hD, hno, id, rfl, rfl, rfl, id⟩, rfl⟩
  | a :: r, d, h, hD, hno, hH => by
    have ht : St n g 0 k (d.told k a) := ⟨h.ni.told a, h.kn, h.le⟩
    have ih := helps_dl hk hkg w hwn hq r ht ⟨hD.di, hD.a, hD.u, hD.sus⟩ hno fun x hx => hH x (List.mem_cons_of_mem _ hx)
    obtain ⟨⟨m, e, hm, hmk⟩, hag⟩ := hH a (by simp)
    rw [Det.helps]
    refine ⟨fun y hy => ?_, ⟨ih.2.1.st, ih.2.1.dm, ih.2.1.no, ih.2.1.S, ih.2.1.s, ih.2.1.E, ih.2.1.W, ih.2.1.dd⟩, by rw [List.length_cons, List.length_cons, ih.2.2]⟩
    rcases List.mem_cons.1 hy with rfl | hy
    · exact ⟨m, h.ni.note _ _ _ _ _ _ hq, rfl, hk, hkg, e, hm, fun e' => hmk e', .inr (.inr ⟨rfl, hwn⟩)⟩
    · exact ih.1 y hy
end
end Go.Proofs.YtpoofjnfaijjjaaGreatDoor
namespace Go.Proofs.YtpoofjnfaijjjaaGreatDoor
open Go.RowKit Go.Proofs.YtpoofjnfaijjjaaGreatDoor.Ro
section
variable {n g k T : Nat} {d : Det}
theorem Dl.refl (h : St n g 0 k d) (hD : Dm n g d) (hno : d.no = T) : Dl n g k T d d := ⟨h, hD, hno, id, rfl, rfl, rfl, id⟩
theorem u64w_small {x : Int} (h0 : 0 ≤ x) (h1 : x ≤ 1000000) : u64w x = x := by
  unfold u64w
  rw [IntKind.wrap_u64]
  omega
theorem help_mem {o : List Int} {x : Int} {l : List Int} {y : Int} (h : y ∈ (Rn.helpS o x 2 l).1) : y ∈ o ∧ y ≠ x := by
  unfold Rn.helpS Rn.someS at h
  rw [if_neg (by decide)] at h
  have h1 := (Rn.shufS_perm _ _).mem_iff.1 (List.mem_of_mem_take h)
  obtain ⟨h2, h3⟩ := List.mem_filter.1 h1
  exact ⟨h2, by simpa using h3⟩
theorem help_len (o : List Int) (x : Int) (l : List Int) : (Rn.helpS o x 2 l).1.length ≤ 2 := by
  unfold Rn.helpS Rn.someS
  rw [if_neg (by decide), List.length_take]
  exact Nat.min_le_left _ _
theorem look_dl (hn : n ≤ 8) (hg : g < n) (hk : k < n) (hkg : k ≠ g) (hT : T ≤ 1000) : ∀ (L : List Wch) {d : Det} (_ : St n g 0 k d) (_ : Dm n g d) (_ : d.no = T) (_ : ¬ Sb g d.f → T ≤ n + 3) (_ : ∀ y ∈ L, y.n = g ∧ U64 y.q ∧ 0 ≤ (T : Int) - y.a ∧ (T : Int) - y.a ≤ 1000) (l : List Int),
    Dl n g k T d (d.look k L l).2.2.1 ∧ (∀ m ∈ (d.look k L l).1, ∃ x, Nk n g m k x) ∧ (d.look k L l).1.length ≤ 2 * L.length ∧ (∀ y ∈ (d.look k L l).2.1, ∃ y0 ∈ L, y.n = y0.n ∧ y.a = y0.a ∧ y.q = y0.q ∧ (T : Int) - y.a ≤ 3) ∧ (∀ y ∈ L, (∃ y' ∈ (d.look k L l).2.1, y'.n = y.n ∧ y'.a = y.a) ∨ Sb g (d.look k L l).2.2.1.f)
  | [], d, h, hD, hno, _, _, l => ⟨Dl.refl h hD hno, (fun m hm => by cases hm), Nat.zero_le _, (fun y hy => by cases hy), (fun y hy => by cases hy)⟩
  | w :: r, d, h, hD, hno, hal, hL, l => by
    obtain ⟨wn, wq, w0, w1⟩ := hL w (by simp)
    have hr := fun y hy => hL y (List.mem_cons_of_mem _ hy)
    have hw : u64w (d.no - w.a) = (T : Int) - w.a := by rw [hno]; exact u64w_small w0 (by omega)
    have lift : ∀ {M : List Wch}, (∀ y ∈ M, ∃ y0 ∈ r, y.n = y0.n ∧ y.a = y0.a ∧ y.q = y0.q ∧ (T : Int) - y.a ≤ 3) → ∀ y ∈ M, ∃ y0 ∈ w :: r, y.n = y0.n ∧ y.a = y0.a ∧ y.q = y0.q ∧ (T : Int) - y.a ≤ 3 := fun h y hy => by
      obtain ⟨y0, h0, e⟩ := h y hy
      exact ⟨y0, List.mem_cons_of_mem _ h0, e⟩
    rw [Det.look]
    by_cases h4 : 4 ≤ u64w (d.no - w.a)
    · rw [if_pos h4, wn]
      obtain ⟨m1, m2⟩ := miss_dl hn hg hk hkg hT h hD hno hal l
      obtain ⟨i1, i2, i3, i4, i5⟩ := look_dl hn hg hk hkg hT r m1.st m1.dm m1.no (fun e => absurd m2 e) hr (d.miss k g l).2
      refine ⟨m1.trans i1, i2, by rw [List.length_cons]; omega, lift i4, fun y hy => ?_⟩
      rcases List.mem_cons.1 hy with rfl | hy
      · exact .inr (i1.S m2)
      · exact i5 y hy
    · rw [if_neg h4]
      rw [hw] at h4
      by_cases h2 : 2 ≤ u64w (d.no - w.a) ∧ w.h = false
      · rw [if_pos h2]
        have hoth := (oth_mem (by omega) hg hk h).1
        obtain ⟨a1, a2, a3⟩ := helps_dl (T := T) hk hkg w wn wq (Rn.helpS (othS k d.f) w.n 2 l).1 h hD hno (fun x hx => by
          obtain ⟨b1, b2⟩ := help_mem hx
          exact ⟨hoth x b1, by rw [wn] at b2; exact b2⟩)
        have hlen := help_len (othS k d.f) w.n l
        obtain ⟨i1, i2, i3, i4, i5⟩ := look_dl hn hg hk hkg hT r (d := (d.ask k w l).2.1) a2.st a2.dm a2.no (fun e => hal fun hs => e (a2.S hs)) hr (d.ask k w l).2.2
        have a3' : (d.ask k w l).1.length ≤ 2 := by show (d.helps k w _).1.length ≤ 2; rw [a3]; exact hlen
        refine ⟨Dl.trans (d := (d.ask k w l).2.1) a2 i1, fun m hm => ?_, ?_, fun y hy => ?_, fun y hy => ?_⟩
        · rcases List.mem_append.1 hm with hm | hm
          · exact a1 m hm
          · exact i2 m hm
        · rw [List.length_append, List.length_cons]; omega
        · rcases List.mem_cons.1 hy with rfl | hy
          · exact ⟨w, by simp, rfl, rfl, rfl, by show (T : Int) - w.a ≤ 3; omega⟩
          · exact lift i4 y hy
        · rcases List.mem_cons.1 hy with rfl | hy
          · exact .inl ⟨_, List.mem_cons_self .., rfl, rfl⟩
          · exact (i5 y hy).imp (fun ⟨y', h1, h2⟩ => ⟨y', List.mem_cons_of_mem _ h1, h2⟩) id
      · rw [if_neg h2]
        obtain ⟨i1, i2, i3, i4, i5⟩ := look_dl hn hg hk hkg hT r h hD hno hal hr l
        refine ⟨i1, i2, by rw [List.length_cons]; show (d.look k r l).1.length ≤ _; omega, fun y hy => ?_, fun y hy => ?_⟩
        · rcases List.mem_cons.1 hy with rfl | hy
          · exact ⟨y, by simp, rfl, rfl, rfl, by omega⟩
          · exact lift i4 y hy
        · rcases List.mem_cons.1 hy with rfl | hy
          · exact .inl ⟨y, List.mem_cons_self .., rfl, rfl⟩
          · exact (i5 y hy).imp (fun ⟨y', h1, h2⟩ => ⟨y', List.mem_cons_of_mem _ h1, h2⟩) id
/-- What is dead is taken in. -/
structure D3 (n g k : Nat) (d0 d : Det) : Prop where
  st : St n g 0 k d
  di : Do.Di d.D
  a : ∀ y ∈ d.D, y.a ≤ n + 3
  u : ∀ y ∈ d.D, y.u ≤ y.a + 8
  no : d.no = d0.no
  S : Sb g d0.f → Sb g d.f
  s : d.s = d0.s
  E : d.E = d0.E
  W : d.W = d0.W
  dd : d0.f g = some ⟨g, 0, 3⟩ → d.f g = some ⟨g, 0, 3⟩
theorem take_d3 (hn : n ≤ 8) (hg : g < n) (hk : k < n) (hkg : k ≠ g) {d0 : Det} (h : D3 n g k d0 d) (l : List Int) : D3 n g k d0 (d.take k ⟨g, 0, 3⟩ k l).2.1 ∧ (d.take k ⟨g, 0, 3⟩ k l).2.1.f g = some ⟨g, 0, 3⟩ := by
  have hu : Aw n g 0 ⟨g, 0, 3⟩ := .inr (.inl ⟨rfl, rfl, .inr rfl⟩)
  obtain ⟨c', s1, _⟩ := take_ste (by omega) hg hk (Nat.zero_le 1) h.st hu k l
  have hc := s1.same hkg
  subst hc
  obtain ⟨t1, t2, t3, _, _, t6⟩ := take_fr k d ⟨g, 0, 3⟩ k l
  have hcd := hear_code (k := k) (f := d.f) (hu.may hg (by omega)) (by decide : (0 : Int) ≠ 18446744073709551615)
  have hDs : (∀ y ∈ (d.take k ⟨g, 0, 3⟩ k l).2.1.D, y ∈ d.D) ∧ Do.Di (d.take k ⟨g, 0, 3⟩ k l).2.1.D ∧ (d.take k ⟨g, 0, 3⟩ k l).2.1.s = d.s := by
    unfold Det.take
    rw [if_neg (by omega)]
    split
    · unfold Det.learn
      rw [if_neg (by show ¬ (3 : Int) = 1; decide), if_neg (by intro e; exact absurd e.1 (by show ¬ (3 : Int) = 0; decide))]
      exact ⟨fun y hy => (List.mem_filter.1 hy).1, h.di.less _, rfl⟩
    · split
      · exact ⟨fun y hy => hy, h.di, rfl⟩
      · rw [if_neg (by intro e; exact absurd e.1 (by show ¬ (3 : Int) = 1; decide))]
        exact ⟨fun y hy => hy, h.di, rfl⟩
  have hdead : (d.take k ⟨g, 0, 3⟩ k l).2.1.f g = some ⟨g, 0, 3⟩ := by
    rw [t6]
    rcases hear_at (u := ⟨g, 0, 3⟩) (f := d.f) (fun e => hkg e.symm : g ≠ k) with h' | ⟨_, h2, _⟩
    · rw [h']
      obtain ⟨v, hv⟩ := Option.isSome_iff_exists.1 (h.st.kn g hg)
      have hvn := h.st.ni.n g v hv
      have hva := h.st.ni.f g v hv
      by_cases hnew : newerU ⟨g, 0, 3⟩ v = true
      · unfold hearS at h'
        rw [if_pos (hu.may hg (by omega)), if_neg (by simp; omega), if_neg (by show ¬ ((d.f (g : Int).toNat).isSome && !newerU ⟨g, 0, 3⟩ (ud (d.f (g : Int).toNat))) = true; rw [Int.toNat_natCast, hv]; simp [ud, hnew])] at h'
        have h'' : d.f.set (g : Int).toNat ⟨g, 0, 3⟩ g = d.f g := h'
        rw [Int.toNat_natCast, Tab.set_same] at h''
        exact h''.symm
      · have hnn : ¬ (v.i < 0 ∨ ((0 : Int) = v.i ∧ v.s < 3)) := fun e => hnew (by unfold newerU; rw [newer_iff]; exact e)
        rw [hv]
        rcases hva with h1 | ⟨_, h1, h2⟩ | ⟨h1, _⟩
        · have := h1.i; have := h1.s; omega
        · obtain ⟨a, b, c⟩ := v
          dsimp only at hvn h1 h2 hnn
          have h3 : c = 3 := by omega
          rw [hvn, h1, h3]
        · cases h1
    · exact h2
  exact ⟨⟨s1.st, hDs.2.1, fun y hy => h.a y (hDs.1 y hy), fun y hy => h.u y (hDs.1 y hy), t3.trans h.no, fun e => s1.S hkg (h.S e), hDs.2.2.trans h.s, t2.trans h.E, t1.trans h.W, fun _ => hdead⟩, hdead⟩
theorem dead_d3 (hn : n ≤ 8) (hg : g < n) (hk : k < n) (hkg : k ≠ g) {d0 : Det} : ∀ (U : List Upd) {d : Det} (_ : D3 n g k d0 d) (_ : ∀ u ∈ U, u = ⟨g, 0, 3⟩) (l : List Int), D3 n g k d0 (d.dead k U l).1 ∧ (U ≠ [] ∨ d.f g = some ⟨g, 0, 3⟩ → (d.dead k U l).1.f g = some ⟨g, 0, 3⟩)
  | [], d, h, _, l => ⟨h, fun e => e.elim (fun e => absurd rfl e) id⟩
  | u :: r, d, h, hU, l => by
    have e := hU u (by simp)
    subst e
    obtain ⟨h1, h2⟩ := take_d3 hn hg hk hkg h l
    obtain ⟨h3, h4⟩ := dead_d3 hn hg hk hkg r h1 (fun v hv => hU v (by simp [hv])) (d.take k ⟨g, 0, 3⟩ k l).2.2
    exact ⟨h3, fun _ => h4 (.inr h2)⟩
end
end Go.Proofs.YtpoofjnfaijjjaaGreatDoor
namespace Go.Proofs.YtpoofjnfaijjjaaGreatDoor
open Go.RowKit Go.Proofs.YtpoofjnfaijjjaaGreatDoor.Ro
section
variable {n g k t : Nat} {d : Det}
theorem sum_wt {X : List Nte} : (X.map wt).sum ≤ 3 * X.length := by
  induction X with
  | nil => exact Nat.le_refl _
  | cons m r ih =>
    have : wt m ≤ 3 := by unfold wt; split <;> (try split) <;> omega
    rw [List.map_cons, List.sum_cons, List.length_cons]
    omega
theorem tick_dn (hn : n ≤ 8) (h3 : 3 ≤ n) (hg : g < n) (hk : k < n) (hkg : k ≠ g) (ht : t ≤ 100) (h : Dn n g k t d) (hWg : ∀ y ∈ d.W, y.n = g) (l : List Int) :
    Dn n g k (t + 1) (d.tick k l).2.1 ∧ (∀ m ∈ (d.tick k l).1, ∃ x, Nk n g m k x) ∧ (d.tick k l).1.length ≤ 2 * t + 1 ∧
      ∀ y ∈ (d.tick k l).2.1.W, y.n = g ∨ ∃ m ∈ (d.tick k l).1, m.k = 1 ∧ m.f = k ∧ m.t = y.n ∧ m.q = y.q := by
  obtain ⟨f, s, Q, D, W, E, la, no, le⟩ := d
  have hle := h.st.le
  have hno := h.no
  dsimp only at hle hno hWg
  subst hle hno
  have hy : u64w ((t : Int) + 1) = ((t + 1 : Nat) : Int) := by rw [u64w_small (by omega) (by omega)]; omega
  have h0 : St n g 0 k (⟨f, s, Q, D, W, E, la, ((t + 1 : Nat) : Int), false⟩ : Det) := ⟨⟨h.st.ni.m, h.st.ni.f, h.st.ni.n, h.st.ni.Q, h.st.ni.D, h.st.ni.E, h.st.ni.W⟩, h.st.kn, rfl⟩
  have hm0 : Dm n g (⟨f, s, Q, D, W, E, la, ((t + 1 : Nat) : Int), false⟩ : Det) := ⟨h.dm.di, h.dm.a, h.dm.u, h.dm.sus⟩
  have hal : ¬ Sb g f → t + 1 ≤ n + 3 := fun e => by
    have := h.early (alive_of hg h.st e)
    omega
  obtain ⟨k1, k2, k3, k4, k5⟩ := look_dl (T := t + 1) hn hg hk hkg (by omega) W h0 hm0 rfl hal (fun y hy => ⟨hWg y hy, h.st.ni.W y hy, by have := (h.W y hy).2; omega, by have := (h.W y hy).1; omega⟩) l
  obtain ⟨_, _, _, _, _, k6⟩ := look_fr k W (⟨f, s, Q, D, W, E, la, ((t + 1 : Nat) : Int), false⟩ : Det) l
  have etick : (⟨f, s, Q, D, W, E, la, (t : Int), false⟩ : Det).tick k l =
      (let r := (⟨f, s, Q, D, W, E, la, ((t + 1 : Nat) : Int), false⟩ : Det).look k W l
       let d2 : Det := { r.2.2.1 with W := r.2.1, E := r.2.2.1.E.filter (fun x => !decide (4 ≤ u64w (r.2.2.1.no - x.a))), D := Do.stayD r.2.2.1.D r.2.2.1.no }
       let x := d2.dead k ((Do.overD r.2.2.1.D r.2.2.1.no).map Do.deadOf) r.2.2.2
       let y := x.1.pingNext k x.2
       (r.1 ++ y.1, y.2)) := by
    unfold Det.tick
    rw [if_neg (show ¬ (false : Bool) = true by decide)]
    dsimp only
    rw [hy]
    rfl
  rw [etick]
  clear etick
  generalize (⟨f, s, Q, D, W, E, la, ((t + 1 : Nat) : Int), false⟩ : Det).look k W l = R at *
  obtain ⟨R1, R2, d1, l1⟩ := R
  dsimp only at k1 k2 k3 k4 k5 k6 ⊢
  have hno1 := k1.no
  -- those that are over
  have hU : ∀ u ∈ (Do.overD d1.D d1.no).map Do.deadOf, u = ⟨g, 0, 3⟩ := fun u hu => by
    obtain ⟨y, hy, rfl⟩ := List.mem_map.1 hu
    obtain ⟨e1, e2⟩ := D_g k1.st y (List.mem_filter.1 hy).1
    unfold Do.deadOf
    rw [e1, e2]
  obtain ⟨d2, HD2⟩ : ∃ d2 : Det, ({ d1 with W := R2, E := d1.E.filter (fun x => !decide (4 ≤ u64w (d1.no - x.a))), D := Do.stayD d1.D d1.no } : Det) = d2 := ⟨_, rfl⟩
  have f2 : d2.f = d1.f := by rw [← HD2]
  have D2 : d2.D = Do.stayD d1.D d1.no := by rw [← HD2]
  have W2 : d2.W = R2 := by rw [← HD2]
  have E2 : ∀ x ∈ d2.E, x.n = g := fun x hx => by
    rw [← HD2] at hx
    have := (List.mem_filter.1 hx).1
    rw [k1.E] at this
    exact h.E x this
  have s2 : d2.s = s := by rw [← HD2]; exact k1.s
  have no2 : d2.no = ((t + 1 : Nat) : Int) := by rw [← HD2]; exact hno1
  have h2 : D3 n g k d2 d2 := by
    refine ⟨?_, by rw [D2]; exact k1.dm.di.stay _, fun y hy => ?_, fun y hy => ?_, rfl, id, rfl, rfl, rfl, id⟩
    · rw [← HD2]
      exact ⟨⟨k1.st.ni.m, k1.st.ni.f, k1.st.ni.n, k1.st.ni.Q, fun y hy => k1.st.ni.D y (List.mem_filter.1 hy).1, fun y hy => k1.st.ni.E y (List.mem_filter.1 hy).1, fun y hy => by
        obtain ⟨y0, h0, _, _, e, _⟩ := k4 y hy
        rw [e]
        exact h.st.ni.W y0 h0⟩, k1.st.kn, k1.st.le⟩
    · rw [D2] at hy; exact k1.dm.a y (List.mem_filter.1 hy).1
    · rw [D2] at hy; exact k1.dm.u y (List.mem_filter.1 hy).1
  rw [HD2]
  obtain ⟨p1, p2⟩ := dead_d3 hn hg hk hkg ((Do.overD d1.D d1.no).map Do.deadOf) h2 hU l1
  have hsus : (d2.dead k ((Do.overD d1.D d1.no).map Do.deadOf) l1).1.f g = some ⟨g, 0, 1⟩ → ∃ y ∈ (d2.dead k ((Do.overD d1.D d1.no).map Do.deadOf) l1).1.D, y.n = g := fun hs => by
    by_cases hne : (Do.overD d1.D d1.no).map Do.deadOf = []
    · rw [hne] at hs ⊢
      have hs' : d2.f g = some ⟨g, 0, 1⟩ := hs
      rw [f2] at hs'
      obtain ⟨y, hy, e⟩ := k1.dm.sus hs'
      refine ⟨y, ?_, e⟩
      show y ∈ d2.D
      rw [D2]
      refine List.mem_filter.2 ⟨hy, ?_⟩
      by_cases hu : y.u ≤ d1.no
      · exfalso
        have : Do.deadOf y ∈ (Do.overD d1.D d1.no).map Do.deadOf := List.mem_map_of_mem (List.mem_filter.2 ⟨hy, by simpa using hu⟩)
        rw [hne] at this
        cases this
      · simpa using hu
    · have := p2 (.inl hne)
      rw [hs] at this
      cases this
  have hdd : n + 11 ≤ t + 1 → (d2.dead k ((Do.overD d1.D d1.no).map Do.deadOf) l1).1.f g = some ⟨g, 0, 3⟩ := fun hT => by
    refine p2 ?_
    by_cases hs : Sb g d1.f
    · obtain ⟨v, hv, hvs⟩ := hs
      have hvn := k1.st.ni.n g v hv
      rcases k1.st.ni.f g v hv with e | ⟨_, e1, e2 | e2⟩ | ⟨e, _⟩
      · have := e.i; have := e.s; omega
      · left
        have hv1 : d1.f g = some ⟨g, 0, 1⟩ := by
          rw [hv]
          obtain ⟨a, b, c⟩ := v
          dsimp only at hvn e1 e2
          rw [hvn, e1, e2]
        obtain ⟨y, hy, _⟩ := k1.dm.sus hv1
        intro hne
        have h4 := k1.dm.a y hy
        have h5 := k1.dm.u y hy
        have : Do.deadOf y ∈ (Do.overD d1.D d1.no).map Do.deadOf := List.mem_map_of_mem (List.mem_filter.2 ⟨hy, by simp; omega⟩)
        rw [hne] at this
        cases this
      · right
        rw [f2, hv]
        obtain ⟨a, b, c⟩ := v
        dsimp only at hvn e1 e2
        rw [hvn, e1, e2]
      · cases e
    · exfalso
      have := hal fun e => hs (k1.S e)
      omega
  generalize d2.dead k ((Do.overD d1.D d1.no).map Do.deadOf) l1 = X at *
  obtain ⟨d3, l3⟩ := X
  dsimp only at p1 p2 hsus hdd ⊢
  have hSb : Sb g f → Sb g d3.f := fun e => p1.S (by rw [f2]; exact k1.S e)
  have hSb1 : Sb g d1.f → Sb g d3.f := fun e => p1.S (by rw [f2]; exact e)
  have s3 : d3.s = s := p1.s.trans s2
  have W3 : d3.W = R2 := p1.W.trans W2
  have no3 : d3.no = ((t + 1 : Nat) : Int) := p1.no.trans no2
  have ho := oth_mem (by omega) hg hk p1.st
  have hne : othS k d3.f ≠ [] := fun e => by
    obtain ⟨m, hm, hmk, hmw⟩ : ∃ m : Nat, m < n ∧ m ≠ k ∧ m ≠ g := by
      by_cases h0 : k ≠ 0 ∧ g ≠ 0
      · exact ⟨0, by omega, by omega, by omega⟩
      · by_cases h1 : k ≠ 1 ∧ g ≠ 1
        · exact ⟨1, by omega, by omega, by omega⟩
        · exact ⟨2, by omega, by omega, by omega⟩
    have := ho.2 m hm hmk hmw
    rw [e] at this
    cases this
  have hnx := nxt_some (s := d3.s) (o := othS k d3.f) l3 hne
  obtain ⟨x, hx, hxn, hxk⟩ := ho.1 _ (nxt_in (s := d3.s) l3 hnx)
  have hpn := Ni.pingNext p1.st.ni l3
  have hsub : ∀ y ∈ (Rn.nxtS d3.s (othS k d3.f) l3).2.1, Oth n k y := fun y hy => by
    rcases nxt_sub l3 hy with e | e
    · rw [s3] at e; exact h.sub y e
    · exact ho.1 y e
  -- the round goes on, as long as it is Alive
  have hround : Sb g d3.f ∨ ((g : Int) ∈ s ∧ s.length + t + 1 ≤ n → (x = g ∧ t + 2 ≤ n) ∨ ((g : Int) ∈ (Rn.nxtS d3.s (othS k d3.f) l3).2.1 ∧ (Rn.nxtS d3.s (othS k d3.f) l3).2.1.length + (t + 1) + 1 ≤ n)) := by
    by_cases hs : Sb g d3.f
    · exact .inl hs
    · right
      rintro ⟨h1, h2'⟩
      have hag := alive_of hg p1.st hs
      have hgo : (g : Int) ∈ othS k d3.f := by
        unfold othS
        rw [Bnd.mem_lst]
        unfold Bnd.hasS
        rw [Bnd.testBit_lessS, Int.toNat_natCast, testBit_all (inv_st (by omega) hg hk p1.st) (by omega : g < 64)]
        have hl : liveAt d3.f g = true := by
          unfold liveAt
          rw [hag]
          rfl
        simp [hl, Bnd.nodeS]
        omega
      have hso : ∀ y ∈ d3.s, y ∈ othS k d3.f := fun y hy => by
        rw [s3] at hy
        obtain ⟨m, rfl, e1, e2⟩ := h.sub y hy
        by_cases em : m = g
        · rw [em]; exact hgo
        · exact ho.2 m e1 e2 em
      rcases nxt_rr l3 hso hne with e | ⟨e, _⟩
      · have e' := s3.symm.trans e
        rw [hx] at e'
        rw [e'] at h1 h2'
        rw [List.length_cons] at h2'
        rcases List.mem_cons.1 h1 with h1 | h1
        · exact .inl ⟨by omega, by omega⟩
        · exact .inr ⟨h1, by omega⟩
      · rw [s3] at e
        rw [e] at h1
        cases h1
  unfold Det.pingNext at hpn ⊢
  dsimp only at hpn ⊢
  rw [if_neg (by rw [hnx]; decide)] at hpn ⊢
  rw [hx] at hpn ⊢
  have hkW : ∀ y ∈ R2, y.n = g ∧ (t : Int) + 1 - y.a ≤ 3 ∧ y.a ≤ t := fun y hy => by
    obtain ⟨y0, h0, e1, e2, _, e3⟩ := k4 y hy
    have := (h.W y0 h0).2
    exact ⟨e1.trans (hWg y0 h0), by omega, by omega⟩
  have hWm : ∀ y ∈ d3.W ++ [(⟨x, u64w (d3.la + 1), d3.no, false⟩ : Wch)], y ∈ R2 ∨ y = ⟨x, u64w (d3.la + 1), d3.no, false⟩ := fun y hy => by
    rcases List.mem_append.1 hy with hy | hy
    · rw [W3] at hy; exact .inl hy
    · exact .inr (List.mem_singleton.1 hy)
  refine ⟨⟨⟨hpn.2, p1.st.kn, p1.st.le⟩, ⟨p1.di, p1.a, p1.u, hsus⟩, no3, fun y hy => E2 y (by rw [← p1.E]; exact hy), fun y hy => ?_, ?_, hsub, hdd, ?_⟩, fun m hm => ?_, ?_, fun y hy => ?_⟩
  · rcases hWm y hy with hy | rfl
    · have := hkW y hy; omega
    · show ((t + 1 : Nat) : Int) - 3 ≤ d3.no ∧ d3.no ≤ _
      rw [no3]; omega
  · rcases hround with e | hround
    · exact .inl e
    · rcases h.stage with e | ⟨y, hy, e1, e2⟩ | e
      · exact .inl (hSb e)
      · rcases k5 y hy with ⟨y', hy', e3, e4⟩ | e3
        · exact .inr (.inl ⟨y', List.mem_append_left _ (by rw [W3]; exact hy'), e3.trans e1, by rw [e4]; exact e2⟩)
        · exact .inl (hSb1 e3)
      · rcases hround e with ⟨e1, e2⟩ | e1
        · refine .inr (.inl ⟨⟨x, u64w (d3.la + 1), d3.no, false⟩, by simp, by show (x : Int) = g; omega, ?_⟩)
          show d3.no + 1 ≤ n
          rw [no3]; omega
        · exact .inr (.inr e1)
  · show (d3.W ++ [_]).length ≤ t + 1
    rw [W3, List.length_append, List.length_singleton]
    have := h.Wl
    dsimp only at this
    omega
  · rcases List.mem_append.1 hm with hm | hm
    · exact k2 m hm
    · obtain rfl := List.mem_singleton.1 hm
      exact ⟨x, hpn.1 _ (by simp), rfl, hk, hkg, rfl, hxn, fun e => hxk e, .inl ⟨rfl, rfl⟩⟩
  · rw [List.length_append, List.length_singleton]
    have := h.Wl
    dsimp only at this
    omega
  · rcases hWm y hy with hy | rfl
    · exact .inl (hkW y hy).1
    · exact .inr ⟨_, List.mem_append_right _ (by simp; rfl), rfl, rfl, rfl, rfl⟩
end
end Go.Proofs.YtpoofjnfaijjjaaGreatDoor
namespace Go.Proofs.YtpoofjnfaijjjaaGreatDoor
open Go.RowKit Go.Proofs.YtpoofjnfaijjjaaGreatDoor.Ro
/-- All of them, but the one that is down; behind i rounds, and those below k in the next one. -/
structure Nd2 (n g i k : Nat) (F : Nat → Det) : Prop where
  dn : ∀ j, j < n → j ≠ g → Dn n g j (i + if j < k then 1 else 0) (F j)
  W : ∀ j, j < n → j ≠ g → ∀ y ∈ (F j).W, y.n = g
  ni : Ni A64 U64 g (F g)
  Wg : (F g).W = []
theorem up_gone : ∀ g : Nat, g < 8 → ∀ j : Nat, j < 8 → Bnd.hasS (Bnd.lessS 511 g) j = decide (j ≠ g) := by decide +kernel
section
variable {n g i k : Nat}
theorem nin64 {m : Nte} (hg : g < n) (h : Nin (Aw n g 0) m) : Nin A64 m := ⟨h.q, h.len, fun v hv => by have := (h.u v hv).rng hg; unfold A64; exact ⟨by omega, by omega⟩⟩
theorem down_skip {F : Nat → Det} (h : Nd2 n g i g F) : Nd2 n g i (g + 1) F :=
  ⟨fun j hj hjg => by
    have := h.dn j hj hjg
    have e : (if j < g + 1 then 1 else 0 : Nat) = if j < g then 1 else 0 := by
      by_cases e : j < g
      · rw [if_pos e, if_pos (by omega)]
      · rw [if_neg e, if_neg (by omega)]
    rw [e]; exact this, h.W, h.ni, h.Wg⟩
theorem down_next {F : Nat → Det} (h : Nd2 n g i n F) : Nd2 n g (i + 1) 0 F :=
  ⟨fun j hj hjg => by
    have := h.dn j hj hjg
    rw [if_pos hj] at this
    rw [if_neg (by omega)]
    exact this, h.W, h.ni, h.Wg⟩
theorem down_step {F : Nat → Det} (hn : n ≤ 8) (h3 : 3 ≤ n) (hg : g < n) (hk : k < n) (hkg : k ≠ g) (hi : i ≤ 60) (h : Nd2 n g i k F) (l : List Int) :
    (∀ x ∈ ((F k).tick k l).1, Nin A64 x) ∧ ((F k).tick k l).1.length ≤ 5000 ∧ All64 n (putF F k ((F k).tick k l).2.1) ∧
      ∃ (F' : Nat → Det) (l' : List Int), settleS n (Bnd.lessS 511 g) 5001 (putF F k ((F k).tick k l).2.1) ((F k).tick k l).1 ((F k).tick k l).2.2 = (true, F', l') ∧ Nd2 n g i (k + 1) F' := by
  have hdk := h.dn k hk hkg
  rw [if_neg (by omega), Nat.add_zero] at hdk
  obtain ⟨t1, t2, t3, t4⟩ := tick_dn hn h3 hg hk hkg (by omega) hdk (h.W k hk hkg) l
  generalize (F k).tick k l = T at *
  obtain ⟨T1, T2, T3⟩ := T
  dsimp only at t1 t2 t3 t4 ⊢
  have hτ : ∀ j, j < n → j ≠ g → Dn n g j (i + if j < k + 1 then 1 else 0) (putF F k T2 j) := fun j hj hjg => by
    by_cases e : j = k
    · subst e; rw [putF_same, if_pos (by omega)]; exact t1
    · rw [putF_other _ _ e]
      have e1 : (if j < k + 1 then 1 else 0 : Nat) = if j < k then 1 else 0 := by
        by_cases e' : j < k
        · rw [if_pos e', if_pos (by omega)]
        · rw [if_neg e', if_neg (by omega)]
      rw [e1]; exact h.dn j hj hjg
  have hsum := sum_wt (X := T1)
  obtain ⟨F', l', e1, e2, e3⟩ := settle_dn (up := Bnd.lessS 511 g) hn hg (fun j hj => up_gone g (by omega) j (by omega)) (τ := fun j => i + if j < k + 1 then 1 else 0) (fun j => by
    show i + (if j < k + 1 then 1 else 0) ≤ 1000
    split <;> omega) 5001 T1 (putF F k T2) T3 hτ (fun m hm => by
    obtain ⟨x, hx⟩ := t2 m hm
    exact ⟨k, x, hx⟩) (fun j hj hjg y hy => by
    by_cases e : j = k
    · subst e
      rw [putF_same] at hy
      exact (t4 y hy).imp id fun ⟨m, hm, h1⟩ => ⟨m, hm, .inl h1⟩
    · rw [putF_other _ _ e] at hy
      exact .inl (h.W j hj hjg y hy)) (by omega)
  have hgk : g ≠ k := fun e => hkg e.symm
  have hFg : F' g = F g := e3.trans (putF_other _ _ hgk)
  refine ⟨fun m hm => ?_, by omega, ⟨fun j hj => ?_, fun j hj => ?_⟩, F', l', e1, ⟨fun j hj hjg => (e2 j hj hjg).1, fun j hj hjg => (e2 j hj hjg).2, by rw [hFg]; exact h.ni, by rw [hFg]; exact h.Wg⟩⟩
  · obtain ⟨x, hx⟩ := t2 m hm
    exact nin64 hg hx.nin
  · by_cases e : j = g
    · subst e; rw [putF_other _ _ hgk]; exact h.ni
    · exact (hτ j hj e).st.to64 hg (Nat.zero_le 1)
  · by_cases e : j = g
    · subst e; rw [putF_other _ _ hgk, h.Wg]; exact Nat.zero_le _
    · have := (hτ j hj e).Wl
      refine Nat.le_trans this ?_
      split <;> omega
theorem know_no (k : Nat) : ∀ m, (knowS k m (Det.new k)).no = 0
  | 0 => rfl
  | m + 1 => (take_fr k (knowS k m (Det.new k)) ⟨m, 0, 0⟩ k []).2.2.1.trans (know_no k m)
theorem down_start (hn : n ≤ 64) (hg : g < n) : Nd2 n g 0 0 (beganS n) := by
  refine ⟨fun j hj hjg => ?_, fun j hj _ y hy => ?_, ?_, (began_cm hn hg).W⟩
  · have hc := began_cm hn hj
    have hs := know_s hn hj n (Nat.le_refl _)
    rw [if_neg (by omega)]
    have hl := len_oth hj hs.1 hs.2
    refine ⟨cm_st hc, ⟨by rw [hc.D]; exact Do.Di.nil, (fun y hy => by rw [hc.D] at hy; cases hy), (fun y hy => by rw [hc.D] at hy; cases hy), fun e => ?_⟩, know_no j n, (fun x hx => by rw [hc.E] at hx; cases hx), (fun x hx => by rw [hc.W] at hx; cases hx), .inr (.inr ⟨(hs.2 _).2 ⟨g, rfl, hg, fun e => hjg e.symm⟩, ?_⟩), fun y hy => (hs.2 y).1 hy, fun e => by omega, by rw [hc.W]; exact Nat.zero_le _⟩
    · rw [hc.f] at e
      unfold full at e
      rw [if_pos hg] at e
      cases e
    · show (knowS j n (Det.new j)).s.length + (0 + 0) + 1 ≤ n
      omega
  · rw [(began_cm hn hj).W] at hy; cases hy
  · exact (cm_st (w := g) (began_cm hn hg)).to64 hg (Nat.zero_le 1)
theorem down_end {F : Nat → Det} (hn : n ≤ 8) (hg : g < n) (hi : n + 11 ≤ i) (h : Nd2 n g i 0 F) : ∀ k, k < n → k ≠ g → ∀ j, j < n → Bnd.hasS (F k).live j = decide (j ≠ g) := fun k hk hkg j hj => by
  have hd := h.dn k hk hkg
  rw [if_neg (by omega)] at hd
  have hI := inv_st (by omega) hg hk hd.st
  unfold Bnd.hasS Det.live
  rw [Int.toNat_natCast, testBit_all hI (by omega)]
  have hnd : Bnd.nodeS (j : Int) = true := by unfold Bnd.nodeS; simp; omega
  rw [hnd, Bool.true_and]
  unfold liveAt
  by_cases e : j = g
  · subst e
    rw [hd.dd (by omega)]
    simp [ud, liveS]
  · rw [hd.st.al hj e]
    simp [ud, liveS, e]
end
end Go.Proofs.YtpoofjnfaijjjaaGreatDoor
