/-
  One of them is suspected: a tick, and what follows; who is pinged in which round. No program is known here.
-/
import Derived.Test.YtpoofjnfaijjjaaGreatDoorMRfx
namespace Go.Proofs.YtpoofjnfaijjjaaGreatDoor
open Go.RowKit Go.Proofs.YtpoofjnfaijjjaaGreatDoor.Ro
def Oth (n w : Nat) (x : Int) : Prop := ∃ m : Nat, x = m ∧ m < n ∧ m ≠ w
/-- The next one of the round: the first that is left, or the first of all of them, shuffled. -/
def NX (n w : Nat) (s : List Int) (x : Int) (s' : List Int) : Prop := s = x :: s' ∨ (s = [] ∧ (∀ y, y ∈ x :: s' ↔ Oth n w y) ∧ (x :: s').length + 1 = n)
section
variable {n w c k j : Nat} {d : Det}
theorem inv_st (hn : n ≤ 64) (hw : w < n) (hj : j < n) (h : St n w c j d) : Inv j d.f := by
  refine ⟨by omega, ?_, fun m u hu => ?_⟩
  · obtain ⟨i, hi, _⟩ := h.ni.m
    exact ⟨i, hi⟩
  · have ha := h.ni.f m u hu
    have hr := ha.rng hw
    exact ⟨ha.may hw hn, h.ni.n m u hu, by unfold InOk; omega⟩
theorem oth_mem (hn : n ≤ 64) (hw : w < n) (hj : j < n) (h : St n w c j d) : (∀ x ∈ othS j d.f, Oth n j x) ∧ ∀ m : Nat, m < n → m ≠ j → m ≠ w → (m : Int) ∈ othS j d.f := by
  have hI := inv_st hn hw hj h
  refine ⟨fun x hx => ?_, fun m hm hmj hmw => ?_⟩
  · have hne := oth_not j d.f x hx
    have hr := oth_nd hx
    unfold othS at hx
    rw [Bnd.mem_lst] at hx
    unfold Bnd.hasS at hx
    simp only [Bool.and_eq_true] at hx
    have h2 := hx.2
    rw [Bnd.testBit_lessS, testBit_all hI (by have := hr.2; omega : x.toNat < 64)] at h2
    have hl : liveAt d.f x.toNat = true := by
      cases e : liveAt d.f x.toNat
      · rw [e] at h2; cases h2
      · rfl
    unfold liveAt at hl
    simp only [Bool.and_eq_true] at hl
    obtain ⟨v, hv⟩ := Option.isSome_iff_exists.1 hl.1
    have h3 := (h.ni.f _ v hv).rng hw
    have h4 := h.ni.n _ v hv
    exact ⟨x.toNat, by have := hr.1; omega, by omega, by have := hr.1; omega⟩
  · unfold othS
    rw [Bnd.mem_lst]
    unfold Bnd.hasS
    rw [Bnd.testBit_lessS, Int.toNat_natCast, testBit_all hI (by omega : m < 64)]
    have hl : liveAt d.f m = true := by
      unfold liveAt
      rw [h.al hm hmw]
      rfl
    simp [hl, Bnd.nodeS]
    omega
theorem len_oth {s : List Int} (hw : w < n) (hs : s.Nodup) (hm : ∀ x, x ∈ s ↔ Oth n w x) : s.length + 1 = n := by
  have hc : ((List.range n).map fun (i : Nat) => (i : Int)).Nodup := by
    rw [List.nodup_iff_pairwise_ne, List.pairwise_map]
    exact List.nodup_range.imp fun h e => h (by omega)
  have h1 := nodup_sub ((w : Int) :: s) ((List.range n).map fun (i : Nat) => (i : Int)) (List.nodup_cons.2 ⟨fun h => by
    obtain ⟨m, e, _, h2⟩ := (hm _).1 h
    exact h2 (by omega), hs⟩) fun x hx => by
    rcases List.mem_cons.1 hx with rfl | hx
    · exact List.mem_map.2 ⟨w, List.mem_range.2 hw, rfl⟩
    · obtain ⟨m, e, h1, _⟩ := (hm _).1 hx
      exact List.mem_map.2 ⟨m, List.mem_range.2 h1, e.symm⟩
  have h2 := nodup_sub ((List.range n).map fun (i : Nat) => (i : Int)) ((w : Int) :: s) hc fun x hx => by
    obtain ⟨m, h1, rfl⟩ := List.mem_map.1 hx
    by_cases e : m = w
    · subst e; simp
    · exact List.mem_cons_of_mem _ ((hm _).2 ⟨m, rfl, List.mem_range.1 h1, e⟩)
  simp only [List.length_cons, List.length_map, List.length_range] at h1 h2
  omega
theorem nxt_rr {s o : List Int} (l : List Int) (hs : ∀ y ∈ s, y ∈ o) (ho : o ≠ []) : s = (Rn.nxtS s o l).1.1 :: (Rn.nxtS s o l).2.1 ∨ (s = [] ∧ ((Rn.nxtS s o l).1.1 :: (Rn.nxtS s o l).2.1).Perm o) := by
  unfold Rn.nxtS
  rw [if_neg ho]
  cases s with
  | nil =>
    right
    rw [List.dropWhile_nil, if_pos rfl]
    refine ⟨rfl, ?_⟩
    have hp := Rn.shufS_perm o l
    cases e : (Rn.shufS o l).1 with
    | nil =>
      rw [e] at hp
      exact absurd hp.symm.eq_nil ho
    | cons a r =>
      rw [e] at hp
      exact hp
  | cons a r =>
    left
    have : (a :: r).dropWhile (fun x => !decide (x ∈ o)) = a :: r := by
      rw [List.dropWhile_cons]
      have : a ∈ o := hs a (by simp)
      simp [this]
    rw [this, if_neg (by simp)]
    rfl
theorem tick_ste (hn : n ≤ 64) (h3 : 3 ≤ n) (hw : w < n) (hk : k < n) (hc : c ≤ 1) (h : St n w c k d) (hE : d.E = []) (hW : d.W = []) (l : List Int) :
    ∃ (c' x : Nat) (q a : Int) (U : List Upd), (d.tick k l).1 = [⟨1, k, x, q, 0, U⟩] ∧ x < n ∧ x ≠ k ∧ c ≤ c' ∧ c' ≤ 1 ∧ (k ≠ w → c' = c) ∧ St n w c' k (d.tick k l).2.1 ∧ (k ≠ w → Bt w d.f → Bt w (d.tick k l).2.1.f) ∧ (k ≠ w → Sb w d.f → Sb w (d.tick k l).2.1.f) ∧
      (d.tick k l).2.1.E = [] ∧ (d.tick k l).2.1.W = [⟨x, q, a, false⟩] ∧ Nin (Aw n w c') ⟨1, k, x, q, 0, U⟩ ∧ (k = w → c' = 1 → (⟨w, 1, 0⟩ : Upd) ∈ U) ∧ (k = w → (∀ y ∈ d.s, Oth n w y) → NX n w d.s x (d.tick k l).2.1.s) := by
  obtain ⟨f, s, Q, D, W, E, la, no, le⟩ := d
  have hle := h.le
  dsimp only at hE hW hle
  subst hE hW hle
  obtain ⟨y, HY⟩ : ∃ y, u64w (no + 1) = y := ⟨_, rfl⟩
  have h2 : St n w c k (⟨f, s, Q, Do.stayD D y, [], [], la, y, false⟩ : Det) :=
    ⟨⟨h.ni.m, h.ni.f, h.ni.n, h.ni.Q, fun x hx => h.ni.D x (List.mem_filter.1 hx).1, (fun x hx => by cases hx), (fun x hx => by cases hx)⟩, h.kn, rfl⟩
  obtain ⟨c', s3⟩ := dead_ste hn hw hk ((Do.overD D y).map Do.deadOf) hc h2 (fun u hu => by
    obtain ⟨x, hx, rfl⟩ := List.mem_map.1 hu
    exact h.ni.D x (List.mem_filter.1 hx).1) l
  have e : (⟨f, s, Q, D, [], [], la, no, false⟩ : Det).tick k l = ((⟨f, s, Q, Do.stayD D (u64w (no + 1)), [], [], la, u64w (no + 1), false⟩ : Det).dead k ((Do.overD D (u64w (no + 1))).map Do.deadOf) l).1.pingNext k ((⟨f, s, Q, Do.stayD D (u64w (no + 1)), [], [], la, u64w (no + 1), false⟩ : Det).dead k ((Do.overD D (u64w (no + 1))).map Do.deadOf) l).2 := rfl
  rw [HY] at e
  rw [e]
  clear e
  generalize (⟨f, s, Q, Do.stayD D y, [], [], la, y, false⟩ : Det).dead k ((Do.overD D y).map Do.deadOf) l = X at *
  obtain ⟨d3, l3⟩ := X
  dsimp only at s3 ⊢
  have ho := oth_mem hn hw hk s3.st
  have hne : othS k d3.f ≠ [] := fun e => by
    obtain ⟨m, hm, hmk, hmw⟩ : ∃ m : Nat, m < n ∧ m ≠ k ∧ m ≠ w := by
      by_cases h0 : k ≠ 0 ∧ w ≠ 0
      · exact ⟨0, by omega, by omega, by omega⟩
      · by_cases h1 : k ≠ 1 ∧ w ≠ 1
        · exact ⟨1, by omega, by omega, by omega⟩
        · exact ⟨2, by omega, by omega, by omega⟩
    have := ho.2 m hm hmk hmw
    rw [e] at this
    cases this
  have hnx := nxt_some (s := d3.s) (o := othS k d3.f) l3 hne
  obtain ⟨x, hx, hxn, hxk⟩ := ho.1 _ (nxt_in (s := d3.s) l3 hnx)
  have hpn := Ni.pingNext s3.st.ni l3
  have hrr := fun hs => nxt_rr (s := d3.s) (o := othS k d3.f) l3 hs hne
  have hNX : k = w → (∀ y ∈ s, Oth n w y) → NX n w s x (Rn.nxtS d3.s (othS k d3.f) l3).2.1 := fun e hs => by
    subst e
    have hss : d3.s = s := s3.s rfl
    rcases hrr (fun y hy => by
      rw [hss] at hy
      obtain ⟨m, rfl, h1, h2⟩ := hs y hy
      exact ho.2 m h1 h2 h2) with h' | ⟨h', hp⟩
    · left
      rw [← hss, ← hx]
      exact h'
    · right
      rw [hx] at hp
      have hmem : ∀ y, y ∈ othS k d3.f ↔ Oth n k y := fun y => ⟨ho.1 y, fun ⟨m, e, h1, h2⟩ => by rw [e]; exact ho.2 m h1 h2 h2⟩
      refine ⟨hss ▸ h', fun y => (hp.mem_iff).trans (hmem y), ?_⟩
      rw [hp.length_eq]
      exact len_oth hw (oth_nodup _ _) hmem
  have hmine : k = w → c' = 1 → ∀ z, (⟨w, 1, 0⟩ : Upd) ∈ ({ d3 with s := (Rn.nxtS d3.s (othS k d3.f) l3).2.1 } : Det).news k z := fun e e1 z => by
    subst e
    obtain ⟨i, hi, hI⟩ := s3.st.ni.m
    unfold Iw at hI
    rw [if_pos rfl, e1] at hI
    have hI : i = 1 := hI
    subst hI
    unfold Det.news Det.pre Det.mine
    rw [hi]
    split <;> simp [ud]
  unfold Det.pingNext at hpn ⊢
  dsimp only at hpn ⊢
  rw [if_neg (by rw [hnx]; decide)] at hpn ⊢
  rw [hx] at hpn ⊢
  refine ⟨c', x, u64w (d3.la + 1), d3.no, ({ d3 with s := (Rn.nxtS d3.s (othS k d3.f) l3).2.1 } : Det).news k x, rfl, hxn, hxk, s3.le, s3.c1, s3.same, ⟨hpn.2, s3.st.kn, s3.st.le⟩, s3.B, s3.S, s3.E, ?_, hpn.1 _ (by simp; rfl), fun e e1 => hmine e e1 _, hNX⟩
  show d3.W ++ _ = _
  rw [s3.W]
  rfl
/-- A note is heard. -/
theorem hear_ste (hn : n ≤ 64) (hw : w < n) (hj : j < n) (hc : c ≤ 1) (h : St n w c j d) {K q o : Int} {x : Nat} {U : List Upd} (hx : x < n) (hxj : x ≠ j) (ho : Nd o) (hK : 1 ≤ K ∧ K ≤ 3) (hU : ∀ u ∈ U, Aw n w c u) (l : List Int) :
    ∃ (c' : Nat) (d1 : Det) (l' : List Int), Ste n w j c d c' d1 ∧ d.hear j ⟨K, x, j, q, o, U⟩ l = (((d1.answer j ⟨K, x, j, q, o, U⟩).1, 0), (d1.answer j ⟨K, x, j, q, o, U⟩).2, l') ∧ (j = w → (∃ u ∈ U, u.n = w ∧ u.s ≠ 0) → c' = 1) ∧ (j ≠ w → (⟨w, 1, 0⟩ : Upd) ∈ U → Bt w d1.f) := by
  have hflt : d.fault j ⟨K, x, j, q, o, U⟩ = 0 := by
    unfold Det.fault
    rw [if_neg (by rw [h.le]; decide)]
    have h1 : nodeB (x : Int) = true := by unfold nodeB; simp; omega
    have h2 : nodeB o = true := by unfold nodeB; simp; exact ho
    rw [if_neg (by simp [h1, h2]; omega), if_neg (show ¬ (K < 1 ∨ 3 < K) by omega)]
  have hfi : d.first j x l = (d, l) := by
    unfold Det.first
    rw [if_pos]
    unfold getS
    rw [if_pos (by omega), Int.toNat_natCast]
    exact h.kn x hx
  obtain ⟨c', s1, z1, a1, b1⟩ := takes_ste hn hw hj x U hc h hU l
  refine ⟨c', _, (d.takes j x U l).2.2, s1, ?_, a1, b1⟩
  unfold Det.hear
  rw [if_neg (by rw [hflt]; decide)]
  dsimp only
  rw [hfi]
  dsimp only
  rw [z1, if_neg (by decide)]
/-- All of them, between their ticks. -/
structure Net (n w c : Nat) (F : Nat → Det) : Prop where
  st : ∀ j, j < n → St n w c j (F j)
  E : ∀ j, j < n → (F j).E = []
  W : ∀ j, j < n → (F j).W = []
theorem St.to64 {c : Nat} (h : St n w c j d) (hw : w < n) (hc : c ≤ 1) : Ni A64 U64 j d := by
  have haf : ∀ u, Aw n w c u → A64 u := fun u hu => by have := hu.rng hw; unfold A64; exact ⟨by omega, by omega⟩
  refine ⟨?_, fun m u hu => haf u (h.ni.f m u hu), h.ni.n, fun y hy => haf _ (h.ni.Q y hy), fun y hy => haf _ (h.ni.D y hy), h.ni.E, h.ni.W⟩
  obtain ⟨i, hi, e⟩ := h.ni.m
  unfold Iw at e
  refine ⟨i, hi, ?_⟩
  rw [e]
  split
  · exact ⟨by omega, by omega⟩
  · exact ⟨by decide, by decide⟩
theorem ref_step {F : Nat → Det} (hn : n ≤ 8) (h3 : 3 ≤ n) (hw : w < n) (hk : k < n) (hc : c ≤ 1) (h : Net n w c F) (l : List Int) :
    (∀ x ∈ ((F k).tick k l).1, Nin A64 x) ∧ ((F k).tick k l).1.length ≤ 1 ∧ All64 n (putF F k ((F k).tick k l).2.1) ∧
      ∃ (c' : Nat) (F' : Nat → Det) (l' : List Int), settleS n 255 5001 (putF F k ((F k).tick k l).2.1) ((F k).tick k l).1 ((F k).tick k l).2.2 = (true, F', l') ∧ Net n w c' F' ∧ c ≤ c' ∧ c' ≤ 1 ∧
        (∀ j, j < n → j ≠ w → Bt w (F j).f → Bt w (F' j).f) ∧ (∀ j, j < n → j ≠ w → Sb w (F j).f → Sb w (F' j).f) ∧ (k ≠ w → (F' w).s = (F w).s) ∧
        (k = w → (∀ y ∈ (F w).s, Oth n w y) → ∃ x : Nat, x < n ∧ x ≠ w ∧ NX n w (F w).s x (F' w).s ∧ (Sb w (F x).f → c' = 1) ∧ (c = 1 → Bt w (F' x).f)) := by
  obtain ⟨c1, x, q, a, U, e1, hx, hxk, hc1, hc1', hsame, hT, hTB, hTS, hTE, hTW, hN, hmine, hNX⟩ := tick_ste (by omega) h3 hw hk hc (h.st k hk) (h.E k hk) (h.W k hk) l
  generalize (F k).tick k l = T at *
  obtain ⟨T1, T2, T3⟩ := T
  dsimp only at e1 hT hTB hTS hTE hTW hNX ⊢
  subst e1
  have hup : ∀ j : Nat, j < n → Bnd.hasS 255 j = true := fun j hj => by
    have : j = 0 ∨ j = 1 ∨ j = 2 ∨ j = 3 ∨ j = 4 ∨ j = 5 ∨ j = 6 ∨ j = 7 := by omega
    rcases this with e | e | e | e | e | e | e | e <;> subst e <;> rfl
  have hFx : putF F k T2 x = F x := putF_other _ _ hxk
  have hSx : St n w c1 x (F x) := by
    by_cases e : k = w
    · exact (h.st x hx).up (by omega) hc1 hc1'
    · rw [hsame e]; exact h.st x hx
  obtain ⟨c2, d1, l1, s1, hh1, a1, b1⟩ := hear_ste (d := F x) (K := 1) (q := q) (o := 0) (by omega) hw hx hc1' hSx hk (fun e => hxk e.symm) ⟨by decide, by decide⟩ ⟨by decide, by decide⟩ hN.u T3
  have ha1 : d1.answer x ⟨1, k, x, q, 0, U⟩ = ([⟨2, x, k, q, x, d1.news x k⟩], d1.told x k) := rfl
  rw [ha1] at hh1
  obtain ⟨V, HV⟩ : ∃ V, d1.news x k = V := ⟨_, rfl⟩
  have hVA : ∀ u ∈ V, Aw n w c2 u := by rw [← HV]; exact (news_A s1.st.ni k).2
  rw [HV] at hh1
  have hSk : St n w c2 k T2 := by
    by_cases e : k = w
    · rw [s1.same (by omega)]; exact hT
    · exact hT.up e s1.le s1.c1
  obtain ⟨c3, d2, l2, s2, hh2, a2, _⟩ := hear_ste (d := T2) (K := 2) (q := q) (o := x) (by omega) hw hk s1.c1 hSk hx hxk ⟨by omega, by omega⟩ ⟨by decide, by decide⟩ hVA l1
  rw [ack_cm (s2.E.trans hTE) (s2.W.trans hTW)] at hh2
  have hFk : putF (putF F k T2) x (d1.told x k) k = T2 := by rw [putF_other _ _ (fun e => hxk e.symm), putF_same]
  have hset : settleS n 255 5001 (putF F k T2) [⟨1, k, x, q, 0, U⟩] T3 = (true, putF (putF (putF F k T2) x (d1.told x k)) k { d2 with W := [] }, l2) := by
    have k1 : skipN n 255 ⟨1, k, x, q, 0, U⟩ = false := by
      unfold skipN
      dsimp only
      rw [hup x hx, hup k hk, decide_eq_false (by omega)]
      rfl
    have k2 : skipN n 255 ⟨2, x, k, q, x, V⟩ = false := by
      unfold skipN
      dsimp only
      rw [hup x hx, hup k hk, decide_eq_false (by omega)]
      rfl
    show settleS n 255 (5000 + 1) _ _ _ = _
    rw [settleS, k1, if_neg (by decide)]
    dsimp only
    rw [Int.toNat_natCast, hFx, hh1, if_pos rfl]
    dsimp only
    show settleS n 255 (4999 + 1) _ _ _ = _
    rw [List.nil_append, settleS, k2, if_neg (by decide)]
    dsimp only
    rw [Int.toNat_natCast, hFk, hh2, if_pos rfl]
    rfl
  have hc2 := s1.le
  have hc3 := s2.le
  have Fk : putF (putF (putF F k T2) x (d1.told x k)) k { d2 with W := [] } k = { d2 with W := [] } := putF_same _ _ _
  have Fx : putF (putF (putF F k T2) x (d1.told x k)) k { d2 with W := [] } x = d1.told x k := by rw [putF_other _ _ hxk, putF_same]
  have Fo : ∀ j, j ≠ k → j ≠ x → putF (putF (putF F k T2) x (d1.told x k)) k { d2 with W := [] } j = F j := fun j e1 e2 => by rw [putF_other _ _ e1, putF_other _ _ e2, putF_other _ _ e1]
  generalize putF (putF (putF F k T2) x (d1.told x k)) k { d2 with W := [] } = F' at *
  refine ⟨fun y hy => ?_, Nat.le_refl _, ⟨fun j hj => ?_, fun j hj => ?_⟩, c3, F', l2, hset, ⟨fun j hj => ?_, fun j hj => ?_, fun j hj => ?_⟩, by omega, s2.c1, fun j hj hjw hb => ?_, fun j hj hjw hb => ?_, fun e => ?_, fun e hs => ?_⟩
  · obtain rfl := List.mem_singleton.1 hy
    exact ⟨hN.q, hN.len, fun v hv => by have := (hN.u v hv).rng hw; unfold A64; exact ⟨by omega, by omega⟩⟩
  · by_cases e : j = k
    · subst e; rw [putF_same]; exact hT.to64 hw hc1'
    · rw [putF_other _ _ e]; exact (h.st j hj).to64 hw hc
  · by_cases e : j = k
    · subst e; rw [putF_same, hTW]; simp
    · rw [putF_other _ _ e, h.W j hj]; simp
  · by_cases ek : j = k
    · subst ek
      rw [Fk]
      exact ⟨⟨s2.st.ni.m, s2.st.ni.f, s2.st.ni.n, s2.st.ni.Q, s2.st.ni.D, s2.st.ni.E, fun y hy => by cases hy⟩, s2.st.kn, s2.st.le⟩
    · by_cases ex : j = x
      · subst ex
        rw [Fx]
        have ht := (told_ste s1.st s1.c1 (k : Int)).st
        by_cases e : j = w
        · rw [s2.same (by omega)]; exact ht
        · exact ht.up e hc3 s2.c1
      · rw [Fo j ek ex]
        by_cases e : j = w
        · rw [s2.same (by omega), s1.same (by omega), hsame (by omega)]; exact h.st j hj
        · exact (h.st j hj).up e (by omega) s2.c1
  · by_cases ek : j = k
    · subst ek; rw [Fk]; exact s2.E.trans hTE
    · by_cases ex : j = x
      · subst ex; rw [Fx]; exact s1.E.trans (h.E j hj)
      · rw [Fo j ek ex]; exact h.E j hj
  · by_cases ek : j = k
    · subst ek; rw [Fk]
    · by_cases ex : j = x
      · subst ex; rw [Fx]; exact s1.W.trans (h.W j hj)
      · rw [Fo j ek ex]; exact h.W j hj
  · by_cases ek : j = k
    · subst ek; rw [Fk]; exact s2.B hjw (hTB hjw hb)
    · by_cases ex : j = x
      · subst ex; rw [Fx]; exact s1.B hjw hb
      · rw [Fo j ek ex]; exact hb
  · by_cases ek : j = k
    · subst ek; rw [Fk]; exact s2.S hjw (hTS hjw hb)
    · by_cases ex : j = x
      · subst ex; rw [Fx]; exact s1.S hjw hb
      · rw [Fo j ek ex]; exact hb
  · by_cases ex : w = x
    · subst ex; rw [Fx]; exact s1.s rfl
    · rw [Fo w (by omega) ex]
  · subst e
    have hxw : x ≠ k := hxk
    refine ⟨x, hx, hxw, ?_, fun hb => ?_, fun e1 => ?_⟩
    · rw [Fk]
      have := hNX rfl hs
      rw [← s2.s rfl] at this
      exact this
    · have hb1 := s1.S hxw hb
      by_cases e2 : c2 = 1
      · have := s2.c1; omega
      · have hc0 : c2 = 0 := by have := s1.c1; omega
        obtain ⟨v, hv, hvs⟩ := hb1
        have hva := s1.st.ni.f _ v hv
        have hvn := s1.st.ni.n _ v hv
        have hv13 : v.s = 1 ∨ v.s = 3 := by
          rcases hva with h' | ⟨_, _, h3⟩ | ⟨h0, _⟩
          · have := h'.i; have := h'.s; omega
          · exact h3
          · omega
        refine a2 rfl ⟨v, ?_, hvn, by omega⟩
        rw [← HV]
        have hg : getS d1.f (k : Int) = some v := by
          unfold getS
          rw [if_pos (by omega), Int.toNat_natCast]
          exact hv
        unfold Det.news Det.pre
        rw [hg, if_pos ⟨rfl, hv13⟩]
        simp [ud]
    · rw [Fx]
      exact b1 hxw (hmine rfl (by omega))
/-- How far the round of the suspected one has come, behind t of its ticks. -/
structure Prog (n w b t c : Nat) (F : Nat → Det) : Prop where
  S : Sb w (F b).f
  sub : ∀ y ∈ (F w).s, Oth n w y
  way : (t + (F w).s.length + 1 = n ∧ (c = 1 ∨ (b : Int) ∈ (F w).s)) ∨ (c = 1 ∧ t + (F w).s.length + 2 = 2 * n ∧ ∀ x, x < n → x ≠ w → Bt w (F x).f ∨ (x : Int) ∈ (F w).s) ∨ (c = 1 ∧ ∀ x, x < n → x ≠ w → Bt w (F x).f)
theorem prog_other {b t c' : Nat} {F F' : Nat → Det} (h : Prog n w b t c F) (hb : b < n) (hbw : b ≠ w) (hc : c ≤ c') (hc1 : c' ≤ 1) (hB : ∀ j, j < n → j ≠ w → Bt w (F j).f → Bt w (F' j).f) (hS : ∀ j, j < n → j ≠ w → Sb w (F j).f → Sb w (F' j).f) (hs : (F' w).s = (F w).s) : Prog n w b t c' F' := by
  refine ⟨hS b hb hbw h.S, by rw [hs]; exact h.sub, ?_⟩
  rw [hs]
  rcases h.way with ⟨h1, h2⟩ | ⟨h1, h2, h3⟩ | ⟨h1, h2⟩
  · exact .inl ⟨h1, h2.imp (fun e => by omega) id⟩
  · exact .inr (.inl ⟨by omega, h2, fun x hx hxw => (h3 x hx hxw).imp (hB x hx hxw) id⟩)
  · exact .inr (.inr ⟨by omega, fun x hx hxw => hB x hx hxw (h2 x hx hxw)⟩)
theorem prog_own {b t c' x : Nat} {F F' : Nat → Det} (h : Prog n w b t c F) (hb : b < n) (hbw : b ≠ w) (hc : c ≤ c') (hc1 : c' ≤ 1) (hB : ∀ j, j < n → j ≠ w → Bt w (F j).f → Bt w (F' j).f) (hS : ∀ j, j < n → j ≠ w → Sb w (F j).f → Sb w (F' j).f)
    (hNX : NX n w (F w).s x (F' w).s) (h1 : Sb w (F x).f → c' = 1) (h2 : c = 1 → Bt w (F' x).f) : Prog n w b (t + 1) c' F' := by
  have hSb := hS b hb hbw h.S
  rcases hNX with e | ⟨e, hmem, hlen⟩
  · have hsub : ∀ y ∈ (F' w).s, Oth n w y := fun y hy => h.sub y (by rw [e]; exact List.mem_cons_of_mem _ hy)
    refine ⟨hSb, hsub, ?_⟩
    rcases h.way with ⟨p1, p2⟩ | ⟨p1, p2, p3⟩ | ⟨p1, p2⟩
    · rw [e, List.length_cons] at p1
      refine .inl ⟨by omega, ?_⟩
      rcases p2 with p2 | p2
      · exact .inl (by omega)
      · rw [e] at p2
        rcases List.mem_cons.1 p2 with p2 | p2
        · have : b = x := by omega
          subst this
          exact .inl (h1 h.S)
        · exact .inr p2
    · rw [e, List.length_cons] at p2
      refine .inr (.inl ⟨by omega, by omega, fun y hy hyw => ?_⟩)
      rcases p3 y hy hyw with p | p
      · exact .inl (hB y hy hyw p)
      · rw [e] at p
        rcases List.mem_cons.1 p with p | p
        · have : y = x := by omega
          subst this
          exact .inl (h2 p1)
        · exact .inr p
    · exact .inr (.inr ⟨by omega, fun y hy hyw => hB y hy hyw (p2 y hy hyw)⟩)
  · have hsub : ∀ y ∈ (F' w).s, Oth n w y := fun y hy => (hmem y).1 (List.mem_cons_of_mem _ hy)
    rw [List.length_cons] at hlen
    refine ⟨hSb, hsub, ?_⟩
    have key : c = 1 → ∀ y, y < n → y ≠ w → Bt w (F' y).f ∨ (y : Int) ∈ (F' w).s := fun p1 y hy hyw => by
      rcases List.mem_cons.1 ((hmem y).2 ⟨y, rfl, hy, hyw⟩) with p | p
      · have : y = x := by omega
        subst this
        exact .inl (h2 p1)
      · exact .inr p
    rcases h.way with ⟨p1, p2⟩ | ⟨p1, p2, p3⟩ | ⟨p1, p2⟩
    · rw [e] at p1 p2
      have pc : c = 1 := p2.elim id fun h => by cases h
      rw [List.length_nil] at p1
      exact .inr (.inl ⟨by omega, by omega, key pc⟩)
    · rw [e] at p3
      exact .inr (.inr ⟨by omega, fun y hy hyw => hB y hy hyw ((p3 y hy hyw).elim id fun h => by cases h)⟩)
    · exact .inr (.inr ⟨by omega, fun y hy hyw => hB y hy hyw (p2 y hy hyw)⟩)
end
end Go.Proofs.YtpoofjnfaijjjaaGreatDoor
