/-
  One of them is suspected: how it begins, and how it ends. No program is known here.
-/
import Derived.Test.YtpoofjnfaijjjaaGreatDoorMRfy
import Derived.Test.YtpoofjnfaijjjaaGreatDoorMTkd
namespace Go.Proofs.YtpoofjnfaijjjaaGreatDoor
open Go.RowKit Go.Proofs.YtpoofjnfaijjjaaGreatDoor.Ro
section
variable {n w k : Nat}
theorem inv_fullK {m : Nat} (hn : n ≤ 64) (hk : k < n) (hm : m ≤ n) : Inv k (fullK m k) := by
  refine ⟨by omega, ⟨0, ?_⟩, fun j u h => ?_⟩
  · unfold fullK
    rw [if_pos (.inr rfl)]
  · unfold fullK at h
    by_cases e : j < m ∨ j = k
    · rw [if_pos e] at h
      obtain rfl := Option.some.inj h
      exact ⟨may_alive (by omega), rfl, by unfold InOk; dsimp only; omega⟩
    · rw [if_neg e] at h; cases h
theorem know_s (hn : n ≤ 64) (hk : k < n) : ∀ m, m ≤ n → (knowS k m (Det.new k)).s.Nodup ∧ ∀ x, x ∈ (knowS k m (Det.new k)).s ↔ ∃ j : Nat, x = j ∧ j < m ∧ j ≠ k
  | 0, _ => ⟨List.nodup_nil, fun x => ⟨(fun h => by cases h), (fun ⟨j, _, h, _⟩ => by cases h)⟩⟩
  | m + 1, h => by
    obtain ⟨h1, h2⟩ := know_s hn hk m (by omega)
    obtain ⟨_, hf, _⟩ := know_step hn hk m (by omega)
    have hd : knowS k (m + 1) (Det.new k) = ((knowS k m (Det.new k)).take k ⟨m, 0, 0⟩ k []).2.1 := rfl
    rw [hd]
    generalize knowS k m (Det.new k) = d at *
    by_cases e : m = k
    · have hs : (d.take k ⟨m, 0, 0⟩ k []).2.1.s = d.s := by
        have hno : (hearS k d.f ⟨m, 0, 0⟩).1.1 = false := by
          unfold hearS
          rw [if_pos (may_alive (by omega)), if_pos (by simp [e])]
        unfold Det.take
        split
        · rfl
        · rw [if_neg (by rw [hno]; decide)]
          split
          · rfl
          · split <;> rfl
      rw [hs]
      refine ⟨h1, fun x => (h2 x).trans ⟨fun ⟨j, a, b, c⟩ => ⟨j, a, by omega, c⟩, fun ⟨j, a, b, c⟩ => ⟨j, a, by omega, c⟩⟩⟩
    · have hyes : hearS k d.f ⟨m, 0, 0⟩ = ((true, 0), d.f.set m ⟨m, 0, 0⟩) := by
        have hfm : d.f (m : Int).toNat = none := by
          rw [hf, Int.toNat_natCast]
          unfold fullK
          rw [if_neg (by omega)]
        unfold hearS
        rw [if_pos (may_alive (by omega)), if_neg (by simp; omega), if_neg (by show ¬ ((d.f (m : Int).toNat).isSome && !newerU ⟨m, 0, 0⟩ (ud (d.f (m : Int).toNat))) = true; rw [hfm]; simp)]
        rfl
      have hwas : Bnd.hasS d.live m = false := by
        unfold Det.live
        rw [hf]
        unfold Bnd.hasS
        rw [Int.toNat_natCast, testBit_all (inv_fullK hn hk (by omega)) (by omega)]
        have : liveAt (fullK m k) m = false := by
          unfold liveAt fullK
          rw [if_neg (by omega)]
          rfl
        rw [this, Bool.and_false]
      have hs : (d.take k ⟨m, 0, 0⟩ k []).2.1.s = (Rn.joinS d.s m []).1 := by
        unfold Det.take
        rw [hyes]
        dsimp only
        rw [if_neg (by decide), if_pos rfl]
        unfold Det.learn
        dsimp only
        rw [if_neg (by decide), if_pos ⟨rfl, hwas⟩]
      have hnot : (m : Int) ∉ d.s := fun hm => by
        obtain ⟨j, a, b, _⟩ := (h2 _).1 hm
        omega
      have hp := join_perm [] hnot
      rw [hs]
      refine ⟨hp.nodup_iff.2 (List.nodup_cons.2 ⟨hnot, h1⟩), fun x => hp.mem_iff.trans ⟨fun hx => ?_, fun ⟨j, a, b, c⟩ => ?_⟩⟩
      · rcases List.mem_cons.1 hx with rfl | hx
        · exact ⟨m, rfl, by omega, e⟩
        · obtain ⟨j, a, b, c⟩ := (h2 x).1 hx
          exact ⟨j, a, by omega, c⟩
      · by_cases ej : j = m
        · rw [a, ej]; simp
        · exact List.mem_cons_of_mem _ ((h2 x).2 ⟨j, a, by omega, c⟩)
theorem cm_st {d : Det} {j : Nat} (h : Cm n j d) : St n w 0 j d :=
  ⟨⟨by
    obtain ⟨i, hi, e⟩ := h.ni.m
    refine ⟨i, hi, ?_⟩
    unfold Iw
    rw [e]
    split <;> rfl, fun m v hv => .inl (h.ni.f m v hv), h.ni.n, fun x hx => .inl (h.ni.Q x hx), (fun x hx => by rw [h.D] at hx; cases hx), h.ni.E, h.ni.W⟩, fun m hm => by
    rw [h.f]
    unfold full
    rw [if_pos hm]
    rfl, h.le⟩
/-- The beginning: one of them is told that another one is suspected. -/
theorem ref_start {b : Nat} (hn : n ≤ 64) (hw : w < n) (hb : b < n) (hbw : b ≠ w) (l : List Int) :
    ((beganS n b).take b ⟨w, 0, 1⟩ b l).1 = 0 ∧ Net n w 0 (putF (beganS n) b ((beganS n b).take b ⟨w, 0, 1⟩ b l).2.1) ∧ Prog n w b 0 0 (putF (beganS n) b ((beganS n b).take b ⟨w, 0, 1⟩ b l).2.1) := by
  have hcb := began_cm hn hb
  have hu : Aw n w 0 ⟨w, 0, 1⟩ := .inr (.inl ⟨rfl, rfl, .inl rfl⟩)
  obtain ⟨c', s1, z1, _⟩ := take_ste hn hw hb (Nat.zero_le _) (cm_st (w := w) hcb) hu b l
  have hc' := s1.same hbw
  subst hc'
  refine ⟨z1, ⟨fun j hj => ?_, fun j hj => ?_, fun j hj => ?_⟩, ⟨?_, ?_, .inl ?_⟩⟩
  · by_cases e : j = b
    · subst e; rw [putF_same]; exact s1.st
    · rw [putF_other _ _ e]; exact cm_st (began_cm hn hj)
  · by_cases e : j = b
    · subst e; rw [putF_same]; exact s1.E.trans hcb.E
    · rw [putF_other _ _ e]; exact (began_cm hn hj).E
  · by_cases e : j = b
    · subst e; rw [putF_same]; exact s1.W.trans hcb.W
    · rw [putF_other _ _ e]; exact (began_cm hn hj).W
  · rw [putF_same]
    refine ⟨⟨w, 0, 1⟩, ?_, .inl (show (1 : Int) ≠ 0 by decide)⟩
    rw [(take_fr b (beganS n b) ⟨w, 0, 1⟩ b l).2.2.2.2.2, hcb.f]
    have hfw : full n (w : Int).toNat = some ⟨w, 0, 0⟩ := by
      unfold full
      rw [Int.toNat_natCast, if_pos hw]
    unfold hearS
    rw [if_pos (hu.may hw hn), if_neg (by simp; omega), if_neg (by show ¬ ((full n (w : Int).toNat).isSome && !newerU ⟨w, 0, 1⟩ (ud (full n (w : Int).toNat))) = true; rw [hfw]; simp [ud, newerU, newerS])]
    show (full n).set (w : Int).toNat ⟨w, 0, 1⟩ w = _
    rw [Int.toNat_natCast]
    exact Tab.set_same _ _ _
  · rw [putF_other _ _ (fun e => hbw e.symm)]
    intro y hy
    obtain ⟨j, a, b', c⟩ := ((know_s hn hw n (Nat.le_refl _)).2 y).1 hy
    exact ⟨j, a, b', c⟩
  · rw [putF_other _ _ (fun e => hbw e.symm)]
    have hs := know_s hn hw n (Nat.le_refl _)
    refine ⟨?_, .inr ((hs.2 _).2 ⟨b, rfl, hb, hbw⟩)⟩
    have := len_oth hw hs.1 hs.2
    show 0 + (knowS w n (Det.new w)).s.length + 1 = n
    omega
/-- The end. -/
def full1 (n w : Nat) : Tab := fun m => if m < n then some ⟨m, if m = w then 1 else 0, 0⟩ else none
theorem ref_end {b t c : Nat} {F : Nat → Det} (hn : n ≤ 8) (hw : w < n) (ht : 2 * n ≤ t) (hN : Net n w c F) (h : Prog n w b t c F) : ∀ j, j < n → (F j).f = full1 n w := fun j hj => by
  have hst := hN.st j hj
  obtain ⟨hc, hB⟩ : c = 1 ∧ ∀ x, x < n → x ≠ w → Bt w (F x).f := by
    rcases h.way with ⟨p1, _⟩ | ⟨_, p2, _⟩ | p
    · omega
    · omega
    · exact p
  funext m
  unfold full1
  by_cases hm : m < n
  · rw [if_pos hm]
    by_cases e : m = w
    · rw [if_pos e]
      subst e
      by_cases ej : j = m
      · subst ej
        obtain ⟨i, hi, hI⟩ := hst.ni.m
        unfold Iw at hI
        rw [if_pos rfl, hc] at hI
        have hI : i = 1 := hI
        subst hI
        exact hi
      · exact hB j hj ej
    · rw [if_neg e]
      exact hst.al hm e
  · rw [if_neg hm]
    cases hv : (F j).f m with
    | none => rfl
    | some v =>
      have h1 := (hst.ni.f m v hv).rng hw
      have h2 := hst.ni.n m v hv
      omega
theorem full1_all : ∀ n : Nat, n < 8 → ∀ w : Nat, w < n → (allS (full1 n w)).length = n ∧ Bnd.manyS (bandS (allS (full1 n w))) = n ∧ (allS (full1 n w)).all (fun u => decide (u.s = 0)) = true := by decide +kernel
end
end Go.Proofs.YtpoofjnfaijjjaaGreatDoor
