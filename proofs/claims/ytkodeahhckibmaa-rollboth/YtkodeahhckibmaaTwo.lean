/-
  Two rolls side by side.
-/
import Derived.Test.YtkodeahhckibmaaTwi
namespace Go.Proofs.Ytkodeahhckibmaa
open Go.RowKit

/-- Two rolls, both made behind w0. -/
structure Two (w0 : World) (p q k o : Nat) (f g : Tab) (w : World) : Prop where
  one : Rl p k f w
  two : Rl q o g w
  ne : p ≠ q
  lp : w0.heap.size ≤ p
  lq : w0.heap.size ≤ q
  below : Below w0.heap.size w0 w
section
variable {w0 : World} {p q k o : Nat} {f g : Tab} {w w' : World}
theorem Two.later (h : Two w0 p q k o f g w) (b : Below w.heap.size w w') : Two w0 p q k o f g w' := ⟨h.one.below b, h.two.below b, h.ne, h.lp, h.lq, h.below.trans (b.mono h.below.size)⟩
theorem Two.first (h : Two w0 p q k o f g w) {f' : Tab} (h1 : Rl p k f' w') (b : But w.heap.size p w w') : Two w0 p q k o f' g w' :=
  ⟨h1, h.two.keep (b.block q h.two.lt (Ne.symm h.ne)), h.ne, h.lp, h.lq, h.below.trans ((b.mono h.below.size).to h.lp)⟩
theorem Two.second (h : Two w0 p q k o f g w) {g' : Tab} (h1 : Rl q o g' w') (b : But w.heap.size q w w') : Two w0 p q k o f g' w' :=
  ⟨h.one.keep (b.block p h.one.lt h.ne), h1, h.ne, h.lp, h.lq, h.below.trans ((b.mono h.below.size).to h.lq)⟩
theorem Two.drewN (h : Two w0 p q k o f g w) (n : Nat) : Two w0 p q k o f g (w.drewN n) := h.later (below_drewN _ _ _)
end

/-- The cells of the j-th one of what is given, in whatever world behind. -/
theorem Ru.at {g off cap : Nat} {L : Nat} {l : List Upd} {w w' : World} (h : Ru (.slice (some ⟨g, off, none⟩) L cap) l w) (hb : Below w.heap.size w w') {j : Nat} (hj : j < l.length) :
    w'.cell? ⟨g, off + j * 3, none⟩ = some (.int .i64 l[j].n) ∧ w'.cell? ⟨g, off + j * 3 + 1, none⟩ = some (.int .u64 l[j].i) ∧ w'.cell? ⟨g, off + j * 3 + 2, none⟩ = some (.int .i64 l[j].s) := by
  obtain ⟨_, _, e, _, _, e3⟩ := h.below hb
  cases e
  rcases e3 with e3 | ⟨g', off', e, e3⟩
  · omega
  · cases e; exact e3 j hj

theorem up_max {o : Option Upd} {m : Upd} (h : o = none ∨ ∃ x, o = some x ∧ x.n = m.n ∧ newerU x m = false) : up o m = some m := by
  rcases h with rfl | ⟨x, rfl, hn, h⟩
  · rfl
  · cases h2 : newerU m x
    · rw [up_old h2]
      rw [newer_not] at h h2
      rw [upd_eq hn (by omega) (by omega)]
    · exact up_new h2
theorem newer_asymm {u v : Upd} (h : newerU u v = true) : newerU v u = false := by rw [newer_not]; rw [newer_iff] at h; omega

theorem self_mine {k : Nat} {f : Tab} (hI : Inv k f) : ∃ m, f k = some m ∧ m.n = k ∧ m.s = 0 ∧ InOk m ∧ mayU m = true := by
  obtain ⟨i, hi⟩ := hI.mine
  obtain ⟨h1, _, h3⟩ := hI.may k _ hi
  exact ⟨_, hi, rfl, rfl, h3, h1⟩
theorem self_inc {k : Nat} {f g : Tab} (hI : Inv k f) (hg : Grow f g) : (ud (f k)).i ≤ (ud (g k)).i := by
  rcases hg k with e | ⟨u, e, hu⟩
  · rw [e]; exact Int.le_refl _
  · obtain ⟨i, hi⟩ := hI.mine
    rw [e, hi, ud_some, ud_some]
    rcases hu with hu | hu
    · rw [hi] at hu; cases hu
    · rw [hi, ud_some, newer_iff] at hu
      dsimp only at hu ⊢
      omega

/-- What others know of a node is no newer than what it says. -/
theorem self_step {k o : Nat} {fr fs : Tab} (hr : Inv k fr) (hs : Inv o fs) (hko : k ≠ o) {u : Upd} (hu : InOk u) (h : fs k = none ∨ fs k = fr k)
    (hc : ((hearS k (hearS k fr u).2 u).1.2 == 60) = false) : (hearS o (hearS o fs u).2 (ud ((hearS k (hearS k fr u).2 u).2 k))).2 k = (hearS k (hearS k fr u).2 u).2 k := by
  have hr1 := hear_inv hr hu
  have hr2 := hear_inv hr1 hu
  have hg : Grow fr (hearS k (hearS k fr u).2 u).2 := (hear_grow hr u).trans (hear_grow hr1 u)
  have ho := hear_makes_old hr1 hc
  generalize (hearS k (hearS k fr u).2 u).2 = f2 at *
  obtain ⟨m, hm, hmn, _, _, hmm⟩ := self_mine hr2
  have hkoi : (k : Int) ≠ o := by omega
  have hg' : ∀ x, fr k = some x → x.n = m.n ∧ newerU x m = false := by
    intro x hx
    have hxn := (hr.may k x hx).2.1
    refine ⟨by rw [hxn, hmn], ?_⟩
    rcases hg k with e | ⟨y, e, hy⟩
    · rw [hm, hx] at e
      cases e
      exact newer_irrefl _
    · rw [hm] at e
      cases e
      rcases hy with hy | hy
      · rw [hx] at hy; cases hy
      · rw [hx, ud_some] at hy; exact newer_asymm hy
  have hfs : fs k = none ∨ ∃ x, fs k = some x ∧ x.n = m.n ∧ newerU x m = false := by
    rcases h with h | h
    · exact Or.inl h
    · obtain ⟨x, hx, _⟩ := self_mine hr
      exact Or.inr ⟨x, h.trans hx, hg' x hx⟩
  rw [hm, ud_some, (hear_other hmm (by rw [hmn]; exact hkoi)).2 k, if_pos hmn.symm]
  refine up_max ?_
  cases hmu : mayU u
  · rw [hear_not _ _ hmu]; exact hfs
  · by_cases huo : u.n = o
    · obtain ⟨i, hi⟩ := hs.mine
      rw [hear_own hi hmu huo]
      split
      · split
        · exact hfs
        · dsimp only; rw [Tab.set_other _ _ hko]; exact hfs
      · exact hfs
    · rw [(hear_other hmu huo).2 k]
      split
      · rename_i hku
        obtain ⟨v, hv, hn⟩ := ho hmu
        have e : u.n.toNat = k := by omega
        rw [e, hm] at hv
        cases hv
        unfold up
        split
        · exact hfs
        · exact Or.inr ⟨u, rfl, by rw [hmn]; exact hku.symm, hn⟩
      · exact hfs
end Go.Proofs.Ytkodeahhckibmaa
