/-
  The law's shown: that a doubt is over.
-/
import Derived.Test.YtahiiieifdhgeaaEts
import Derived.Test.YtahiiieifdhgeaaEmt
import Derived.Test.YtahiiieifdhgeaaErm
namespace Go.Proofs.Ytahiiieifdhgeaa
open Go.RowKit Go.Maps

theorem two_word : Hid (Re.two < 2 ^ 64) := by show Re.two < 2 ^ 64; decide
/-- A row of one update. -/
theorem Own.one {B : Nat} {v : Value} {u : Upd} {w : World} (h : Own B v [u] w) : ∃ g cap, v = .slice (some ⟨g, 0, none⟩) 1 cap ∧ 1 ≤ cap ∧ w.cell? ⟨g, 0, none⟩ = some (.int .i64 u.n) ∧ w.cell? ⟨g, 1, none⟩ = some (.int .u64 u.i) ∧ w.cell? ⟨g, 2, none⟩ = some (.int .i64 u.s) := by
  obtain ⟨g, cap, rfl, h1, h2, _⟩ := h.len (by rintro rfl; have := h.1; simp [flat] at this; rcases h.2 with ⟨_, e⟩ | ⟨g, c, cur, e, _⟩ <;> simp at e)
  obtain ⟨g', off, e, d0, d1, d2⟩ := Ru.at_ h.ru (j := 0) (by simp)
  cases e
  exact ⟨g, cap, rfl, h1, by simpa using d0, by simpa using d1, by simpa using d2⟩

set_option maxRecDepth 100000 in
set_option maxHeartbeats 2000000 in
theorem shown_any (w : World) : Calls Try.prog 8 #[] w fun e w' => e = .returned (.bool true) ∧ Below w.heap.size w w' := by
  have ba := below_alloc w (.cells #[.map none] 27)
  have hQ := Du.new w
  obtain ⟨w1, HW1⟩ : ∃ w1, Hid (w1 = w.alloc (.cells #[.map none] 27)) := ⟨_, rfl⟩
  rw [← HW1.out] at ba hQ
  have hr := raise_any w.heap.size none [] 3 0 1 1 5 1 Re.two (by omega) (by omega) two_word (by omega) w1 hQ
  have hrs : raiseS [] 3 0 1 1 5 1 Re.two = (true, 0, [newD 3 0 1 5 1 Re.two]) := raise_is_new (by decide) (Or.inl rfl)
  have hu : (newD 3 0 1 5 1 Re.two).u = 7 := until_two 5 1 1 (by omega) bits_one (by omega) (by omega)
  obtain ⟨ho, hs⟩ := over_one (x := newD 3 0 1 5 1 Re.two) (now := 7) (by omega)
  rw [hrs] at hr
  simp only at hr
  unfold Re.two at hr
  have hdead : [newD 3 0 1 5 1 Re.two].map deadOf = [⟨3, 0, 3⟩] := rfl
  obtain ⟨L, HL⟩ : ∃ L, Hid (L = [newD 3 0 1 5 1 Re.two]) := ⟨_, rfl⟩
  rw [show [newD 3 0 1 5 1 4611686018427387904] = L from HL.out.symm] at hr
  rw [← HL.out] at ho hs hdead
  have hov := fun m W => over_any w.heap.size m L 7 W
  rw [ho, hs, hdead] at hov
  clear ho hs hdead hrs hu hQ
  have hz := ba.size
  go_enter Try.func8, Try.ntmps8
  go_upto_region 2 with fail
  rw [← HW1.out]
  go_wp2_with fail
  refine hr.mono ?_
  rintro e w2 ⟨rfl, m2, hQ2, hmv2⟩
  go_wp2_with fail
  refine (hov _ _ hQ2).mono ?_
  rintro e w3 ⟨⟨v, rfl, hO⟩, hQ3, hmv3⟩
  obtain ⟨g, cap, rfl, hcap, d0, d1, d2⟩ := hO.one
  simp only at d0 d1 d2
  have hb1 : Below w.heap.size w1 w2 := hmv2.to hz (Nat.le_refl _) (fun b e => by cases e)
  have hf2 := hmv2.from_ hz (fun b e => by cases e)
  have hb2 : Below w.heap.size w2 w3 := hmv3.to (Nat.le_trans hz hb1.size) (Nat.le_refl _) hf2
  go_wp2_with fail
  go_ret
  exact ⟨rfl, (ba.trans hb1).trans hb2⟩
end Go.Proofs.Ytahiiieifdhgeaa
