/-
  Same, where both are the same; shown.
-/
import Derived.Test.YtkodeahhckibmaaDoorMrg
namespace Go.Proofs.YtkodeahhckibmaaDoor
open Go.RowKit

theorem eqU_refl (u : Upd) : eqU u u = true := by simp [eqU]

set_option maxRecDepth 100000 in
set_option maxHeartbeats 1000000 in
theorem same_any (v u : Value) (l : List Upd) (w : World) (hlen : l.length ≤ 1000000) (h1 : Ru v l w) (h2 : Ru u l w) :
    Calls Tryd.prog 13 #[v, u] w fun e w' => e = .returned (.bool true) ∧ Below w.heap.size w w' := by
  obtain ⟨a1, cap1, rfl, m1, n1, k1⟩ := id h1
  obtain ⟨a2, cap2, rfl, m2, n2, k2⟩ := id h2
  have hl : (l.length : Int) ≤ 1000000 := by omega
  go_enter Tryd.func13, Tryd.ntmps13
  go_wp2_with fail
  go_loopg [5] l.length (fun gk t5 wr => ∃ i : Nat, i + gk = l.length ∧ t5 = .int .i64 i ∧ Below w.heap.size w wr)
  case atStart => exact ⟨0, by omega, rfl, Below.refl _ _⟩
  case round =>
    obtain ⟨i, hi, rfl, hB⟩ := hrel
    by_cases hlt : (i : Int) < l.length
    · have i0 : (0 : Int) ≤ i := by omega
      have hil : i < l.length := by omega
      rcases k1 with k1 | ⟨g1, o1, rfl, k1⟩
      · omega
      rcases k2 with k2 | ⟨g2, o2, rfl, k2⟩
      · omega
      obtain ⟨x0, x1, x2⟩ : wr.cell? ⟨g1, o1 + i * 3, none⟩ = some (.int .i64 l[i].n) ∧ wr.cell? ⟨g1, o1 + i * 3 + 1, none⟩ = some (.int .u64 l[i].i) ∧ wr.cell? ⟨g1, o1 + i * 3 + 2, none⟩ = some (.int .i64 l[i].s) := by
        obtain ⟨_, _, e, _, _, e3⟩ := h1.below hB
        cases e
        rcases e3 with e3 | ⟨g', off', e, e3⟩
        · omega
        · cases e; exact e3 i hil
      obtain ⟨y0, y1, y2⟩ : wr.cell? ⟨g2, o2 + i * 3, none⟩ = some (.int .i64 l[i].n) ∧ wr.cell? ⟨g2, o2 + i * 3 + 1, none⟩ = some (.int .u64 l[i].i) ∧ wr.cell? ⟨g2, o2 + i * 3 + 2, none⟩ = some (.int .i64 l[i].s) := by
        obtain ⟨_, _, e, _, _, e3⟩ := h2.below hB
        cases e
        rcases e3 with e3 | ⟨g', off', e, e3⟩
        · omega
        · cases e; exact e3 i hil
      have hq := run_neqU l[i] l[i]
      rw [eqU_refl] at hq
      generalize l[i] = x at *
      clear k1 k2
      go_wp2_with fail
      go_quiet (fail)
      go_wp2_with fail
      go_roundg (gk - 1)
      case rel => exact ⟨i + 1, by omega, by go_num, hB.trans (below_drewN _ _ _)⟩
      case measure => omega
    · go_wp2_with fail
      go_ret
      exact ⟨rfl, hB⟩

theorem shown_hear : hearS 2 (newS 2) ⟨5, 1, 0⟩ = ((true, 0), (newS 2).set 5 ⟨5, 1, 0⟩) := rfl
theorem shown_live : bandS (allS ((newS 2).set 5 ⟨5, 1, 0⟩)) = 36 := by decide
theorem shown_all : (allS ((newS 2).set 5 ⟨5, 1, 0⟩)).length = 2 := by decide

set_option maxRecDepth 100000 in
set_option maxHeartbeats 1000000 in
theorem shown_any (w : World) : Calls Tryd.prog 5 #[] w fun e w' => e = .returned (.bool true) ∧ Below w.heap.size w w' := by
  go_enter Tryd.func5, Tryd.ntmps5
  go_wp2_with fail
  refine (new_any 2 w).mono ?_
  rintro e w1 ⟨h1, _, hB1⟩
  obtain ⟨p, rfl, hp, hR1⟩ := h1 2 rfl (by decide)
  go_wp2_with fail
  have hH := hear_any p 2 (newS 2) ⟨5, 1, 0⟩ (by decide) (by decide) (by decide) w1 hR1
  rw [shown_hear] at hH
  refine hH.mono ?_
  rintro e w2 ⟨rfl, hR2, hb2⟩
  have hB2 : Below w.heap.size w w2 := hB1.trans ((hb2.mono hB1.size).to hp)
  have hL := fun w' (hb : Below w2.heap.size w2 w') => rlive_any p 2 _ w' (hR2.below hb)
  rw [shown_live] at hL
  have hA := fun w' (hb : Below w2.heap.size w2 w') => all_any p 2 _ w' (hR2.below hb)
  have hn := shown_all
  generalize allS _ = L at *
  clear hR2 hb2 hR1 hH
  dsimp only
  go_wp2_with fail
  refine (hL _ (Below.refl _ _)).mono ?_
  rintro e w3 ⟨rfl, hB3⟩
  go_wp2_with fail
  refine (hA _ hB3).mono ?_
  rintro e w4 ⟨⟨v, rfl, hO⟩, hB4⟩
  obtain ⟨a, cap, rfl, c1, c2, _⟩ := hO.ru
  rw [hn] at c1 ⊢
  go_wp2_with fail
  go_ret
  exact ⟨rfl, (hB2.trans (hB3.mono hB2.size)).trans (hB4.mono (Nat.le_trans hB2.size hB3.size))⟩
end Go.Proofs.YtkodeahhckibmaaDoor
