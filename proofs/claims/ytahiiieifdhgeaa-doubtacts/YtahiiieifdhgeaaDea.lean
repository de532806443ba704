/-
  each, with the closure of All and with that of Over.
-/
import Derived.Test.YtahiiieifdhgeaaDst
namespace Go.Proofs.Ytahiiieifdhgeaa
open Go.RowKit Go.Maps Go.Sort Go.Shelf

theorem row_at {B : Nat} {v : Value} {l : List Dbt} {w : World} (h : w.ownsRow B 3 1 v l.length ((l.map Dbt.n).map encZ)) :
    ∃ a cap, v = .slice a l.length cap ∧ l.length ≤ cap ∧ cap ≤ maxLen ∧ (l.length = 0 ∨ ∃ g, a = some ⟨g, 0, none⟩ ∧ B ≤ g ∧ g < w.heap.size ∧ ∀ k (hk : k < l.length), w.cell? ⟨g, 0 + k, none⟩ = some (.int .i64 l[k].n)) := by
  rcases h.2 with ⟨rfl, h0⟩ | ⟨g, cap, cur, rfl, hb, hg, h1, h2, h3, h4⟩
  · exact ⟨none, 0, by rw [h0], by omega, by unfold maxLen; omega, Or.inl h0⟩
  · refine ⟨_, cap, rfl, h1, h2, Or.inr ⟨g, rfl, hb, (Array.getElem?_eq_some_iff.1 hg).1, fun k hk => ?_⟩⟩
    rw [Nat.zero_add, World.ownsRow.cellAt h k (by omega)]
    simp [hk]

set_option maxRecDepth 100000 in
set_option maxHeartbeats 2000000 in
theorem each_none (p : Nat) (f : Value) (w : World) (hQ : Du p none [] w) :
    Calls Try.prog 33 #[.pointer (some ⟨p, 0, none⟩), f] w fun e w' => e = .returned (.tuple #[]) ∧ Below w.heap.size w w' := by
  have hc := hQ.c
  have c0 := fun W => keys_any none W
  have c1 := sorted_none w
  go_enter Try.func33, Try.ntmps33
  go_wp2_with fail
  refine (c0 _).mono ?_
  rintro e w1 ⟨rfl, rfl⟩
  go_wp2_with fail
  refine c1.mono ?_
  rintro e w2 ⟨rfl, hb⟩
  go_wp2_with fail
  refine wp_loop_rounds 1 ?_
  rw [rounds_succ]
  go_wp2_with fail
  go_end0
  exact ⟨rfl, hb⟩

set_option maxRecDepth 100000 in
set_option maxHeartbeats 2000000 in
theorem each_some (p b : Nat) (F : Nat) (caps : Array Value) (hF : ∀ args w, (callFunc F args).run Try.prog w = .ok (.enter F args) w) (L : List Dbt) (w : World) (hQ : Du p (some b) L w) (I : World → Nat → World → Prop)
    (h0 : ∀ wS, Below w.heap.size w wS → I wS 0 wS)
    (hst : ∀ wS k w', Below w.heap.size w wS → ∀ (hk : k < L.length), I wS k w' → (∃ L', Du p (some b) L' w' ∧ getD L' L[k].n = L[k]) ∧ (∀ g, w.heap.size ≤ g → g < wS.heap.size → w'.heap[g]? = wS.heap[g]?) ∧
      Calls Try.prog F (#[dV L[k]] ++ caps) w' fun e w'' => e = .returned (.tuple #[]) ∧ I wS (k + 1) w'') :
    Calls Try.prog 33 #[.pointer (some ⟨p, 0, none⟩), .func (.func F) #[] caps] w fun e w' => e = .returned (.tuple #[]) ∧ ∃ wS, Below w.heap.size w wS ∧ I wS L.length w' := by
  have hc := hQ.c
  have c0 := fun W => keys_any (some b) W
  have c1 := sorted_some (hQ.some_ b rfl) hQ.di
  have hnb : ∀ k (hk : k < L.length), 0 ≤ L[k].n ∧ L[k].n < 64 := fun k hk => ⟨(hQ.di.ok _ (List.getElem_mem hk)).n0, (hQ.di.ok _ (List.getElem_mem hk)).n1⟩
  have hll := hQ.di.length
  clear hQ
  go_enter Try.func33, Try.ntmps33
  go_wp2_with fail
  refine (c0 _).mono ?_
  rintro e w1 ⟨rfl, rfl⟩
  go_wp2_with fail
  refine c1.mono ?_
  rintro e wS ⟨v, rfl, hrow, hb⟩
  obtain ⟨a, cap, rfl, r1, r2, r3⟩ := row_at hrow
  have h00 := h0 wS hb
  have hstS := fun k w' => hst wS k w' hb
  clear hrow h0 hst c0 c1 hc
  obtain ⟨N, HN⟩ : ∃ N, Hid (L.length = N) := ⟨_, rfl⟩
  have hNl : N ≤ 64 := by rw [← HN.out]; exact hll
  rw [HN.out] at r1 ⊢
  clear hll
  go_wp2_with fail
  go_loopg [13] N (fun gk t13 wr => ∃ k : Nat, k + gk = N ∧ t13 = .int .i64 k ∧ I wS k wr)
  case atStart => exact ⟨0, by omega, rfl, h00⟩
  case round =>
    obtain ⟨k, hk, rfl, hI⟩ := hrel
    by_cases hlt : k < N
    · have hkl : k < L.length := by rw [HN.out]; exact hlt
      obtain ⟨⟨L', hQ', hget⟩, hkeep, hcall⟩ := hstS k wr hkl hI
      have hn := hnb k hkl
      have hg := get_any hQ' (n := L[k].n) (wf_node hn.1 hn.2)
      rw [hget] at hg
      obtain ⟨g, rfl, hg1, hg2, hcell⟩ : ∃ g, a = some ⟨g, 0, none⟩ ∧ w.heap.size ≤ g ∧ g < wS.heap.size ∧ wS.cell? ⟨g, 0 + k, none⟩ = some (.int .i64 L[k].n) := by
        rcases r3 with h | ⟨g, rfl, hg1, hg2, h⟩
        · omega
        · exact ⟨g, rfl, hg1, hg2, h k hkl⟩
      have hcell := (World.cell?_of_block (w := wS) (hkeep g hg1 hg2)).trans hcell
      have hc := hQ'.c
      have k0 : (0 : Int) ≤ k := by omega
      have k1 : (k : Int) < N := by omega
      rw [Nat.zero_add] at hcell
      clear hQ' hget hkeep hstS r3 hI h00
      generalize L[k] = x at *
      unfold dV at hg hcall
      go_wp2_with fail
      refine hcall.mono ?_
      rintro e wn ⟨rfl, hI2⟩
      go_wp2_with fail
      go_roundg (gk - 1)
      case rel => exact ⟨k + 1, by omega, by simp, hI2⟩
      case measure => omega
    · obtain rfl : k = N := by omega
      go_wp2_with fail
      go_end0
      exact ⟨rfl, wS, hb, by rw [HN.out]; exact hI⟩
end Go.Proofs.Ytahiiieifdhgeaa
