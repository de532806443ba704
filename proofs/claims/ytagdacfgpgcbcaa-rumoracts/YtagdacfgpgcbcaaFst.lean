/-
  first: the first n of Items.
-/
import Derived.Test.YtagdacfgpgcbcaaPut
namespace Go.Proofs.Ytagdacfgpgcbcaa
open Go.RowKit Go.Maps

theorem Ri.take {a : Option Addr} {cap : Nat} {l : List Itm} {w : World} {M : Nat} (hM : l.length = M) (h : Ri (.slice a M cap) l w) (q : Nat) (hq : q ≤ M) : Ri (.slice a q cap) (l.take q) w := by
  subst hM
  obtain ⟨_, _, e, h1, h2, h3⟩ := h
  cases e
  have hl : (l.take q).length = q := by rw [List.length_take]; omega
  refine ⟨_, cap, by rw [hl], by omega, h2, ?_⟩
  rcases h3 with h3 | ⟨g', off', e, h3⟩
  · exact Or.inl (by omega)
  · refine Or.inr ⟨g', off', e, fun j hj => ?_⟩
    rw [List.getElem_take]
    exact h3 j (by omega)
theorem take_min (L : List Itm) (n : Int) : L.take (min (max n 0) (L.length : Int)).toNat = L.take n.toNat := by
  rcases Int.le_total n 0 with h | h
  · rw [show min (max n 0) (L.length : Int) = 0 by omega, show n.toNat = 0 by omega]
    rfl
  · rcases Int.le_total n L.length with h1 | h1
    · rw [show min (max n 0) (L.length : Int) = n by omega]
    · rw [show min (max n 0) (L.length : Int) = L.length by omega, List.take_of_length_le (by omega), List.take_of_length_le (by omega)]

set_option maxHeartbeats 1000000 in
theorem first_any (p : Nat) (m : Option Nat) (L : List Itm) (hl : L.length ≤ 40) (n : Int) (w : World) (hQ : Qu p m L w) :
    Calls Try.prog 28 #[.pointer (some ⟨p, 0, none⟩), .int .i64 n] w fun e w' => (∃ v, e = .returned v ∧ Ri v (L.take n.toNat) w' ∧ ∀ g, v.ownBlock = some g → w.heap.size ≤ g) ∧ Below w.heap.size w w' := by
  rw [← take_min]
  have hk : ∃ k : Nat, min (max n 0) (L.length : Int) = k ∧ k ≤ L.length := ⟨(min (max n 0) (L.length : Int)).toNat, by omega, by omega⟩
  obtain ⟨k, hk, hk1⟩ := hk
  have hi := items_any p m L hl w hQ
  rw [hk, Int.toNat_natCast]
  generalize hN : L.length = N at *
  have HN : Hid (L.length = N) := hN
  clear hN
  go_enter Try.func28, Try.ntmps28
  go_wp2_with fail
  refine hi.mono ?_
  rintro e w1 ⟨⟨v, rfl, hR, hv⟩, hb⟩
  obtain ⟨a, cap, rfl, h1, h2, h3⟩ := id hR
  have hN := HN.out
  rw [hN] at hR hv h1
  rw [hN]
  clear hN
  have c0 : (k : Int) ≤ cap := by omega
  have c1 : (0 : Int) ≤ k := by omega
  clear h3
  go_wp2_with fail
  go_ret
  exact ⟨⟨_, rfl, hR.take HN.out k hk1, fun g hg => hv g (by cases a with | none => cases hg | some x => exact hg)⟩, hb⟩
end Go.Proofs.Ytagdacfgpgcbcaa
