/-
  RollBoth.
-/
import Derived.Test.YtkodeahhckibmaaMab
namespace Go.Proofs.Ytkodeahhckibmaa
open Go.RowKit

theorem hear_apart {k : Nat} {f : Tab} {u : Upd} (hk : (k : Int) ≤ 1) (h : 1 < u.n) {j : Nat} (hj : (j : Int) ≤ 1) : (hearS k f u).2 j = f j := by
  cases hm : mayU u
  · rw [hear_not _ _ hm]
  · rw [(hear_other hm (by omega)).2 j, if_neg (by omega)]

set_option maxRecDepth 100000 in
set_option maxHeartbeats 2000000 in
theorem both_core (a b : Option Addr) (capa capb : Nat) (l m : List Upd) (w : World) (hU : Ru (.slice a l.length capa) l w) (hV : Ru (.slice b m.length capb) m w) (hin : ∀ u ∈ l, InOk u) (hin2 : ∀ u ∈ m, InOk u) (hl : (l.length : Int) ≤ 60) (hm : (m.length : Int) ≤ 60) :
    Calls Try.prog 6 #[.slice a l.length capa, .slice b m.length capb] w fun e w' => e = .returned (.bool true) ∧ Below w.heap.size w w' := by
  obtain ⟨_, _, e, _, _, h3⟩ := id hU
  cases e
  obtain ⟨_, _, e, _, _, h4⟩ := id hV
  cases e
  go_enter Try.func6, Try.ntmps6
  go_wp2_with fail
  refine (shown_any _).mono ?_
  rintro e w1 ⟨rfl, hb1⟩
  go_wp2_with fail
  refine (new_any _ _).mono ?_
  rintro e w2 ⟨hN, _, hb2⟩
  obtain ⟨p, rfl, hp, hR2⟩ := hN 0 rfl (by decide)
  clear hN
  go_wp2_with fail
  refine (new_any _ _).mono ?_
  rintro e w3 ⟨hN, _, hb3⟩
  obtain ⟨q, rfl, hq, hR3⟩ := hN 1 rfl (by decide)
  clear hN
  have hp2 := hR2.lt
  have hS : Two w p q 0 1 (newS 0) (newS 1) w3 := ⟨hR2.below hb3, hR3, by omega, Nat.le_trans hb1.size hp, Nat.le_trans hb1.size (Nat.le_trans hb2.size hq), hb1.trans ((hb2.trans (hb3.mono hb2.size)).mono hb1.size)⟩
  have hI0 : Inv 0 (newS 0) := inv_new (by decide)
  have hI1 : Inv 1 (newS 1) := inv_new (by decide)
  have hn0 : newS 0 1 = none := rfl
  have hn1 : newS 1 0 = none := rfl
  generalize newS 0 = f0 at *
  generalize newS 1 = g0 at *
  clear hb1 hb2 hb3 hR2 hR3 hp hq hp2
  go_wp2_with fail
  go_loopg [7] l.length (fun gk t7 wr => ∃ (j : Nat) (f : Tab), j + gk = l.length ∧ t7 = .int .i64 j ∧ f 1 = none ∧ Inv 0 f ∧ Two w p q 0 1 f g0 wr)
  case atStart => exact ⟨0, f0, by omega, rfl, hn0, hI0, hS⟩
  case round =>
    obtain ⟨j, f, hj, rfl, hf1, hI, hT⟩ := hrel
    clear hS hI0 hn0 f0
    by_cases hlt : (j : Int) < l.length
    · have hj' : j < l.length := by omega
      have j0 : (0 : Int) ≤ j := by omega
      rcases h3 with h3 | ⟨gb, off, rfl, h3⟩
      · omega
      clear h3
      obtain ⟨x0, x1, x2⟩ := hU.at hT.below hj'
      have hiu := hin l[j] (List.getElem_mem hj')
      generalize l[j] = u at *
      by_cases hu1 : 1 < u.n
      · have hx := hear_apart (k := 0) (f := f) (by decide) hu1 (j := 1) (by decide)
        have hI' := hear_inv hI hiu
        go_wp2_with fail
        refine (hear_any p 0 f u (by decide) hiu.1 hiu.2 _ hT.one).mono ?_
        generalize hearS 0 f u = r at *
        obtain ⟨⟨b1, e1⟩, f1⟩ := r
        dsimp only at hx hI' ⊢
        rintro e w4 ⟨rfl, hR4, hb4⟩
        have hT4 := hT.first hR4 hb4
        go_wp2_with fail
        go_roundg (gk - 1)
        case rel => exact ⟨j + 1, f1, by omega, by go_num, by rw [hx]; exact hf1, hI', hT4⟩
        case measure => omega
      · go_wp2_with fail
        go_roundg (gk - 1)
        case rel => exact ⟨j + 1, f, by omega, by go_num, hf1, hI, hT⟩
        case measure => omega
    · clear hin hU h3
      go_wp2_with fail
      go_loopg [8] m.length (fun gk t8 wr => ∃ (j : Nat) (g : Tab), j + gk = m.length ∧ t8 = .int .i64 j ∧ g 0 = none ∧ Inv 1 g ∧ Two w p q 0 1 f g wr)
      case atStart => exact ⟨0, g0, by omega, rfl, hn1, hI1, hT⟩
      case round =>
        obtain ⟨j', g, hj'', rfl, hg0, hJ, hT2⟩ := hrel
        clear hT hI1 hn1
        by_cases hlt2 : (j' : Int) < m.length
        · have hj' : j' < m.length := by omega
          have j0 : (0 : Int) ≤ j' := by omega
          rcases h4 with h4 | ⟨gb, off, rfl, h4⟩
          · omega
          clear h4
          obtain ⟨x0, x1, x2⟩ := hV.at hT2.below hj'
          have hiu := hin2 m[j'] (List.getElem_mem hj')
          generalize m[j'] = u at *
          by_cases hu1 : 1 < u.n
          · have hx := hear_apart (k := 1) (f := g) (by decide) hu1 (j := 0) (by decide)
            have hI' := hear_inv hJ hiu
            go_wp2_with fail
            refine (hear_any q 1 g u (by decide) hiu.1 hiu.2 _ hT2.two).mono ?_
            generalize hearS 1 g u = r at *
            obtain ⟨⟨b1, e1⟩, g1⟩ := r
            dsimp only at hx hI' ⊢
            rintro e w4 ⟨rfl, hR4, hb4⟩
            have hT4 := hT2.second hR4 hb4
            go_wp2_with fail
            go_roundg (gk - 1)
            case rel => exact ⟨j' + 1, g1, by omega, by go_num, by rw [hx]; exact hg0, hI', hT4⟩
            case measure => omega
          · go_wp2_with fail
            go_roundg (gk - 1)
            case rel => exact ⟨j' + 1, g, by omega, by go_num, hg0, hJ, hT2⟩
            case measure => omega
        · clear hin2 hV h4
          go_wp2_with fail
          go_loopg [9] 2 (fun gk t9 wr => ∃ (i : Nat) (f g : Tab), i + gk = 2 ∧ t9 = .int .i64 i ∧ (i = 0 → f 1 = none ∧ g 0 = none) ∧ (i ≠ 0 → f = g) ∧ Inv 0 f ∧ Inv 1 g ∧ Two w p q 0 1 f g wr)
          case atStart => exact ⟨0, f, g, by omega, rfl, fun _ => ⟨hf1, hg0⟩, fun h => absurd rfl h, hI, hJ, hT2⟩
          case round =>
            obtain ⟨i, f, g, hi, rfl, hs0, hs1, hIf, hIg, hT⟩ := hrel
            by_cases hlt3 : (i : Int) < 2
            · have i0 : (0 : Int) ≤ i := by omega
              obtain ⟨f', c1, c2, hI1, hI2⟩ := both_round hIf hIg (by
                by_cases h0 : i = 0
                · exact Or.inl (hs0 h0)
                · exact Or.inr (hs1 h0))
              have hok := all_ok hIg
              have hok' := all_ok hI1
              have hlen := allS_length g
              have hlen' := allS_length f'
              clear hs0 hs1 hIf hIg
              go_wp2_with fail
              refine (all_any q 1 g _ hT.two).mono ?_
              rintro e w4 ⟨⟨v4, rfl, hO4⟩, hb4⟩
              have hp := hT.one.lt
              have hq := hT.two.lt
              have hT4 := hT.later hb4
              go_wp2_with fail
              refine (merge_any p 0 f _ (allS g) (by decide) w4 hT4.one hO4.ru (fun _ => hO4.ne hp) (by omega) hok).mono ?_
              rw [c1]
              rintro e w5 ⟨⟨v5, rfl, _⟩, hR5, hb5⟩
              have hT5 := hT4.first hR5 hb5
              clear hO4 hR5 hb5 hT4
              go_wp2_with fail
              refine (all_any p 0 f' _ hT5.one).mono ?_
              rintro e w6 ⟨⟨v6, rfl, hO6⟩, hb6⟩
              have hq := hT5.two.lt
              have hT6 := hT5.later hb6
              go_wp2_with fail
              refine (merge_any q 1 g _ (allS f') (by decide) w6 hT6.two hO6.ru (fun _ => hO6.ne hq) (by omega) hok').mono ?_
              rw [c2]
              rintro e w7 ⟨⟨v7, rfl, _⟩, hR7, hb7⟩
              have hT7 := hT6.second hR7 hb7
              clear hO6 hR7 hb7 hT6
              go_wp2_with fail
              go_roundg (gk - 1)
              case rel => exact ⟨i + 1, f', f', by omega, by go_num, fun h => absurd h (by omega), fun _ => rfl, hI1, hI2, hT7⟩
              case measure => omega
            · obtain rfl := hs1 (by omega)
              have hlen := allS_length f
              clear hs0 hs1
              go_wp2_with fail
              refine (all_any p 0 f _ hT.one).mono ?_
              rintro e w4 ⟨⟨v4, rfl, hO4⟩, hb4⟩
              have hT4 := hT.later hb4
              go_wp2_with fail
              refine (all_any q 1 f _ hT4.two).mono ?_
              rintro e w5 ⟨⟨v5, rfl, hO5⟩, hb5⟩
              have hT5 := hT4.later hb5
              go_wp2_with fail
              refine (same_any _ _ (allS f) w5 (by omega) (hO4.ru.below hb5) hO5.ru).mono ?_
              rintro e w6 ⟨rfl, hb6⟩
              have hT6 := hT5.later hb6
              go_wp2_with fail
              refine (rlive_any p 0 f _ hT6.one).mono ?_
              rintro e w7 ⟨rfl, hb7⟩
              have hT7 := hT6.later hb7
              go_wp2_with fail
              refine (rlive_any q 1 f _ hT7.two).mono ?_
              rintro e w8 ⟨rfl, hb8⟩
              have hT8 := hT7.later hb8
              go_wp2_with fail
              go_ret
              exact ⟨by simp, hT8.below⟩

set_option maxRecDepth 100000 in
theorem both_long (a b : Option Addr) (lena capa lenb capb : Nat) (w : World) (hl : (60 : Int) < lena) :
    Calls Try.prog 6 #[.slice a lena capa, .slice b lenb capb] w fun e w' => e = .returned (.bool true) ∧ Below w.heap.size w w' := by
  go_enter Try.func6, Try.ntmps6
  go_wp2_with (go_at_call 8; refine (shown_any _).mono ?_; rintro e w1 ⟨rfl, hb1⟩)
  go_ret
  exact ⟨rfl, hb1⟩
set_option maxRecDepth 100000 in
theorem both_long2 (a b : Option Addr) (lena capa lenb capb : Nat) (w : World) (hl : ¬ (60 : Int) < lena) (hm : (60 : Int) < lenb) :
    Calls Try.prog 6 #[.slice a lena capa, .slice b lenb capb] w fun e w' => e = .returned (.bool true) ∧ Below w.heap.size w w' := by
  go_enter Try.func6, Try.ntmps6
  go_wp2_with (go_at_call 8; refine (shown_any _).mono ?_; rintro e w1 ⟨rfl, hb1⟩)
  go_ret
  exact ⟨rfl, hb1⟩

theorem both_walk (a : Option Addr) (lena capa : Nat) (l : List Upd) (b : Option Addr) (lenb capb : Nat) (m : List Upd) (w : World) (hU : IsUpds w a lena capa l) (hV : IsUpds w b lenb capb m) :
    Calls Try.prog 6 #[.slice a lena capa, .slice b lenb capb] w fun e w' => e = .returned (.bool true) ∧ Below w.heap.size w w' := by
  have hin := hU.inok
  have hin2 := hV.inok
  obtain ⟨rfl, hR, _⟩ := hU
  obtain ⟨rfl, hR2, _⟩ := hV
  by_cases hl : (60 : Int) < l.length
  · exact both_long a b l.length capa m.length capb w hl
  · by_cases hm : (60 : Int) < m.length
    · exact both_long2 a b l.length capa m.length capb w hl hm
    · exact both_core a b capa capb l m w hR hR2 hin hin2 (by omega) (by omega)
end Go.Proofs.Ytkodeahhckibmaa
