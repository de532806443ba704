/-
  RollActs.
-/
import Derived.Test.YtkodeahhckibmaaDoorAct
namespace Go.Proofs.YtkodeahhckibmaaDoor
open Go.RowKit

theorem Ru.at {g off cap : Nat} {L : Nat} {l : List Upd} {w w' : World} (h : Ru (.slice (some ⟨g, off, none⟩) L cap) l w) (hb : Below w.heap.size w w') {j : Nat} (hj : j < l.length) :
    w'.cell? ⟨g, off + j * 3, none⟩ = some (.int .i64 l[j].n) ∧ w'.cell? ⟨g, off + j * 3 + 1, none⟩ = some (.int .u64 l[j].i) ∧ w'.cell? ⟨g, off + j * 3 + 2, none⟩ = some (.int .i64 l[j].s) := by
  obtain ⟨_, _, e, _, _, e3⟩ := h.below hb
  cases e
  rcases e3 with e3 | ⟨g', off', e, e3⟩
  · omega
  · cases e; exact e3 j hj
theorem Rs.at {g off cap : Nat} {N : Nat} {L : List Sl} {w w' : World} (h : Rs (.slice (some ⟨g, off, none⟩) N cap) L w) (hb : Below w.heap.size w w') {j : Nat} (hj : j < L.length) :
    w'.cell? ⟨g, off + j, none⟩ = some (.slice L[j].a L[j].l.length L[j].cap) ∧ Ru (.slice L[j].a L[j].l.length L[j].cap) L[j].l w' := by
  obtain ⟨_, _, e, h3⟩ := h
  cases e
  rcases h3 with h3 | ⟨g', off', e, h3⟩
  · omega
  · cases e
    obtain ⟨hc, hr⟩ := h3 j hj
    exact ⟨(World.cell?_of_block (w := w) (hb.block g (World.block_lt_of_cell? _ _ hc))).trans hc, hr.below hb⟩
theorem Ru.lt {w : World} {x : Value} {l : List Upd} (h : Ru x l w) (hl : l.length ≠ 0) : ∀ g, x.ownBlock = some g → g < w.heap.size := fun g e => by
  obtain ⟨a, cap, rfl, _, _, h3⟩ := h
  rcases h3 with h3 | ⟨g', off, rfl, h3⟩
  · exact absurd h3 hl
  · have := World.block_lt_of_cell? _ _ (h3 0 (by omega)).1
    have : g' = g := by simpa [Value.ownBlock] using e
    simp at *
    omega

set_option maxRecDepth 100000 in
set_option maxHeartbeats 4000000 in
theorem acts_core (k : Nat) (hk : k < 64) (node : Int) (a b : Option Addr) (capa capb : Nat) (l : List Upd) (L : List Sl) (w : World) (hTb : Bnd.Tab w) (hU : Ru (.slice a l.length capa) l w) (hV : Rs (.slice b L.length capb) L w) (hin : ∀ u ∈ l, InOk u) (hin2 : ∀ s ∈ L, ∀ u ∈ s.l, InOk u) (hl : (l.length : Int) ≤ 100) (hL : (L.length : Int) ≤ 10) :
    Calls Tryd.prog 3 #[.int .i64 k, .slice a l.length capa, .slice b L.length capb, .int .i64 node] w fun e w' => e = .returned (.bool true) ∧ Below w.heap.size w w' := by
  obtain ⟨_, _, e, _, _, h3⟩ := id hU
  cases e
  obtain ⟨_, _, e, h4⟩ := id hV
  cases e
  go_enter Tryd.func3, Tryd.ntmps3
  go_wp2_with fail
  refine (shown_any _).mono ?_
  rintro e w1 ⟨rfl, hb1⟩
  go_wp2_with fail
  refine (new_any _ _).mono ?_
  rintro e w2 ⟨hN, _, hb2⟩
  obtain ⟨p, rfl, hp, hR2⟩ := hN k rfl hk
  clear hN
  go_wp2_with fail
  refine (rnew_some k hk _).mono ?_
  rintro e w3 ⟨⟨q, rfl, hq, v, hF3⟩, hb3⟩
  have hA : Ac w w2.heap.size p q k (tabK [⟨k, 0, 0⟩]) v [⟨k, 0, 0⟩] w3 := by
    refine ⟨?_, hF3, good_new hk, hR2.lt, hq, hb3.size, Nat.le_trans hb1.size hp, hb1.trans ((hb2.trans (hb3.mono hb2.size)).mono hb1.size)⟩
    rw [tabK_new]
    exact hR2.below hb3
  have hwB : w.heap.size ≤ w2.heap.size := Nat.le_trans hb1.size hb2.size
  generalize hBB : w2.heap.size = B at *
  generalize hKK : ([⟨k, 0, 0⟩] : List Upd) = K0 at *
  clear hb1 hb2 hb3 hR2 hF3 hp hq hBB hKK
  go_wp2_with fail
  go_loopg [11] l.length (fun gk t11 wr => ∃ (j : Nat) (v : Value) (K : List Upd), j + gk = l.length ∧ t11 = .int .i64 j ∧ Ac w B p q k (tabK K) v K wr)
  case atStart => exact ⟨0, v, K0, by omega, rfl, hA⟩
  case round =>
    obtain ⟨j, v', K, hj, rfl, hH⟩ := hrel
    clear hA
    by_cases hlt : (j : Int) < l.length
    · have hj' : j < l.length := by omega
      have j0 : (0 : Int) ≤ j := by omega
      rcases h3 with h3 | ⟨gb, off, rfl, h3⟩
      · omega
      clear h3
      have hcell := fun w' (hb : Below w.heap.size w w') => hU.at hb hj'
      have hiu := hin l[j] (List.getElem_mem hj')
      generalize l[j] = u at *
      obtain ⟨x0, x1, x2⟩ := hcell _ hH.below
      have hE := hear_any p k (tabK K) u hk hiu.1 hiu.2 wr hH.roll
      have hF := fun w' (h : Rf B q k v' K w') (hB : B ≤ w'.heap.size) => rhear_any B q k v' K u w' hH.good hiu hB h
      generalize hearS k (tabK K) u = s at *
      obtain ⟨⟨s1, s2⟩, f'⟩ := s
      dsimp only at hE hF
      go_wp2_with fail
      refine hE.mono ?_
      rintro e w4 ⟨rfl, hR4, hb4⟩
      have hA4 := hH.first hR4 hb4
      clear hR4 hb4 x0 x1 x2 hE hH
      obtain ⟨x0, x1, x2⟩ := hcell _ hA4.below
      go_wp2_with fail
      refine (hF _ hA4.rf hA4.hB).mono ?_
      rintro e w5 ⟨rfl, v5, K5, hK5, hG5, hR5, hM5⟩
      subst hK5
      have hA5 := hA4.second hG5 hR5 hM5
      clear hA4 hR5 hM5 hG5 hF x0 x1 x2 hcell
      have hS := same_roll w B p q k v5 K5 w5 hTb hA5
      go_wp2_with fail
      refine hS.mono ?_
      rintro e w6 ⟨rfl, hb6⟩
      have hA6 := hA5.later hb6
      go_wp2_with fail
      go_roundg (gk - 1)
      case rel => exact ⟨j + 1, v5, K5, by omega, by go_num, hA6⟩
      case measure => omega
    · clear h3 hU hin
      go_wp2_with fail
      go_loopg [16] L.length (fun gk t16 wr => ∃ (i : Nat) (v : Value) (K : List Upd), i + gk = L.length ∧ t16 = .int .i64 i ∧ Ac w B p q k (tabK K) v K wr)
      case atStart => exact ⟨0, v', K, by omega, rfl, hH⟩
      case round =>
        obtain ⟨i, v1, K1, hi, rfl, hH1⟩ := hrel
        clear hH
        by_cases hlt2 : (i : Int) < L.length
        · have hi' : i < L.length := by omega
          have i0 : (0 : Int) ≤ i := by omega
          rcases h4 with h4 | ⟨gb, off, rfl, h4⟩
          · omega
          clear h4
          have hcell := fun w' (hb : Below w.heap.size w w') => hV.at hb hi'
          have hiu := hin2 L[i] (List.getElem_mem hi')
          generalize L[i] = S at *
          obtain ⟨sa, sc, sl⟩ := S
          dsimp only at hcell hiu
          obtain ⟨x0, hs0⟩ := hcell _ (Below.refl _ _)
          have hslt := fun h => Ru.lt hs0 h
          clear x0
          obtain ⟨x0, hs1⟩ := hcell _ hH1.below
          by_cases hbig : (100 : Int) < sl.length
          · go_wp2_with fail
            refine (shown_any _).mono ?_
            rintro e w4 ⟨rfl, hb4⟩
            have hA4 := hH1.later hb4
            go_wp2_with fail
            go_ret
            exact ⟨rfl, hA4.below⟩
          · have hsl : sl.length ≤ 100 := by omega
            have hE := merge_any p k (tabK K1) (.slice sa sl.length sc) sl hk wr hH1.roll hs1 (fun h e => by have h1 := hslt h p e; have := hH1.lp; omega) (by omega) hiu
            have hF := fun w' (c : Ac w B p q k (hearAllS k (tabK K1) sl).2 v1 K1 w') (hs : Ru (.slice sa sl.length sc) sl w') => rmerge_any B q k v1 K1 (.slice sa sl.length sc) sl w' c.good c.hB c.hq c.rf hs (fun h g e => by have := hslt h g e; omega) (by omega) hiu
            have hnl : ∀ f g e, (newsS f g e).length ≤ 64 := by
              intro f g e
              unfold newsS
              split
              · exact pickN_length _ _ 64
              · exact Nat.zero_le _
            go_wp2_with fail
            refine hE.mono ?_
            generalize hearAllS k (tabK K1) sl = s at *
            obtain ⟨s1, f'⟩ := s
            dsimp only at hF ⊢
            have hnl := hnl (tabK K1) f' s1
            generalize newsS (tabK K1) f' s1 = NEWS at *
            rintro e w4 ⟨⟨v4, rfl, hO4⟩, hR4, hb4⟩
            have hA4 := hH1.first hR4 hb4
            have hq1 := hH1.rf.lt
            have hro : ∀ g, v1.ownBlock = some g → g < wr.heap.size := fun g e => (hH1.rf.row.lt g e).2
            clear hR4 hb4 x0 hE hH1
            obtain ⟨x0, hs4⟩ := hcell _ hA4.below
            go_wp2_with fail
            refine (hF _ hA4 hs4).mono ?_
            rintro e w5 ⟨v5, rfl, hO5, v6, K6, hK6, hG6, hR6, hM6, _⟩
            subst hK6
            have hA5 := hA4.second hG6 hR6 hM6
            have hO4' := hO4.mv (q := q) (v := v1) (fun g e => ⟨fun e' => by have := (hO4.lt g e).1; omega, fun e' => by have h1 := (hO4.lt g e).1; have h2 := hro g e'.symm; omega⟩) hM6
            clear hA4 hR6 hM6 hG6 hF x0 hs4 hcell hro
            go_wp2_with fail
            refine (same_any _ _ NEWS w5 (by omega) hO4'.ru hO5.ru).mono ?_
            rintro e w6 ⟨rfl, hb6⟩
            have hA6 := hA5.later hb6
            have hS := same_roll w B p q k v6 K6 w6 hTb hA6
            clear hA5 hO4 hO4' hO5
            go_wp2_with fail
            refine hS.mono ?_
            rintro e w7 ⟨rfl, hb7⟩
            have hA7 := hA6.later hb7
            go_wp2_with fail
            go_roundg (gk - 1)
            case rel => exact ⟨i + 1, v6, K6, by omega, by go_num, hA7⟩
            case measure => omega
        · clear h4 hV hin2
          have hG1 := fun w' (c : Ac w B p q k (tabK K1) v1 K1 w') => get_any p k node (tabK K1) w' c.roll
          have hl1 := hH1.good.len
          have hG2 := fun w' (c : Ac w B p q k (tabK K1) v1 K1 w') => rget_any B q k v1 K1 node w' (by omega) c.rf
          rw [getK_get hH1.good.inv hH1.good.nod hH1.good.pos] at hG2
          have hq := run_eqlU (ud (getS (tabK K1) node)) (ud (getS (tabK K1) node))
          rw [eqU_refl] at hq
          generalize ud (getS (tabK K1) node) = u at *
          generalize (getS (tabK K1) node).isSome = c at *
          go_wp2_with fail
          refine (hG1 _ hH1).mono ?_
          rintro e w4 ⟨rfl, hb4⟩
          have ba := below_alloc w4 (.cells #[.int .i64 u.n, .int .u64 u.i, .int .i64 u.s] 34)
          have hX := Bx.new 34 u.n u.i u.s w4
          have hA4 := (hH1.later hb4).later ba
          clear hb4 ba hH1
          go_wp2_with fail
          refine (hG2 _ hA4).mono ?_
          rintro e w5 ⟨rfl, hb5⟩
          have ba := below_alloc w5 (.cells #[.int .i64 u.n, .int .u64 u.i, .int .i64 u.s] 34)
          have hX2 := (hX.below hb5).below ba
          have hY := Bx.new 34 u.n u.i u.s w5
          have hA5 := (hA4.later hb5).later ba
          clear hb5 ba hA4 hX
          have x0 := hX2.c0
          have x1 := hX2.c1
          have x2 := hX2.c2
          have y0 := hY.c0
          have y1 := hY.c1
          have y2 := hY.c2
          have hS := same_roll w B p q k v1 K1 _ hTb hA5
          go_wp2_with fail
          refine hS.mono ?_
          rintro e w6 ⟨rfl, hb6⟩
          have hA6 := hA5.later hb6
          go_wp2_with fail
          go_ret
          exact ⟨rfl, hA6.below⟩

set_option maxRecDepth 100000 in
set_option maxHeartbeats 1000000 in
theorem acts_none (me node : Int) (hme : ¬ (0 ≤ me ∧ me < 64)) (a b : Option Addr) (lena capa lenb capb : Nat) (w : World) (hl : ¬ (100 : Int) < lena) (hL : ¬ (10 : Int) < lenb) :
    Calls Tryd.prog 3 #[.int .i64 me, .slice a lena capa, .slice b lenb capb, .int .i64 node] w fun e w' => e = .returned (.bool true) ∧ Below w.heap.size w w' := by
  go_enter Tryd.func3, Tryd.ntmps3
  go_wp2_with fail
  refine (shown_any _).mono ?_
  rintro e w1 ⟨rfl, hb1⟩
  go_wp2_with fail
  refine (new_any _ _).mono ?_
  rintro e w2 ⟨_, hN, hb2⟩
  obtain rfl := hN hme
  go_wp2_with fail
  refine (rnew_none me hme _).mono ?_
  rintro e w3 ⟨rfl, hb3⟩
  have hb := hb1.trans ((hb2.trans (hb3.mono hb2.size)).mono hb1.size)
  clear hN
  go_wp2_with fail
  go_ret
  exact ⟨rfl, hb⟩
set_option maxRecDepth 100000 in
theorem acts_long (me node : Int) (a b : Option Addr) (lena capa lenb capb : Nat) (w : World) (hl : (100 : Int) < lena) :
    Calls Tryd.prog 3 #[.int .i64 me, .slice a lena capa, .slice b lenb capb, .int .i64 node] w fun e w' => e = .returned (.bool true) ∧ Below w.heap.size w w' := by
  go_enter Tryd.func3, Tryd.ntmps3
  go_wp2_with (go_at_call 5; refine (shown_any _).mono ?_; rintro e w1 ⟨rfl, hb1⟩)
  go_ret
  exact ⟨rfl, hb1⟩
set_option maxRecDepth 100000 in
theorem acts_long2 (me node : Int) (a b : Option Addr) (lena capa lenb capb : Nat) (w : World) (hl : ¬ (100 : Int) < lena) (hL : (10 : Int) < lenb) :
    Calls Tryd.prog 3 #[.int .i64 me, .slice a lena capa, .slice b lenb capb, .int .i64 node] w fun e w' => e = .returned (.bool true) ∧ Below w.heap.size w w' := by
  go_enter Tryd.func3, Tryd.ntmps3
  go_wp2_with (go_at_call 5; refine (shown_any _).mono ?_; rintro e w1 ⟨rfl, hb1⟩)
  go_ret
  exact ⟨rfl, hb1⟩

theorem acts_walk (me : Int) (a : Option Addr) (lena capa : Nat) (l : List Upd) (b : Option Addr) (lenb capb : Nat) (L : List Sl) (node : Int) (_ : (Lit.int .i64 me).wf = true) (_ : (Lit.int .i64 node).wf = true) (w : World) (hU : IsUpds w a lena capa l) (hV : IsSls w b lenb capb L) (hT : Bnd.Tab w) :
    Calls Tryd.prog 3 #[.int .i64 me, .slice a lena capa, .slice b lenb capb, .int .i64 node] w fun e w' => e = .returned (.bool true) ∧ Below w.heap.size w w' := by
  have hin := hU.inok
  obtain ⟨rfl, hR, _⟩ := hU
  obtain ⟨rfl, hS, hin2⟩ := hV
  by_cases hl : (100 : Int) < l.length
  · exact acts_long me node a b _ _ _ _ w hl
  · by_cases hL : (10 : Int) < L.length
    · exact acts_long2 me node a b _ _ _ _ w hl hL
    · by_cases hm : 0 ≤ me ∧ me < 64
      · obtain ⟨k, rfl⟩ : ∃ k : Nat, me = k := ⟨me.toNat, by omega⟩
        exact acts_core k (by omega) node a b capa capb l L w hT hR hS hin hin2 (by omega) (by omega)
      · exact acts_none me node hm a b _ _ _ _ w hl hL
end Go.Proofs.YtkodeahhckibmaaDoor
