/-
  The reference's Merge.
-/
import Derived.Test.YtkodeahhckibmaaDoorRhr
namespace Go.Proofs.YtkodeahhckibmaaDoor
open Go.RowKit

theorem Ru.mv {B q : Nat} {x v v' : Value} {l K : List Upd} {w w' : World} (h : Ru x l w) (hx : l.length ≠ 0 → ∀ g, x.ownBlock = some g → g < B) (hq : B ≤ q) (hO : Own B v K w) (m : Mv q v v' w w') : Ru x l w' := by
  by_cases h0 : l.length = 0
  · obtain ⟨a, cap, rfl, h1, h2, _⟩ := h
    exact ⟨a, cap, rfl, h1, h2, Or.inl h0⟩
  · refine h.keep fun g e hg => m.block g hg ?_ ?_
    · have := hx h0 g e; omega
    · intro e'
      have h1 := hx h0 g e
      have h2 := (hO.lt g e'.symm).1
      omega
theorem Own.mv {B q : Nat} {x v v' : Value} {l : List Upd} {w w' : World} (h : Own B x l w) (hx : ∀ g, x.ownBlock = some g → g ≠ q ∧ some g ≠ v.ownBlock) (m : Mv q v v' w w') : Own B x l w' :=
  h.keep fun g e hg => m.block g hg (hx g e).1 (hx g e).2
/-- A row that lies apart lies apart behind the step, too. -/
theorem Mv.apart {q : Nat} {x v v' : Value} {w w' : World} (m : Mv q v v' w w') (hl : ∀ g, x.ownBlock = some g → g < w.heap.size) (hx : ∀ g, x.ownBlock = some g → g ≠ q ∧ some g ≠ v.ownBlock) : ∀ g, x.ownBlock = some g → g ≠ q ∧ some g ≠ v'.ownBlock := fun g e => by
  refine ⟨(hx g e).1, fun e' => ?_⟩
  rcases m.own with h | ⟨g', h, hg'⟩
  · exact (hx g e).2 (e'.trans h)
  · have : g = g' := Option.some.inj (e'.trans h)
    have := hl g e
    omega

/-- What is in l, and not in old. -/
def outS (old l : List Upd) : List Upd := l.filter fun u => !old.any fun v => eqU v u
theorem outS_take (old l : List Upd) (j : Nat) (hj : j < l.length) : outS old (l.take (j + 1)) = outS old (l.take j) ++ if (old.any fun v => eqU v l[j]) then [] else [l[j]] := by
  unfold outS
  rw [List.take_add_one, List.getElem?_eq_getElem hj, List.filter_append]
  congr 1
  cases h : (old.any fun v => eqU v l[j]) <;> simp [h]
theorem outS_len (old l : List Upd) (j : Nat) : (outS old (l.take j)).length ≤ j := by
  have := List.length_filter_le (fun u : Upd => !old.any fun v => eqU v u) (l.take j)
  have h2 := List.length_take_le j l
  unfold outS
  omega
theorem any_take_succ (old : List Upd) (u : Upd) (j : Nat) (hj : j < old.length) : ((old.take (j + 1)).any fun v => eqU v u) = (((old.take j).any fun v => eqU v u) || eqU old[j] u) := by
  rw [List.take_add_one, List.getElem?_eq_getElem hj, List.any_append]
  simp

/-- What the first loop of Merge keeps. -/
structure Mg (w0 : World) (B q k : Nat) (v0 v : Value) (K : List Upd) (x : Value) (l : List Upd) (o : Value) (old : List Upd) (w : World) : Prop where
  good : Good k K
  rf : Rf B q k v K w
  mv : Mv q v0 v w0 w
  arg : Ru x l w
  old : Own w0.heap.size o old w
  oap : ∀ g, o.ownBlock = some g → g ≠ q ∧ some g ≠ v.ownBlock

set_option maxRecDepth 100000 in
set_option maxHeartbeats 2000000 in
theorem rmerge_any (B q k : Nat) (v : Value) (K : List Upd) (x : Value) (l : List Upd) (w : World) (hG : Good k K) (hB : B ≤ w.heap.size) (hqB : B ≤ q) (hR : Rf B q k v K w) (hU : Ru x l w) (hx : l.length ≠ 0 → ∀ g, x.ownBlock = some g → g < B) (hl : l.length ≤ 100000) (hin : ∀ u ∈ l, InOk u) :
    Calls Tryd.prog 12 #[.pointer (some ⟨q, 0, none⟩), x] w fun e w' => ∃ v', e = .returned (.tuple #[v', .int .i64 (hearAllS k (tabK K) l).1]) ∧ Own w.heap.size v' (newsS (tabK K) (hearAllS k (tabK K) l).2 (hearAllS k (tabK K) l).1) w' ∧ ∃ v2 K', tabK K' = (hearAllS k (tabK K) l).2 ∧ Good k K' ∧ Rf B q k v2 K' w' ∧ Mv q v v2 w w' ∧ (∀ g, v'.ownBlock = some g → g ≠ q ∧ some g ≠ v2.ownBlock) := by
  have hgr := hearAll_grow l hG.inv hin
  have hIn := hearAll_inv l hG.inv hin
  have hA := rall_any B q k v K w (by have := hG.len; omega) hR
  have hlen0 := allS_length (tabK K)
  have hnews : (hearAllS k (tabK K) l).1 = 0 → newsS (tabK K) (hearAllS k (tabK K) l).2 (hearAllS k (tabK K) l).1 = outS (allS (tabK K)) (allS (hearAllS k (tabK K) l).2) := fun h => by
    rw [h]; exact (news_ref hG.inv hIn hgr).symm
  have hnil : (hearAllS k (tabK K) l).1 = 60 → newsS (tabK K) (hearAllS k (tabK K) l).2 (hearAllS k (tabK K) l).1 = [] := fun h => by rw [h]; rfl
  have hst0 : Hid (hearAllS k (tabK K) (l.drop 0) = hearAllS k (tabK K) l) := by show _ = _; rw [List.drop_zero]
  generalize hearAllS k (tabK K) l = r at *
  obtain ⟨e0, f2⟩ := r
  dsimp only at hgr hIn hnews hnil ⊢
  generalize newsS (tabK K) f2 e0 = NEWS at *
  generalize hOLD : allS (tabK K) = OLD at *
  clear hOLD
  obtain ⟨a, cap, rfl, hc1, hc2, h3⟩ := id hU
  have hll : (l.length : Int) ≤ 100000 := by omega
  go_enter Tryd.func12, Tryd.ntmps12
  go_wp2_with fail
  refine hA.mono ?_
  rintro e w1 ⟨⟨vo, rfl, hO1⟩, hb1⟩
  have hM1 : Mg w B q k v v K (.slice a l.length cap) l vo OLD w1 := ⟨hG, hR.below hb1, Mv.of hb1, hU.below hb1, hO1, fun g e => by
    have h1 := (hO1.lt g e).1
    refine ⟨fun e' => by have := hR.lt; omega, fun e' => ?_⟩
    have := (hR.row.lt g e'.symm).2
    omega⟩
  clear hA hO1 hb1
  go_wp2_with fail
  go_loopg [7] l.length (fun gk t7 wr => ∃ (j : Nat) (v' : Value) (K' : List Upd), j + gk = l.length ∧ t7 = .int .i64 j ∧ Hid (hearAllS k (tabK K') (l.drop j) = (e0, f2)) ∧ Mg w B q k v v' K' (.slice a l.length cap) l vo OLD wr)
  case atStart => exact ⟨0, v, K, by omega, rfl, hst0, hM1⟩
  case round =>
    obtain ⟨j, v', K', hj, rfl, hr, hM⟩ := hrel
    clear hM1 hst0
    by_cases hlt : (j : Int) < l.length
    · have hj' : j < l.length := by omega
      have j0 : (0 : Int) ≤ j := by omega
      rcases h3 with h3 | ⟨gb, off, rfl, h3⟩
      · omega
      clear h3
      obtain ⟨x0, x1, x2⟩ : wr.cell? ⟨gb, off + j * 3, none⟩ = some (.int .i64 l[j].n) ∧ wr.cell? ⟨gb, off + j * 3 + 1, none⟩ = some (.int .u64 l[j].i) ∧ wr.cell? ⟨gb, off + j * 3 + 2, none⟩ = some (.int .i64 l[j].s) := by
        obtain ⟨_, _, e, _, _, e3⟩ := hM.arg
        cases e
        rcases e3 with e3 | ⟨g', off', e, e3⟩
        · omega
        · cases e; exact e3 j hj'
      have hiu := hin l[j] (List.getElem_mem hj')
      have hst : Hid ((e0, f2) = _) := hr.out.symm.trans (hearAllS_drop k (tabK K') l j hj')
      clear hr
      have hH := rhear_any B q k v' K' l[j] wr hM.good hiu (Nat.le_trans hB hM.mv.size) hM.rf
      generalize l[j] = u at *
      go_wp2_with fail
      refine hH.mono ?_
      generalize hearS k (tabK K') u = s at *
      obtain ⟨⟨s1, s2⟩, f'⟩ := s
      rintro e w2 ⟨rfl, v2, K2, hK2, hG2, hR2, hMv2⟩
      dsimp only at hst hK2 ⊢
      subst hK2
      have hM2 : Mg w B q k v v2 K2 (.slice (some ⟨gb, off, none⟩) l.length cap) l vo OLD w2 :=
        ⟨hG2, hR2, hM.mv.trans hMv2, hM.arg.mv hx hqB hM.rf.row hMv2, hM.old.mv hM.oap hMv2, hMv2.apart (fun g e => (hM.old.lt g e).2) hM.oap⟩
      clear hH hM hG2 hR2 hMv2 x0 x1 x2
      cases hq : (s2 == 60)
      case false =>
        rw [hq] at hst
        go_wp2_with fail
        go_roundg (gk - 1)
        case rel => exact ⟨j + 1, v2, K2, by omega, by go_num, hst.out.symm, hM2⟩
        case measure => omega
      case true =>
        obtain rfl : s2 = 60 := by simpa using hq
        have hst' : (e0, f2) = (60, tabK K2) := by rw [hst.out]; rfl
        obtain ⟨rfl, rfl⟩ := Prod.mk.inj hst'
        have HN : Hid _ := hnil rfl
        clear hq hst hst' hnews hnil
        go_wp2_with fail
        go_ret2
        exact ⟨_, rfl, by rw [HN.out]; exact Own.nil _ _, v2, K2, rfl, hM2.good, hM2.rf, hM2.mv, fun g e => by cases e⟩
    · obtain rfl : j = l.length := by omega
      have hr' : (e0, f2) = (0, tabK K') := by rw [← hr.out, List.drop_length]; rfl
      obtain ⟨rfl, rfl⟩ := Prod.mk.inj hr'
      have HN : Hid _ := hnews rfl
      clear hr hr' hnews hnil h3 hin
      have hA := rall_any B q k v' K' wr (by have := hM.good.len; omega) hM.rf
      have hlen1 := allS_length (tabK K')
      generalize hNOW : allS (tabK K') = NOW at *
      clear hNOW
      go_wp2_with fail
      refine hA.mono ?_
      rintro e w5 ⟨⟨vn, rfl, hO5⟩, hb5⟩
      have hold : Ru vo OLD w5 := (hM.old.below hb5).ru
      have hnow : Ru vn NOW w5 := hO5.ru
      have hend : Good k K' ∧ Rf B q k v' K' w5 ∧ Mv q v v' w w5 := ⟨hM.good, hM.rf.below hb5, hM.mv.trans (Mv.of hb5)⟩
      have hz5 : w.heap.size ≤ w5.heap.size := hend.2.2.size
      obtain ⟨ao, co, rfl, _, _, ko⟩ := id hold
      obtain ⟨an, cn, rfl, _, _, kn⟩ := id hnow
      have lo : (OLD.length : Int) ≤ 64 := by omega
      have ln : (NOW.length : Int) ≤ 64 := by omega
      clear hA hO5 hM hb5
      go_wp2_with fail
      go_loopg [11, 12] NOW.length (fun gk t11 t12 wr => ∃ i : Nat, i + gk = NOW.length ∧ t12 = .int .i64 i ∧ Own w5.heap.size t11 (outS OLD (NOW.take i)) wr ∧ Below w5.heap.size w5 wr)
      case atStart => exact ⟨0, by omega, rfl, Own.empty (heap_alloc_new w5 _) (Nat.le_refl _), below_alloc _ _⟩
      case round =>
        obtain ⟨i, hi, rfl, hO, hBl⟩ := hrel
        by_cases hlt2 : (i : Int) < NOW.length
        · have hi' : i < NOW.length := by omega
          have i0 : (0 : Int) ≤ i := by omega
          rcases kn with kn | ⟨gn, on, rfl, kn⟩
          · omega
          have hcn : ∀ w', Below w5.heap.size w5 w' → w'.cell? ⟨gn, on + i * 3, none⟩ = some (.int .i64 NOW[i].n) ∧ w'.cell? ⟨gn, on + i * 3 + 1, none⟩ = some (.int .u64 NOW[i].i) ∧ w'.cell? ⟨gn, on + i * 3 + 2, none⟩ = some (.int .i64 NOW[i].s) := by
            intro w' hb
            obtain ⟨_, _, e, _, _, e3⟩ := hnow.below hb
            cases e
            rcases e3 with e3 | ⟨g', off', e, e3⟩
            · omega
            · cases e; exact e3 i hi'
          have hot := outS_take OLD NOW i hi'
          have hol := outS_len OLD NOW i
          have HOT : Hid _ := hot
          clear hot kn
          generalize NOW[i] = u at *
          generalize hMM : outS OLD (NOW.take i) = M at *
          have HMM : Hid _ := hMM
          clear hMM
          go_wp2_with fail
          go_loopg [13, 14] OLD.length (fun gk t13 t14 wr => ∃ (j : Nat) (th : Bool), j + gk = OLD.length ∧ t14 = .int .i64 j ∧ t13 = .bool th ∧ Hid (((OLD.take j).any fun y => eqU y u) = th) ∧ Own w5.heap.size u11 M wr ∧ Below w5.heap.size w5 wr)
          case atStart => exact ⟨0, false, by omega, rfl, rfl, rfl, hO, hBl⟩
          case round =>
            obtain ⟨j, th, hj, rfl, rfl, hth, hO2, hB2⟩ := hrel
            clear hO hBl
            by_cases hlt3 : (j : Int) < OLD.length
            · have hj' : j < OLD.length := by omega
              have j0 : (0 : Int) ≤ j := by omega
              rcases ko with ko | ⟨go, oo, rfl, ko⟩
              · omega
              clear ko
              obtain ⟨d0, d1, d2⟩ : wr.cell? ⟨go, oo + j * 3, none⟩ = some (.int .i64 OLD[j].n) ∧ wr.cell? ⟨go, oo + j * 3 + 1, none⟩ = some (.int .u64 OLD[j].i) ∧ wr.cell? ⟨go, oo + j * 3 + 2, none⟩ = some (.int .i64 OLD[j].s) := by
                obtain ⟨_, _, e, _, _, e3⟩ := hold.below hB2
                cases e
                rcases e3 with e3 | ⟨g', off', e, e3⟩
                · omega
                · cases e; exact e3 j hj'
              obtain ⟨c0, c1, c2⟩ := hcn _ hB2
              have hq := run_eqlU OLD[j] u
              have hat := any_take_succ OLD u j hj'
              rw [hth.out] at hat
              generalize OLD[j] = y at *
              generalize eqU y u = eq at *
              have HAT : Hid _ := hat
              clear hat
              cases th
              case true =>
                go_wp2_with fail
                go_quiet (fail)
                have hO3 := hO2.below (below_drewN _ _ nq)
                have hB3 := hB2.trans (below_drewN _ _ nq)
                go_wp2_with fail
                go_roundg (OLD.length - (j + 1))
                case rel => exact ⟨j + 1, true, by omega, by go_num, rfl, by show _ = _; rw [HAT.out]; rfl, hO3, hB3⟩
                case measure => omega
              case false =>
                go_wp2_with fail
                go_quiet (fail)
                have hO3 := hO2.below (below_drewN _ _ nq)
                have hB3 := hB2.trans (below_drewN _ _ nq)
                go_wp2_with fail
                go_roundg (OLD.length - (j + 1))
                case rel => exact ⟨j + 1, eq, by omega, by go_num, rfl, by show _ = _; rw [HAT.out]; rfl, hO3, hB3⟩
                case measure => omega
            · obtain rfl : j = OLD.length := by omega
              have hth' := hth.out
              rw [List.take_length] at hth'
              cases th
              case true =>
                have HT : Hid (outS OLD (NOW.take (i + 1)) = M) := by show _ = _; rw [HOT.out, hth']; simp
                go_wp2_with fail
                go_roundg (NOW.length - (i + 1))
                case rel => exact ⟨i + 1, by omega, by go_num, by rw [HT.out]; exact hO2, hB2⟩
                case measure => omega
              case false =>
                have HT : Hid (outS OLD (NOW.take (i + 1)) = M ++ [u]) := by show _ = _; rw [HOT.out, hth']; simp
                obtain ⟨c0, c1, c2⟩ := hcn _ hB2
                have bc := below_alloc wr (.cells #[.int .i64 u.n, .int .u64 u.i, .int .i64 u.s] 34)
                have hO3 := hO2.below bc
                have hB3 := hB2.trans (bc.mono hB2.size)
                have hU3 := Ru.one (u := u) (Bx.new 34 u.n u.i u.s wr)
                have hz3 := hB3.size
                go_wp2_with (at_builtin; refine wpList_app _ rfl (.tmp 64) (.tmp 69) rfl w5.heap.size _ M rfl hO3 hz3 wr.heap.size 0 1 [u] 1 rfl rfl hU3 (by simp; omega) ?_; intro v9 w9 h1 h3 h4)
                have hB4 : Below w5.heap.size w5 w9 := hB3.trans ⟨h3.os, h3.tape, h3.output, h3.size, fun z hz => h3.block z (by omega) (fun e => by have := (hO3.lt z e.symm).1; omega)⟩
                clear h3 h4 hU3 hO3 hB3
                go_roundg (NOW.length - (i + 1))
                case rel => exact ⟨i + 1, by omega, by go_num, by rw [HT.out]; exact h1, hB4⟩
                case measure => omega
        · obtain rfl : i = NOW.length := by omega
          rw [List.take_length] at hO
          obtain ⟨g1, g2, g3⟩ := hend
          go_wp2_with fail
          go_ret2
          refine ⟨_, rfl, by rw [HN.out]; exact hO.mono hz5, v', K', rfl, g1, g2.below hBl, g3.trans (Mv.of hBl), fun g e => ?_⟩
          have h1 := (hO.lt g e).1
          refine ⟨fun e' => by have := g2.lt; omega, fun e' => ?_⟩
          have := (g2.row.lt g e'.symm).2
          omega
end Go.Proofs.YtkodeahhckibmaaDoor
