/-
  Over: its closure, and it.
-/
import Derived.Test.YtahiiieifdhgeaaDal
import Derived.Test.YtahiiieifdhgeaaRow
namespace Go.Proofs.Ytahiiieifdhgeaa
open Go.RowKit Go.Maps Go.Sort Go.Shelf

def deadOf (x : Dbt) : Upd := ⟨x.n, x.i, 3⟩
theorem Own.mono {B C : Nat} {v : Value} {l : List Upd} {w : World} (h : Own C v l w) (hB : B ≤ C) : Own B v l w := by
  refine ⟨h.1, ?_⟩
  rcases h.2 with hn | ⟨g, cap, cur, e, hb, rest⟩
  · exact Or.inl hn
  · exact Or.inr ⟨g, cap, cur, e, Nat.le_trans hB hb, rest⟩
/-- What the doubts are when k of them have been gone through. -/
def goneD (L : List Dbt) (now : Int) (k : Nat) : List Dbt := stayD (L.take k) now ++ L.drop k
theorem gone_sub (L : List Dbt) (now : Int) (k : Nat) : List.Sublist (goneD L now k) L := by
  have h : List.Sublist (goneD L now k) (L.take k ++ L.drop k) := List.Sublist.append List.filter_sublist (List.Sublist.refl _)
  rwa [List.take_append_drop] at h
theorem gone_di {L : List Dbt} (h : Di L) (now : Int) (k : Nat) : Di (goneD L now k) := ⟨h.sort.sublist (gone_sub L now k), fun x hx => h.ok x ((gone_sub L now k).subset hx)⟩
theorem gone_mem {L : List Dbt} (now : Int) {k : Nat} (hk : k < L.length) : L[k] ∈ goneD L now k := by
  refine List.mem_append_right _ ?_
  rw [List.drop_eq_getElem_cons hk]
  exact List.mem_cons_self
theorem gone_stay {L : List Dbt} {now : Int} {k : Nat} (hk : k < L.length) (h : (decide (L[k].u ≤ now)) = false) : goneD L now (k + 1) = goneD L now k := by
  unfold goneD stayD
  rw [← List.take_append_getElem hk, List.filter_append, List.drop_eq_getElem_cons hk, List.filter_cons_of_pos (by simp only [h]; rfl)]
  simp
theorem gone_less {L : List Dbt} (hL : Di L) {now : Int} {k : Nat} (hk : k < L.length) (h : (decide (L[k].u ≤ now)) = true) : lessD (goneD L now k) L[k].n = goneD L now (k + 1) := by
  have hne : ∀ j (hj : j < L.length), j ≠ k → L[j].n ≠ L[k].n := fun j hj hjk => by
    rcases Nat.lt_or_ge j k with hlt | hge
    · have := List.pairwise_iff_getElem.1 hL.sort j k hj hk hlt; omega
    · have := List.pairwise_iff_getElem.1 hL.sort k j hk hj (by omega); omega
  unfold goneD lessD stayD
  rw [List.filter_append, List.drop_eq_getElem_cons hk, List.filter_cons_of_neg (by simp), ← List.take_append_getElem hk, List.filter_append, List.filter_cons_of_neg (by simp only [h]; decide), List.filter_nil, List.append_nil]
  congr 1
  · refine List.filter_eq_self.2 fun x hx => ?_
    obtain ⟨hx, _⟩ := List.mem_filter.1 hx
    obtain ⟨j, hj, rfl⟩ := List.getElem_of_mem hx
    rw [List.length_take] at hj
    rw [List.getElem_take]
    simpa using hne j (by omega) (by omega)
  · refine List.filter_eq_self.2 fun x hx => ?_
    obtain ⟨j, hj, rfl⟩ := List.getElem_of_mem hx
    rw [List.length_drop] at hj
    rw [List.getElem_drop]
    simpa using hne (k + 1 + j) (by omega) (by omega)
theorem gone_zero (L : List Dbt) (now : Int) : goneD L now 0 = L := by simp [goneD, stayD]
theorem gone_all (L : List Dbt) (now : Int) : goneD L now L.length = stayD L now := by simp [goneD]
theorem over_step {L : List Dbt} {now : Int} {k : Nat} (hk : k < L.length) : (overD (L.take (k + 1)) now).map deadOf = (overD (L.take k) now).map deadOf ++ (if L[k].u ≤ now then [deadOf L[k]] else []) := by
  unfold overD
  rw [← List.take_append_getElem hk, List.filter_append, List.map_append]
  congr 1
  by_cases h : L[k].u ≤ now
  · rw [if_pos h, List.filter_cons_of_pos (by simpa using h)]; rfl
  · rw [if_neg h, List.filter_cons_of_neg (by simpa using h)]; rfl
theorem over_length (L : List Dbt) (now : Int) : (overD L now).length ≤ L.length := List.length_filter_le _ _

structure Cl (qn qd ql p b : Nat) (now : Int) (v : Value) (w : World) : Prop where
  n : w.heap[qn]? = some (.cells #[.int .u64 now] 32 (0, 0))
  d : w.heap[qd]? = some (.cells #[.pointer (some ⟨p, 0, none⟩)] 24 (0, 0))
  l : w.heap[ql]? = some (.cells #[v] 43 (0, 0))
theorem Cl.below {qn qd ql p b : Nat} {now : Int} {v : Value} {w w' : World} (h : Cl qn qd ql p b now v w) (hb : Below w.heap.size w w') : Cl qn qd ql p b now v w' :=
  ⟨(hb.block _ (Array.getElem?_eq_some_iff.1 h.n).1).trans h.n, (hb.block _ (Array.getElem?_eq_some_iff.1 h.d).1).trans h.d, (hb.block _ (Array.getElem?_eq_some_iff.1 h.l).1).trans h.l⟩

set_option maxRecDepth 100000 in
set_option maxHeartbeats 2000000 in
theorem over_no (qn qd ql p b : Nat) (now : Int) (v : Value) (x : Dbt) (hu : ¬ x.u ≤ now) (w : World) (hC : Cl qn qd ql p b now v w) :
    Calls Try.prog 34 #[dV x, .pointer (some ⟨qn, 0, none⟩), .pointer (some ⟨qd, 0, none⟩), .pointer (some ⟨ql, 0, none⟩)] w fun e w' => e = .returned (.tuple #[]) ∧ Below w.heap.size w w' := by
  have ba := below_alloc w (dC x 55)
  have hb := (Bd.new 55 x w).c6
  have hC1 := (hC.below ba).n
  have hcn : (w.alloc (dC x 55)).cell? ⟨qn, 0, none⟩ = some (.int .u64 now) := by simp [World.cell?, hC1]
  unfold dC at ba hb hcn
  unfold dV
  clear hC hC1
  go_enter Try.func34, Try.ntmps34
  go_wp2_with fail
  go_end0
  exact ⟨rfl, ba⟩

set_option maxRecDepth 100000 in
set_option maxHeartbeats 2000000 in
theorem over_yes (qn qd ql p b B : Nat) (now : Int) (v : Value) (l : List Upd) (L : List Dbt) (x : Dbt) (hx : DbtOk x) (hu : x.u ≤ now) (w : World) (hC : Cl qn qd ql p b now v w) (hQ : Du p (some b) L w) (hO : Own B v l w) (hB : B ≤ w.heap.size) (hpB : p < B) (hbB : b < B) (hqB : ql < B) (hl : l.length ≤ 64) :
    Calls Try.prog 34 #[dV x, .pointer (some ⟨qn, 0, none⟩), .pointer (some ⟨qd, 0, none⟩), .pointer (some ⟨ql, 0, none⟩)] w fun e w' => e = .returned (.tuple #[]) ∧ ∃ v', Cl qn qd ql p b now v' w' ∧ Du p (some b) (lessD L x.n) w' ∧ Own B v' (l ++ [deadOf x]) w' ∧ But B [ql, p, b] w w' := by
  have ba := below_alloc w (dC x 55)
  have hb := Bd.new 55 x w
  have hC1 := hC.below ba
  have hQ1 := hQ.below ba
  have hO1 := hO.below ba
  obtain ⟨w1, HW1⟩ : ∃ w1, Hid (w1 = w.alloc (dC x 55)) := ⟨_, rfl⟩
  rw [← HW1.out] at ba hb hC1 hQ1 hO1
  have hcn : w1.cell? ⟨qn, 0, none⟩ = some (.int .u64 now) := by simp [World.cell?, hC1.n]
  have hcd : w1.cell? ⟨qd, 0, none⟩ = some (.pointer (some ⟨p, 0, none⟩)) := by simp [World.cell?, hC1.d]
  have x0 := hb.c0
  have x6 := hb.c6
  have hdr := drop_some p b L x.n (wf_node hx.n0 hx.n1) w1 hQ1
  have hlt := hb.lt
  have hplt := hQ1.lt
  have hblt := hQ1.mlt b rfl
  have hgx : Hid (w.heap.size < w1.heap.size) := by rw [HW1.out]; show _ < _; simp
  have hqnp : qn ≠ p := fun e => by subst e; have := hC1.n; rw [hQ1.heap] at this; cases this
  have hqdp : qd ≠ p := fun e => by subst e; have := hC1.d; rw [hQ1.heap] at this; cases this
  have hqlp : ql ≠ p := fun e => by subst e; have := hC1.l; rw [hQ1.heap] at this; cases this
  have hqnb : b ≠ qn := (hQ1.some_ b rfl).ne_cells hC1.n
  have hqdb : b ≠ qd := (hQ1.some_ b rfl).ne_cells hC1.d
  have hqlb : b ≠ ql := (hQ1.some_ b rfl).ne_cells hC1.l
  have hqnl : qn ≠ ql := fun e => by subst e; have := hC1.n; rw [hC1.l] at this; cases this
  have hqdl : qd ≠ ql := fun e => by subst e; have := hC1.d; rw [hC1.l] at this; cases this
  have hnlt := (Array.getElem?_eq_some_iff.1 hC1.n).1
  have hdlt := (Array.getElem?_eq_some_iff.1 hC1.d).1
  have hllt := (Array.getElem?_eq_some_iff.1 hC1.l).1
  have hxlo : B ≤ w.heap.size := hB
  have hobn : v.ownBlock ≠ some qn := fun e => by
    rcases hO1.2 with ⟨rfl, _⟩ | ⟨g', cap, cur, rfl, _, hg', _⟩
    · cases e
    · have : g' = qn := by simpa [Value.ownBlock] using e
      subst this
      have := hC1.n
      rw [hg'] at this
      cases this
  have hobd : v.ownBlock ≠ some qd := fun e => by
    rcases hO1.2 with ⟨rfl, _⟩ | ⟨g', cap, cur, rfl, _, hg', _⟩
    · cases e
    · have : g' = qd := by simpa [Value.ownBlock] using e
      subst this
      have := hC1.d
      rw [hg'] at this
      cases this
  unfold dC at HW1
  unfold dV
  go_enter Try.func34, Try.ntmps34
  go_upto_region 1 with fail
  rw [← HW1.out]
  go_wp2_with fail
  refine hdr.mono ?_
  rintro e w2 ⟨rfl, hQ2, hmv⟩
  have hC2 : Cl qn qd ql p b now v w2 := ⟨(hmv.block qn hnlt hqnp (by simpa using Ne.symm hqnb)).trans hC1.n, (hmv.block qd hdlt hqdp (by simpa using Ne.symm hqdb)).trans hC1.d, (hmv.block ql hllt hqlp (by simpa using Ne.symm hqlb)).trans hC1.l⟩
  have hb2 := hb.keep (hmv.block _ hlt (by omega) (by simp; omega))
  have hO2 : Own B v l w2 := by
    refine ⟨hO1.1, ?_⟩
    rcases hO1.2 with hn | ⟨g, cap, cur, rfl, hb', hg, rest⟩
    · exact Or.inl hn
    · exact Or.inr ⟨g, cap, cur, rfl, hb', (hmv.block g (Array.getElem?_eq_some_iff.1 hg).1 (by omega) (by simp; omega)).trans hg, rest⟩
  have hs2 := hmv.size
  have hs1 := ba.size
  have hbut : But B [ql, p, b] w w2 := But.trans (But.of (ba.mono hB)) ⟨hmv.os, hmv.tape, hmv.output, hmv.size, fun k hk hn => hmv.block k (by omega) (fun e => hn (by simp [e])) (fun e => hn (by simp at e; simp [e]))⟩
  have y0 := hb2.c0
  have y1 := hb2.c1
  have hcl : w2.cell? ⟨ql, 0, none⟩ = some v := by simp [World.cell?, hC2.l]
  have bc := below_alloc w2 (.cells #[.int .i64 x.n, .int .u64 x.i, .int .i64 3] 34)
  have hY := Ru.one (u := deadOf x) (Bx.new 34 x.n x.i 3 w2)
  have hO3 := Own.below hO2 bc
  have hC3 := hC2.below bc
  have hQ3 := hQ2.below bc
  have hB3 : B ≤ (w2.alloc (.cells #[.int .i64 x.n, .int .u64 x.i, .int .i64 3] 34)).heap.size := by have := bc.size; omega
  have hbut3 : But B [ql, p, b] w (w2.alloc (.cells #[.int .i64 x.n, .int .u64 x.i, .int .i64 3] 34)) := hbut.trans (But.of (bc.mono (by omega)))
  clear ba hb hC hC1 hQ1 hO1 hdr hmv hC2 hb2 hbut bc hQ hO hQ2 hO2 x0 x6 hcn hcd
  generalize w.heap.size = gx at *
  go_wp2_with (at_builtin; refine wpList_app _ rfl (.tmp 14) (.tmp 22) rfl B _ l rfl hO3 hB3 w2.heap.size 0 1 [deadOf x] 1 rfl rfl hY (by simp; omega) ?_; intro v' w' h1 h3 h4; obtain ⟨a', M', cap', rfl⟩ : ∃ a' M' cap', v' = .slice a' M' cap' := (by obtain ⟨a', cap', e, _⟩ := Own.ru h1; exact ⟨_, _, _, e⟩); have hbw : w'.heap[ql]? = some (.cells #[v] 43 (0, 0)) := (h3.block ql (by omega) (fun e => by have := World.ownsRow.lt hO3 ql e.symm; omega)).trans hC3.l; have hz : w'.cell? ⟨ql, 0, none⟩ = some v := (by simp [World.cell?, hbw]); have hfz : w'.frozen? ⟨ql, 0, none⟩ = false := (by simp [World.frozen?, hbw]))
  go_end0
  have hk : ∀ k, k ≠ ql → (w'.setCell ⟨ql, 0, none⟩ (.slice a' M' cap')).heap[k]? = w'.heap[k]? := fun k hk => Below.heap_setCell _ _ _ _ (by simpa using hk)
  have hk2 : ∀ k, k < w2.heap.size → v.ownBlock ≠ some k → w'.heap[k]? = _ := fun k hk hn => h3.block k (by simp; omega) (Ne.symm hn)
  refine ⟨rfl, .slice a' M' cap', ⟨(hk qn hqnl).trans ((hk2 qn (by omega) hobn).trans hC3.n), (hk qd hqdl).trans ((hk2 qd (by omega) hobd).trans hC3.d), by simp [World.setCell, Array.getElem?_modify, hbw]⟩, ?_, ?_, hbut3.trans (But.trans (w1 := w') ⟨h3.os, h3.tape, h3.output, h3.size, fun k hk _ => h3.block k (by omega) (fun e => by have := World.ownsRow.lt hO3 k e.symm; omega)⟩ ⟨rfl, rfl, rfl, by simp [World.setCell], fun k hk' hn => hk k (fun e => hn (by simp [e]))⟩)⟩
  · have hpo : v.ownBlock ≠ some p := fun e => by have := World.ownsRow.lt hO3 p e; omega
    have hbo : v.ownBlock ≠ some b := fun e => by have := World.ownsRow.lt hO3 b e; omega
    exact hQ3.keep ((hk p (Ne.symm hqlp)).trans (hk2 p (by omega) hpo)) fun b' e => by
      cases e
      exact (hk b hqlb).trans (hk2 b (by omega) hbo)
  · exact Own.keep h1 (fun g hg _ => hk g (by have := (World.ownsRow.lt h1 g hg).1; omega))

theorem over_each (qn qd ql p B : Nat) (m : Option Nat) (L : List Dbt) (now : Int) (w3 : World) (hQ3 : Du p m L w3) (hC : Cl qn qd ql p 0 now (.slice none 0 0) w3) (hp : p < B) (hm : ∀ b, m = some b → b < B) (hql : B ≤ ql) :
    Calls Try.prog 33 #[.pointer (some ⟨p, 0, none⟩), .func (.func 34) #[] #[.pointer (some ⟨qn, 0, none⟩), .pointer (some ⟨qd, 0, none⟩), .pointer (some ⟨ql, 0, none⟩)]] w3 fun e w' => e = .returned (.tuple #[]) ∧ ∃ v, w'.heap[ql]? = some (.cells #[v] 43 (0, 0)) ∧ Own B v ((overD L now).map deadOf) w' ∧ Du p m (stayD L now) w' ∧ But B (p :: m.toList) w3 w' := by
  have hL := hQ3.di
  have hll := (Array.getElem?_eq_some_iff.1 hC.l).1
  cases m with
  | none =>
    obtain rfl := hQ3.none_ rfl
    refine (each_none p _ w3 hQ3).mono ?_
    rintro e w' ⟨rfl, hb⟩
    exact ⟨rfl, _, (hb.block _ hll).trans hC.l, Own.nil _ _, hQ3.below hb, But.of (hb.mono (by omega))⟩
  | some b =>
    have hbB := hm b rfl
    refine (each_some p b 34 #[.pointer (some ⟨qn, 0, none⟩), .pointer (some ⟨qd, 0, none⟩), .pointer (some ⟨ql, 0, none⟩)] (enters_of Try.func34 (by kernel_rfl) rfl) L w3 hQ3
      (fun wS k w' => ∃ v, Cl qn qd ql p b now v w' ∧ Own wS.heap.size v ((overD (L.take k) now).map deadOf) w' ∧ Du p (some b) (goneD L now k) w' ∧ But wS.heap.size [ql, p, b] wS w') ?_ ?_).mono ?_
    · intro wS hb
      have hC' := hC.below hb
      exact ⟨_, ⟨hC'.n, hC'.d, hC'.l⟩, Own.nil _ _, by rw [gone_zero]; exact hQ3.below hb, But.refl _ _ _⟩
    · rintro wS k w' hb hk ⟨v, h1, h2, h3, h4⟩
      have hs := hb.size
      have hx := hL.ok _ (List.getElem_mem hk)
      refine ⟨⟨_, h3, getD_of h3.di (gone_mem now hk)⟩, fun g hg1 hg2 => h4.block g hg2 (by simp; omega), ?_⟩
      have hlen : ((overD (L.take k) now).map deadOf).length ≤ 64 := by
        rw [List.length_map]
        have h1 := over_length (L.take k) now
        have h2 := hL.length
        rw [List.length_take] at h1
        omega
      by_cases hu : L[k].u ≤ now
      · refine (over_yes qn qd ql p b wS.heap.size now v _ _ L[k] hx hu w' h1 h3 h2 h4.size (by omega) (by omega) (by omega) hlen).mono ?_
        rintro e w'' ⟨rfl, v', k1, k2, k3, k4⟩
        refine ⟨rfl, v', k1, ?_, ?_, h4.trans k4⟩
        · rw [over_step hk, if_pos hu]; exact k3
        · rw [← gone_less hL hk (by simpa using hu)]; exact k2
      · refine (over_no qn qd ql p b now v L[k] hu w' h1).mono ?_
        rintro e w'' ⟨rfl, hb2⟩
        refine ⟨rfl, v, h1.below hb2, ?_, ?_, h4.trans (But.of (hb2.mono h4.size))⟩
        · rw [over_step hk, if_neg hu, List.append_nil]; exact Own.below h2 hb2
        · rw [gone_stay hk (by simpa using hu)]; exact h3.below hb2
    · rintro e w' ⟨rfl, wS, hb, v, h1, h2, h3, h4⟩
      have hs := hb.size
      rw [List.take_length] at h2
      rw [gone_all] at h3
      exact ⟨rfl, v, h1.l, Own.mono h2 (by omega), h3, (But.of (hb.mono (by omega))).trans ⟨h4.os, h4.tape, h4.output, h4.size, fun k hk hn => h4.block k (by omega) (by simp at hn; simp; omega)⟩⟩
end Go.Proofs.Ytahiiieifdhgeaa
