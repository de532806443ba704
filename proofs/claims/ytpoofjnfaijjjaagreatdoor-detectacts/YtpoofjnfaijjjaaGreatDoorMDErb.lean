/-
  Over: its closure, and it. Over, walked. Raise: what is refused, and what was told already. Raise: a doubt that is newer, and one that was told already. Raise: a new doubt. Raise: a doubt of a later incarnation. Raise: one more tells a doubt; and Raise, whatever it is. The reference's doubts, a list in whatever order: mathematics, the state, Drop. The reference's All.
-/
import Derived.Test.YtpoofjnfaijjjaaGreatDoorMDDal
import Derived.Test.YtpoofjnfaijjjaaGreatDoorMClr
namespace Go.Proofs.YtpoofjnfaijjjaaGreatDoor.Do
open Go.RowKit Go.Maps Go.Sort Go.Shelf Go.Proofs.YtpoofjnfaijjjaaGreatDoor.Ro
variable {X : Value → Array Value}
def deadOf (x : Dbt) : Upd := ⟨x.n, x.i, 3⟩
theorem Own.mono {B C : Nat} {v : Value} {l : List Upd} {w : World} (h : Own C v l w) (hB : B ≤ C) : Own B v l w := by
  refine ⟨h.1, ?_⟩
  rcases h.2 with hn | ⟨g, cap, cur, e, hb, rest⟩
  · exact Or.inl hn
  · exact Or.inr ⟨g, cap, cur, e, Nat.le_trans hB hb, rest⟩
def goneD (L : List Dbt) (now : Int) (k : Nat) : List Dbt := stayD (L.take k) now ++ L.drop k
theorem gone_sub (L : List Dbt) (now : Int) (k : Nat) : List.Sublist (goneD L now k) L := by
  have h : List.Sublist (goneD L now k) (L.take k ++ L.drop k) := List.Sublist.append List.filter_sublist (List.Sublist.refl _)
  rwa [List.take_append_drop] at h
theorem gone_mem {L : List Dbt} (now : Int) {k : Nat} (hk : k < L.length) : L[k] ∈ goneD L now k := by
  refine List.mem_append_right _ ?_
  rw [List.drop_eq_getElem_cons hk]
  exact List.mem_cons_self
theorem gone_stay {L : List Dbt} {now : Int} {k : Nat} (hk : k < L.length) (h : (decide (L[k].u ≤ now)) = false) : goneD L now (k + 1) = goneD L now k := by
  unfold goneD stayD
  rw [← List.take_append_getElem hk, List.filter_append, List.drop_eq_getElem_cons hk, List.filter_cons_of_pos (by simp only [h]; rfl)]
  simp
theorem gone_less {L : List Dbt} (hL : Di L) {now : Int} {k : Nat} (hk : k < L.length) (h : (decide (L[k].u ≤ now)) = true) : lessD (goneD L now k) L[k].n = goneD L now (k + 1) := by
  have hne : ∀ j (hj : j < L.length), j ≠ k → L[j].n ≠ L[k].n := fun j hj hjk => by
    rcases Nat.lt_or_ge j k with hlt | hge
    · have := List.pairwise_iff_getElem.1 hL.sort j k hj hk hlt; omega
    · have := List.pairwise_iff_getElem.1 hL.sort k j hk hj (by omega); omega
  unfold goneD lessD stayD
  rw [List.filter_append, List.drop_eq_getElem_cons hk, List.filter_cons_of_neg (by simp), ← List.take_append_getElem hk, List.filter_append, List.filter_cons_of_neg (by simp only [h]; decide), List.filter_nil, List.append_nil]
  congr 1
  · refine List.filter_eq_self.2 fun x hx => ?_
    obtain ⟨hx, _⟩ := List.mem_filter.1 hx
    obtain ⟨j, hj, rfl⟩ := List.getElem_of_mem hx
    rw [List.length_take] at hj
    rw [List.getElem_take]
    simpa using hne j (by omega) (by omega)
  · refine List.filter_eq_self.2 fun x hx => ?_
    obtain ⟨j, hj, rfl⟩ := List.getElem_of_mem hx
    rw [List.length_drop] at hj
    rw [List.getElem_drop]
    simpa using hne (k + 1 + j) (by omega) (by omega)
theorem gone_zero (L : List Dbt) (now : Int) : goneD L now 0 = L := by simp [goneD, stayD]
theorem gone_all (L : List Dbt) (now : Int) : goneD L now L.length = stayD L now := by simp [goneD]
theorem over_step {L : List Dbt} {now : Int} {k : Nat} (hk : k < L.length) : (overD (L.take (k + 1)) now).map deadOf = (overD (L.take k) now).map deadOf ++ (if L[k].u ≤ now then [deadOf L[k]] else []) := by
  unfold overD
  rw [← List.take_append_getElem hk, List.filter_append, List.map_append]
  congr 1
  by_cases h : L[k].u ≤ now
  · rw [if_pos h, List.filter_cons_of_pos (by simpa using h)]; rfl
  · rw [if_neg h, List.filter_cons_of_neg (by simpa using h)]; rfl
theorem over_length (L : List Dbt) (now : Int) : (overD L now).length ≤ L.length := List.length_filter_le _ _
structure Cl (qn qd ql p b : Nat) (now : Int) (v : Value) (w : World) : Prop where
  n : w.heap[qn]? = some (.cells #[.int .u64 now] 34 (0, 0))
  d : w.heap[qd]? = some (.cells #[.pointer (some ⟨p, 3, none⟩)] 159 (0, 0))
  l : w.heap[ql]? = some (.cells #[v] 35 (0, 0))
theorem Cl.below {qn qd ql p b : Nat} {now : Int} {v : Value} {w w' : World} (h : Cl qn qd ql p b now v w) (hb : Below w.heap.size w w') : Cl qn qd ql p b now v w' :=
  ⟨(hb.block _ (Array.getElem?_eq_some_iff.1 h.n).1).trans h.n, (hb.block _ (Array.getElem?_eq_some_iff.1 h.d).1).trans h.d, (hb.block _ (Array.getElem?_eq_some_iff.1 h.l).1).trans h.l⟩
set_option maxRecDepth 100000 in
set_option maxHeartbeats 2000000 in
theorem over_no (qn qd ql p b : Nat) (now : Int) (v : Value) (x : Dbt) (hu : ¬ x.u ≤ now) (w : World) (hC : Cl qn qd ql p b now v w) :
    Calls Tryz.prog 80 #[dV x, .pointer (some ⟨qn, 0, none⟩), .pointer (some ⟨qd, 0, none⟩), .pointer (some ⟨ql, 0, none⟩)] w fun e w' => e = .returned (.tuple #[]) ∧ Below w.heap.size w w' := by
  have ba := below_alloc w (dC x 162)
  have hb := (Bd.new 162 x w).c6
  have hC1 := (hC.below ba).n
  have hcn : (w.alloc (dC x 162)).cell? ⟨qn, 0, none⟩ = some (.int .u64 now) := by simp [World.cell?, hC1]
  unfold dC at ba hb hcn
  unfold dV
  clear hC hC1
  go_enter Tryz.func80, Tryz.ntmps80
  go_wp2_with fail
  go_end0
  exact ⟨rfl, ba⟩
set_option maxRecDepth 100000 in
set_option maxHeartbeats 2000000 in
theorem over_yes (qn qd ql p b B : Nat) (now : Int) (v : Value) (l : List Upd) (L : List Dbt) (x : Dbt) (hx : DbtOk x) (hu : x.u ≤ now) (w : World) (hC : Cl qn qd ql p b now v w) (hQ : Du X p (some b) L w) (hO : Own B v l w) (hB : B ≤ w.heap.size) (hpB : p < B) (hbB : b < B) (hqB : ql < B) (hl : l.length ≤ 64) :
    Calls Tryz.prog 80 #[dV x, .pointer (some ⟨qn, 0, none⟩), .pointer (some ⟨qd, 0, none⟩), .pointer (some ⟨ql, 0, none⟩)] w fun e w' => e = .returned (.tuple #[]) ∧ ∃ v', Cl qn qd ql p b now v' w' ∧ Du X p (some b) (lessD L x.n) w' ∧ Own B v' (l ++ [deadOf x]) w' ∧ But B [ql, p, b] w w' := by
  have ba := below_alloc w (dC x 162)
  have hb := Bd.new 162 x w
  have hC1 := hC.below ba
  have hQ1 := hQ.below ba
  have hO1 := hO.below ba
  obtain ⟨w1, HW1⟩ : ∃ w1, Hid (w1 = w.alloc (dC x 162)) := ⟨_, rfl⟩
  rw [← HW1.out] at ba hb hC1 hQ1 hO1
  have hcn : w1.cell? ⟨qn, 0, none⟩ = some (.int .u64 now) := by simp [World.cell?, hC1.n]
  have hcd : w1.cell? ⟨qd, 0, none⟩ = some (.pointer (some ⟨p, 3, none⟩)) := by simp [World.cell?, hC1.d]
  have x0 := hb.c0
  have x6 := hb.c6
  have hdr := drop_some p b L x.n (wf_node hx.n0 hx.n1) w1 hQ1
  have hlt := hb.lt
  have hplt := hQ1.lt
  have hblt := hQ1.mlt b rfl
  have hgx : Hid (w.heap.size < w1.heap.size) := by rw [HW1.out]; show _ < _; simp
  have hqnp : qn ≠ p := fun e => by subst e; have := hC1.n; rw [hQ1.heap] at this; simp at this
  have hqdp : qd ≠ p := fun e => by subst e; have := hC1.d; rw [hQ1.heap] at this; simp at this
  have hqlp : ql ≠ p := fun e => by subst e; have := hC1.l; rw [hQ1.heap] at this; simp at this
  have hqnb : b ≠ qn := (hQ1.some_ b rfl).ne_cells hC1.n
  have hqdb : b ≠ qd := (hQ1.some_ b rfl).ne_cells hC1.d
  have hqlb : b ≠ ql := (hQ1.some_ b rfl).ne_cells hC1.l
  have hqnl : qn ≠ ql := fun e => by subst e; have := hC1.n; rw [hC1.l] at this; cases this
  have hqdl : qd ≠ ql := fun e => by subst e; have := hC1.d; rw [hC1.l] at this; cases this
  have hnlt := (Array.getElem?_eq_some_iff.1 hC1.n).1
  have hdlt := (Array.getElem?_eq_some_iff.1 hC1.d).1
  have hllt := (Array.getElem?_eq_some_iff.1 hC1.l).1
  have hxlo : B ≤ w.heap.size := hB
  have hobn : v.ownBlock ≠ some qn := fun e => by
    rcases hO1.2 with ⟨rfl, _⟩ | ⟨g', cap, cur, rfl, _, hg', _⟩
    · cases e
    · have : g' = qn := by simpa [Value.ownBlock] using e
      subst this
      have := hC1.n
      rw [hg'] at this
      cases this
  have hobd : v.ownBlock ≠ some qd := fun e => by
    rcases hO1.2 with ⟨rfl, _⟩ | ⟨g', cap, cur, rfl, _, hg', _⟩
    · cases e
    · have : g' = qd := by simpa [Value.ownBlock] using e
      subst this
      have := hC1.d
      rw [hg'] at this
      cases this
  unfold dC at HW1
  unfold dV
  go_enter Tryz.func80, Tryz.ntmps80
  go_upto_region 1 with fail
  rw [← HW1.out]
  go_wp2_with fail
  refine hdr.mono ?_
  rintro e w2 ⟨rfl, hQ2, hmv⟩
  have hC2 : Cl qn qd ql p b now v w2 := ⟨(hmv.block qn hnlt hqnp (by simpa using Ne.symm hqnb)).trans hC1.n, (hmv.block qd hdlt hqdp (by simpa using Ne.symm hqdb)).trans hC1.d, (hmv.block ql hllt hqlp (by simpa using Ne.symm hqlb)).trans hC1.l⟩
  have hb2 := hb.keep (hmv.block _ hlt (by omega) (by simp; omega))
  have hO2 : Own B v l w2 := by
    refine ⟨hO1.1, ?_⟩
    rcases hO1.2 with hn | ⟨g, cap, cur, rfl, hb', hg, rest⟩
    · exact Or.inl hn
    · exact Or.inr ⟨g, cap, cur, rfl, hb', (hmv.block g (Array.getElem?_eq_some_iff.1 hg).1 (by omega) (by simp; omega)).trans hg, rest⟩
  have hs2 := hmv.size
  have hs1 := ba.size
  have hbut : But B [ql, p, b] w w2 := But.trans (But.of (ba.mono hB)) ⟨hmv.os, hmv.tape, hmv.output, hmv.size, fun k hk hn => hmv.block k (by omega) (fun e => hn (by simp [e])) (fun e => hn (by simp at e; simp [e]))⟩
  have y0 := hb2.c0
  have y1 := hb2.c1
  have hcl : w2.cell? ⟨ql, 0, none⟩ = some v := by simp [World.cell?, hC2.l]
  have bc := below_alloc w2 (.cells #[.int .i64 x.n, .int .u64 x.i, .int .i64 3] 39)
  have hY := Ru.one (u := deadOf x) (Bx.new 39 x.n x.i 3 w2)
  have hO3 := Own.below hO2 bc
  have hC3 := hC2.below bc
  have hQ3 := hQ2.below bc
  have hB3 : B ≤ (w2.alloc (.cells #[.int .i64 x.n, .int .u64 x.i, .int .i64 3] 39)).heap.size := by have := bc.size; omega
  have hbut3 : But B [ql, p, b] w (w2.alloc (.cells #[.int .i64 x.n, .int .u64 x.i, .int .i64 3] 39)) := hbut.trans (But.of (bc.mono (by omega)))
  clear ba hb hC hC1 hQ1 hO1 hdr hmv hC2 hb2 hbut bc hQ hO hQ2 hO2 x0 x6 hcn hcd
  generalize w.heap.size = gx at *
  go_wp2_with (at_builtin; refine wpList_app _ rfl (.tmp 14) (.tmp 22) rfl B _ l rfl hO3 hB3 w2.heap.size 0 1 [deadOf x] 1 rfl rfl hY (by simp; omega) ?_; intro v' w' h1 h3 h4; obtain ⟨a', M', cap', rfl⟩ : ∃ a' M' cap', v' = .slice a' M' cap' := (by obtain ⟨a', cap', e, _⟩ := Own.ru h1; exact ⟨_, _, _, e⟩); have hbw : w'.heap[ql]? = some (.cells #[v] 35 (0, 0)) := (h3.block ql (by omega) (fun e => by have := World.ownsRow.lt hO3 ql e.symm; omega)).trans hC3.l; have hz : w'.cell? ⟨ql, 0, none⟩ = some v := (by simp [World.cell?, hbw]); have hfz : w'.frozen? ⟨ql, 0, none⟩ = false := (by simp [World.frozen?, hbw]))
  go_end0
  have hk : ∀ k, k ≠ ql → (w'.setCell ⟨ql, 0, none⟩ (.slice a' M' cap')).heap[k]? = w'.heap[k]? := fun k hk => Below.heap_setCell _ _ _ _ (by simpa using hk)
  have hk2 : ∀ k, k < w2.heap.size → v.ownBlock ≠ some k → w'.heap[k]? = _ := fun k hk hn => h3.block k (by simp; omega) (Ne.symm hn)
  refine ⟨rfl, .slice a' M' cap', ⟨(hk qn hqnl).trans ((hk2 qn (by omega) hobn).trans hC3.n), (hk qd hqdl).trans ((hk2 qd (by omega) hobd).trans hC3.d), by simp [World.setCell, Array.getElem?_modify, hbw]⟩, ?_, ?_, hbut3.trans (But.trans (w1 := w') ⟨h3.os, h3.tape, h3.output, h3.size, fun k hk _ => h3.block k (by omega) (fun e => by have := World.ownsRow.lt hO3 k e.symm; omega)⟩ ⟨rfl, rfl, rfl, by simp [World.setCell], fun k hk' hn => hk k (fun e => hn (by simp [e]))⟩)⟩
  · have hpo : v.ownBlock ≠ some p := fun e => by have := World.ownsRow.lt hO3 p e; omega
    have hbo : v.ownBlock ≠ some b := fun e => by have := World.ownsRow.lt hO3 b e; omega
    exact hQ3.keep ((hk p (Ne.symm hqlp)).trans (hk2 p (by omega) hpo)) fun b' e => by
      cases e
      exact (hk b hqlb).trans (hk2 b (by omega) hbo)
  · exact Own.keep h1 (fun g hg _ => hk g (by have := (World.ownsRow.lt h1 g hg).1; omega))
theorem over_each (qn qd ql p B : Nat) (m : Option Nat) (L : List Dbt) (now : Int) (w3 : World) (hQ3 : Du X p m L w3) (hC : Cl qn qd ql p 0 now (.slice none 0 0) w3) (hp : p < B) (hm : ∀ b, m = some b → b < B) (hql : B ≤ ql) :
    Calls Tryz.prog 79 #[.pointer (some ⟨p, 3, none⟩), .func (.func 80) #[] #[.pointer (some ⟨qn, 0, none⟩), .pointer (some ⟨qd, 0, none⟩), .pointer (some ⟨ql, 0, none⟩)]] w3 fun e w' => e = .returned (.tuple #[]) ∧ ∃ v, w'.heap[ql]? = some (.cells #[v] 35 (0, 0)) ∧ Own B v ((overD L now).map deadOf) w' ∧ Du X p m (stayD L now) w' ∧ But B (p :: m.toList) w3 w' := by
  have hL := hQ3.di
  have hll := (Array.getElem?_eq_some_iff.1 hC.l).1
  cases m with
  | none =>
    obtain rfl := hQ3.none_ rfl
    refine (each_none p _ w3 hQ3).mono ?_
    rintro e w' ⟨rfl, hb⟩
    exact ⟨rfl, _, (hb.block _ hll).trans hC.l, Own.nil _ _, hQ3.below hb, But.of (hb.mono (by omega))⟩
  | some b =>
    have hbB := hm b rfl
    refine (each_some p b 80 #[.pointer (some ⟨qn, 0, none⟩), .pointer (some ⟨qd, 0, none⟩), .pointer (some ⟨ql, 0, none⟩)] (enters_of Tryz.func80 (by kernel_rfl) rfl) L w3 hQ3
      (fun wS k w' => ∃ v, Cl qn qd ql p b now v w' ∧ Own wS.heap.size v ((overD (L.take k) now).map deadOf) w' ∧ Du X p (some b) (goneD L now k) w' ∧ But wS.heap.size [ql, p, b] wS w') ?_ ?_).mono ?_
    · intro wS hb
      have hC' := hC.below hb
      exact ⟨_, ⟨hC'.n, hC'.d, hC'.l⟩, Own.nil _ _, by rw [gone_zero]; exact hQ3.below hb, But.refl _ _ _⟩
    · rintro wS k w' hb hk ⟨v, h1, h2, h3, h4⟩
      have hs := hb.size
      have hx := hL.ok _ (List.getElem_mem hk)
      refine ⟨⟨_, h3, getD_of h3.di (gone_mem now hk)⟩, fun g hg1 hg2 => h4.block g hg2 (by simp; omega), ?_⟩
      have hlen : ((overD (L.take k) now).map deadOf).length ≤ 64 := by
        rw [List.length_map]
        have h1 := over_length (L.take k) now
        have h2 := hL.length
        rw [List.length_take] at h1
        omega
      by_cases hu : L[k].u ≤ now
      · refine (over_yes qn qd ql p b wS.heap.size now v _ _ L[k] hx hu w' h1 h3 h2 h4.size (by omega) (by omega) (by omega) hlen).mono ?_
        rintro e w'' ⟨rfl, v', k1, k2, k3, k4⟩
        refine ⟨rfl, v', k1, ?_, ?_, h4.trans k4⟩
        · rw [over_step hk, if_pos hu]; exact k3
        · rw [← gone_less hL hk (by simpa using hu)]; exact k2
      · refine (over_no qn qd ql p b now v L[k] hu w' h1).mono ?_
        rintro e w'' ⟨rfl, hb2⟩
        refine ⟨rfl, v, h1.below hb2, ?_, ?_, h4.trans (But.of (hb2.mono h4.size))⟩
        · rw [over_step hk, if_neg hu, List.append_nil]; exact Own.below h2 hb2
        · rw [gone_stay hk (by simpa using hu)]; exact h3.below hb2
    · rintro e w' ⟨rfl, wS, hb, v, h1, h2, h3, h4⟩
      have hs := hb.size
      rw [List.take_length] at h2
      rw [gone_all] at h3
      exact ⟨rfl, v, h1.l, Own.mono h2 (by omega), h3, (But.of (hb.mono (by omega))).trans ⟨h4.os, h4.tape, h4.output, h4.size, fun k hk hn => h4.block k (by omega) (by simp at hn; simp; omega)⟩⟩
end Go.Proofs.YtpoofjnfaijjjaaGreatDoor.Do
namespace Go.Proofs.YtpoofjnfaijjjaaGreatDoor.Do
open Go.RowKit Go.Maps Go.Proofs.YtpoofjnfaijjjaaGreatDoor.Ro
variable {X : Value → Array Value}
set_option maxRecDepth 100000 in
set_option maxHeartbeats 2000000 in
theorem over_any (p : Nat) (m : Option Nat) (L : List Dbt) (now : Int) (w : World) (hQ : Du X p m L w) :
    Calls Tryz.prog 42 #[.pointer (some ⟨p, 3, none⟩), .int .u64 now] w fun e w' => (∃ v, e = .returned v ∧ Own w.heap.size v ((overD L now).map deadOf) w') ∧ Du X p m (stayD L now) w' ∧ Mv p m m w w' := by
  have b1 := below_alloc w (.cells #[.pointer (some ⟨p, 3, none⟩)] 159)
  have n1 : (w.alloc (.cells #[.pointer (some ⟨p, 3, none⟩)] 159)).heap[w.heap.size]? = _ := heap_alloc_new w _
  have z1 : (w.alloc (.cells #[.pointer (some ⟨p, 3, none⟩)] 159)).heap.size = w.heap.size + 1 := by simp
  obtain ⟨w1, HW1⟩ : ∃ w1, Hid (w1 = w.alloc (.cells #[.pointer (some ⟨p, 3, none⟩)] 159)) := ⟨_, rfl⟩
  rw [← HW1.out] at b1 n1 z1
  have b2 := below_alloc w1 (.cells #[.int .u64 now] 34)
  have n2 : (w1.alloc (.cells #[.int .u64 now] 34)).heap[w1.heap.size]? = _ := heap_alloc_new w1 _
  have z2 : (w1.alloc (.cells #[.int .u64 now] 34)).heap.size = w1.heap.size + 1 := by simp
  obtain ⟨w2, HW2⟩ : ∃ w2, Hid (w2 = w1.alloc (.cells #[.int .u64 now] 34)) := ⟨_, rfl⟩
  rw [← HW2.out] at b2 n2 z2
  have b3 := below_alloc w2 (.cells #[.slice none 0 0] 35)
  have n3 : (w2.alloc (.cells #[.slice none 0 0] 35)).heap[w2.heap.size]? = _ := heap_alloc_new w2 _
  obtain ⟨w3, HW3⟩ : ∃ w3, Hid (w3 = w2.alloc (.cells #[.slice none 0 0] 35)) := ⟨_, rfl⟩
  rw [← HW3.out] at b3 n3
  have hB : Below w.heap.size w w3 := (b1.trans (b2.mono (by omega))).trans (b3.mono (by omega))
  have hC : Cl w1.heap.size w.heap.size w2.heap.size p 0 now (.slice none 0 0) w3 := ⟨(b3.block _ (by omega)).trans n2, (b3.block _ (by omega)).trans ((b2.block _ (by omega)).trans n1), n3⟩
  have hcd : w3.cell? ⟨w.heap.size, 0, none⟩ = some (.pointer (some ⟨p, 3, none⟩)) := by simp [World.cell?, hC.d]
  have key := over_each w1.heap.size w.heap.size w2.heap.size p w.heap.size m L now w3 (hQ.below hB) hC hQ.lt hQ.mlt (by omega)
  rw [z2, z1] at key
  clear b1 b2 b3 n1 n2 n3 z1 z2 hQ hC
  generalize (overD L now).map deadOf = R at *
  generalize stayD L now = S at *
  obtain ⟨g1, HG1⟩ : ∃ g1, Hid (w.heap.size = g1) := ⟨_, rfl⟩
  rw [HG1.out] at key hcd hB
  go_enter Tryz.func42, Tryz.ntmps42
  go_upto_region 2 with fail
  rw [← HW1.out, ← HW2.out, ← HW3.out, HG1.out]
  go_wp2_with fail
  refine key.mono ?_
  rintro e w' ⟨rfl, v, h1, h2, h3, h4⟩
  have hcl : w'.cell? ⟨g1 + 1 + 1, 0, none⟩ = some v := by simp [World.cell?, h1]
  go_wp2_with fail
  go_ret
  exact ⟨⟨v, rfl, by rw [HG1.out]; exact h2⟩, h3, ⟨h4.os.trans hB.os, h4.tape.trans hB.tape, h4.output.trans hB.output, Nat.le_trans hB.size h4.size, fun k hk hp hm => (h4.block k (by rw [← HG1.out]; exact hk) (by simp; exact ⟨hp, fun e => hm e.symm⟩)).trans (hB.block k (by rw [← HG1.out]; exact hk)), Or.inl rfl⟩⟩
variable {X : Value → Array Value}
structure Bs (G : Nat) (n i s nodes : Int) (base : Nat) (w : World) : Prop where
  u : Bx 39 G n i s w
  n : w.heap[G + 1]? = some (.cells #[.int .i64 nodes] 3 (0, 0))
  b : w.heap[G + 1 + 1]? = some (.cells #[.float .f64 base] 174 (0, 0))
section
variable {G : Nat} {n i s nodes : Int} {base : Nat} {w w' : World}
theorem Bs.keep (h : Bs G n i s nodes base w) (e : ∀ k, G ≤ k → k ≤ G + 2 → w'.heap[k]? = w.heap[k]?) : Bs G n i s nodes base w' :=
  ⟨h.u.keep (e G (by omega) (by omega)), (e (G + 1) (by omega) (by omega)).trans h.n, (e (G + 1 + 1) (by omega) (by omega)).trans h.b⟩
theorem Bs.lt (h : Bs G n i s nodes base w) : G + 2 < w.heap.size := (Array.getElem?_eq_some_iff.1 h.b).1
theorem Bs.below (h : Bs G n i s nodes base w) (b : Below w.heap.size w w') : Bs G n i s nodes base w' := h.keep fun k _ hk => b.block k (by have := h.lt; omega)
theorem Bs.cn (h : Bs G n i s nodes base w) : w.cell? ⟨G + 1, 0, none⟩ = some (.int .i64 nodes) := by simp [World.cell?, h.n]
theorem Bs.cb (h : Bs G n i s nodes base w) : w.cell? ⟨G + 1 + 1, 0, none⟩ = some (.float .f64 base) := by simp [World.cell?, h.b]
end
def boxW (n i s nodes : Int) (base : Nat) (w : World) : World := ((w.alloc (.cells #[.int .i64 n, .int .u64 i, .int .i64 s] 39)).alloc (.cells #[.int .i64 nodes] 3)).alloc (.cells #[.float .f64 base] 174)
theorem boxW_below (n i s nodes : Int) (base : Nat) (w : World) : Below w.heap.size w (boxW n i s nodes base w) := (((Below.refl _ w).alloc (Nat.le_refl _) _).alloc (by simp) _).alloc (by simp; omega) _
theorem boxW_bs (n i s nodes : Int) (base : Nat) (w : World) : Bs w.heap.size n i s nodes base (boxW n i s nodes base w) := by
  have e1 := heap_alloc_new w (.cells #[.int .i64 n, .int .u64 i, .int .i64 s] 39)
  have e2 := heap_alloc_new (w.alloc (.cells #[.int .i64 n, .int .u64 i, .int .i64 s] 39)) (.cells #[.int .i64 nodes] 3)
  have e3 := heap_alloc_new ((w.alloc (.cells #[.int .i64 n, .int .u64 i, .int .i64 s] 39)).alloc (.cells #[.int .i64 nodes] 3)) (.cells #[.float .f64 base] 174)
  have k2 := Below.heap_alloc (w.alloc (.cells #[.int .i64 n, .int .u64 i, .int .i64 s] 39)) (.cells #[.int .i64 nodes] 3)
  have k3 := Below.heap_alloc ((w.alloc (.cells #[.int .i64 n, .int .u64 i, .int .i64 s] 39)).alloc (.cells #[.int .i64 nodes] 3)) (.cells #[.float .f64 base] 174)
  refine ⟨⟨?_⟩, ?_, ?_⟩
  · exact (k3 _ (by simp; omega)).trans ((k2 _ (by simp)).trans e1)
  · refine (k3 _ (by simp)).trans ?_
    simpa using e2
  · have z : ((w.alloc (.cells #[.int .i64 n, .int .u64 i, .int .i64 s] 39)).alloc (.cells #[.int .i64 nodes] 3)).heap.size = w.heap.size + 1 + 1 := by simp
    rw [z] at e3
    exact e3
set_option maxRecDepth 100000 in
set_option maxHeartbeats 2000000 in
theorem raise_arg (p : Nat) (n i s from_ now nodes : Int) (base : Nat) (ha : argS n s from_ = false) (w : World) :
    Calls Tryz.prog 128 #[.pointer (some ⟨p, 3, none⟩), .agg #[.int .i64 n, .int .u64 i, .int .i64 s], .int .i64 from_, .int .u64 now, .int .i64 nodes, .float .f64 base] w fun e w' => e = .returned (.tuple #[.bool false, .int .i64 1]) ∧ Below w.heap.size w w' := by
  have bW := boxW_below n i s nodes base w
  have hS := boxW_bs n i s nodes base w
  obtain ⟨w3, HW3⟩ : ∃ w3, Hid (w3 = boxW n i s nodes base w) := ⟨_, rfl⟩
  rw [← HW3.out] at bW hS
  unfold boxW at HW3
  have hz := bW.size
  obtain ⟨G, HG⟩ : ∃ G, Hid (w.heap.size = G) := ⟨_, rfl⟩
  rw [HG.out] at bW hS hz ⊢
  have hmay := fun W => may_any n i s W
  have x0 := hS.u.c0
  have x1 := hS.u.c1
  have x2 := hS.u.c2
  cases hm : mayS n s
  · rw [hm] at hmay
    go_enter Tryz.func128, Tryz.ntmps128
    go_upto_region 1 with fail
    rw [← HW3.out, HG.out]
    go_wp2_with fail
    refine (hmay _).mono ?_
    rintro e wM ⟨rfl, hb⟩
    go_wp2_with fail
    go_ret2
    exact ⟨rfl, bW.trans (hb.mono hz)⟩
  · rw [hm] at hmay
    unfold argS at ha
    rw [hm, Bool.true_and] at ha
    have hs : s = 1 ∨ (s != 1) = true := by
      by_cases h : s = 1
      · exact Or.inl h
      · exact Or.inr (by simpa using h)
    rcases hs with rfl | hs
    · have hf : from_ < 0 ∨ (0 ≤ from_ ∧ 64 ≤ from_) := by simp at ha; omega
      clear ha
      rcases hf with hf | hf
      all_goals
        go_enter Tryz.func128, Tryz.ntmps128
        go_upto_region 1 with fail
        rw [← HW3.out, HG.out]
        go_wp2_with fail
        refine (hmay _).mono ?_
        rintro e wM ⟨rfl, hb⟩
        have y2 := (hS.below hb).u.c2
        go_wp2_with fail
        go_ret2
        exact ⟨rfl, bW.trans (hb.mono hz)⟩
    · clear ha
      go_enter Tryz.func128, Tryz.ntmps128
      go_upto_region 1 with fail
      rw [← HW3.out, HG.out]
      go_wp2_with fail
      refine (hmay _).mono ?_
      rintro e wM ⟨rfl, hb⟩
      have y2 := (hS.below hb).u.c2
      go_wp2_with fail
      go_ret2
      exact ⟨rfl, bW.trans (hb.mono hz)⟩
variable {X : Value → Array Value}
set_option maxRecDepth 100000 in
set_option maxHeartbeats 2000000 in
theorem raise_old (p : Nat) (m : Option Nat) (L : List Dbt) (n i s from_ now nodes : Int) (base : Nat) (ha : argS n s from_ = true) (hh : hasD L n = true) (hi : i < (getD L n).i) (w : World) (hQ : Du X p m L w) :
    Calls Tryz.prog 128 #[.pointer (some ⟨p, 3, none⟩), .agg #[.int .i64 n, .int .u64 i, .int .i64 s], .int .i64 from_, .int .u64 now, .int .i64 nodes, .float .f64 base] w fun e w' => e = .returned (.tuple #[.bool false, .int .i64 70]) ∧ Below w.heap.size w w' := by
  have bW := boxW_below n i s nodes base w
  have hS := boxW_bs n i s nodes base w
  obtain ⟨w3, HW3⟩ : ∃ w3, Hid (w3 = boxW n i s nodes base w) := ⟨_, rfl⟩
  rw [← HW3.out] at bW hS
  unfold boxW at HW3
  obtain ⟨n0, n1, rfl, f0, f1⟩ := argS_true ha
  have hmay := may_any n i 1 w3
  have hm : mayS n 1 = true := by simp [mayS]; omega
  rw [hm] at hmay
  have hQ3 := hQ.below bW
  have x0 := hS.u.c0
  have x1 := hS.u.c1
  have x2 := hS.u.c2
  have hz := bW.size
  have hpl := hQ.lt
  have hmlt := hQ.mlt
  obtain ⟨G, HG⟩ : ∃ G, Hid (w.heap.size = G) := ⟨_, rfl⟩
  rw [HG.out] at bW hS x0 x1 x2 hz hpl
  rw [HG.out] at hmlt
  rw [HG.out]
  clear hm ha
  go_enter Tryz.func128, Tryz.ntmps128
  go_upto_region 1 with fail
  rw [← HW3.out, HG.out]
  go_wp2_with fail
  refine hmay.mono ?_
  rintro e wM ⟨rfl, hb⟩
  have hSM := hS.below hb
  have hQM := hQ3.below hb
  have y0 := hSM.u.c0
  have y1 := hSM.u.c1
  have y2 := hSM.u.c2
  have hc := hQM.c
  have hQd : Du X p m L wM.drew := hQM.keep rfl fun _ _ => rfl
  have hl := look_any hQd (wf_node n0 n1)
  have bz := below_alloc wM (.cells #[.int .i64 0, .int .u64 0, .int .i64 0, .int .u64 0, .int .u64 0, .int .u64 0, .int .u64 0] 162)
  have hQz := hQM.below bz
  have hcz := hQz.c
  have v0 := (hSM.below bz).u.c0
  have hQe : Du X p m L (wM.alloc (.cells #[.int .i64 0, .int .u64 0, .int .i64 0, .int .u64 0, .int .u64 0, .int .u64 0, .int .u64 0] 162)).drew := hQz.keep rfl fun _ _ => rfl
  have hle := look_any hQe (wf_node n0 n1)
  have bb := below_alloc wM (dC (getD L n) 162)
  have hBd := Bd.new 162 (getD L n) wM
  have hSN := hSM.below bb
  have hQN := hQM.below bb
  have hend := bW.trans ((hb.mono hz).trans (bb.mono (Nat.le_trans hz hb.size)))
  rw [hh] at hl hle
  have z1 := hSN.u.c1
  have k1 := hBd.c1
  unfold dV at hl hle
  unfold dC at bb z1 k1 hend
  clear hSN hQN hBd hQd hQe hQz bz hSM hQM hS hQ3 hQ bb hb x0 x1 x2 hh hmay bW hpl hmlt
  generalize getD L n = x at *
  go_wp2_with fail
  go_region
  all_goals
    go_wp2_with fail
    go_ret2
    exact ⟨rfl, Below.drew' hend⟩
set_option maxRecDepth 100000 in
set_option maxHeartbeats 2000000 in
theorem raise_told (p : Nat) (m : Option Nat) (L : List Dbt) (n i s from_ now nodes : Int) (base : Nat) (ha : argS n s from_ = true) (hh : hasD L n = true) (hi : (getD L n).i = i) (hf : Bnd.hasS (getD L n).f from_ = true) (w : World) (hQ : Du X p m L w) :
    Calls Tryz.prog 128 #[.pointer (some ⟨p, 3, none⟩), .agg #[.int .i64 n, .int .u64 i, .int .i64 s], .int .i64 from_, .int .u64 now, .int .i64 nodes, .float .f64 base] w fun e w' => e = .returned (.tuple #[.bool false, .int .i64 0]) ∧ Below w.heap.size w w' := by
  have bW := boxW_below n i s nodes base w
  have hS := boxW_bs n i s nodes base w
  obtain ⟨w3, HW3⟩ : ∃ w3, Hid (w3 = boxW n i s nodes base w) := ⟨_, rfl⟩
  rw [← HW3.out] at bW hS
  unfold boxW at HW3
  obtain ⟨n0, n1, rfl, f0, f1⟩ := argS_true ha
  have hmay := may_any n i 1 w3
  have hm : mayS n 1 = true := by simp [mayS]; omega
  rw [hm] at hmay
  have hQ3 := hQ.below bW
  have x0 := hS.u.c0
  have x1 := hS.u.c1
  have x2 := hS.u.c2
  have hz := bW.size
  have hpl := hQ.lt
  have hmlt := hQ.mlt
  obtain ⟨G, HG⟩ : ∃ G, Hid (w.heap.size = G) := ⟨_, rfl⟩
  rw [HG.out] at bW hS x0 x1 x2 hz hpl
  rw [HG.out] at hmlt
  rw [HG.out]
  clear hm ha
  go_enter Tryz.func128, Tryz.ntmps128
  go_upto_region 1 with fail
  rw [← HW3.out, HG.out]
  go_wp2_with fail
  refine hmay.mono ?_
  rintro e wM ⟨rfl, hb⟩
  have hSM := hS.below hb
  have hQM := hQ3.below hb
  have y0 := hSM.u.c0
  have y1 := hSM.u.c1
  have y2 := hSM.u.c2
  have hc := hQM.c
  have hQd : Du X p m L wM.drew := hQM.keep rfl fun _ _ => rfl
  have hl := look_any hQd (wf_node n0 n1)
  have bz := below_alloc wM (.cells #[.int .i64 0, .int .u64 0, .int .i64 0, .int .u64 0, .int .u64 0, .int .u64 0, .int .u64 0] 162)
  have hQz := hQM.below bz
  have hcz := hQz.c
  have v0 := (hSM.below bz).u.c0
  have hQe : Du X p m L (wM.alloc (.cells #[.int .i64 0, .int .u64 0, .int .i64 0, .int .u64 0, .int .u64 0, .int .u64 0, .int .u64 0] 162)).drew := hQz.keep rfl fun _ _ => rfl
  have hle := look_any hQe (wf_node n0 n1)
  have bb := below_alloc wM (dC (getD L n) 162)
  have hBd := Bd.new 162 (getD L n) wM
  have hSN := hSM.below bb
  have hQN := hQM.below bb
  have hend := bW.trans ((hb.mono hz).trans (bb.mono (Nat.le_trans hz hb.size)))
  rw [hh] at hl hle
  have z1 := hSN.u.c1
  have k1 := hBd.c1
  have k3 := hBd.c3
  have hlim := (hQ.di.ok _ (hasD_true hh).1).f
  have hhas := fun W => Bnd.has_any (getD L n).f hlim from_ W
  rw [hf] at hhas
  unfold dV at hl hle
  unfold dC at bb z1 k1 k3 hend
  clear hSN hQN hBd hQd hQe hQz bz hSM hQM hS hQ3 hQ bb hb x0 x1 x2 hh hmay bW hpl hmlt hlim hf
  generalize getD L n = x at *
  subst hi
  have hi1 : ¬ x.i < x.i := Int.lt_irrefl _
  go_wp2_with fail
  go_region
  all_goals
    go_wp2_with fail
    refine (hhas _).mono ?_
    rintro e wH ⟨rfl, rfl⟩
    go_wp2_with fail
    go_ret2
    exact ⟨rfl, Below.drew' hend⟩
variable {X : Value → Array Value}
set_option maxRecDepth 100000 in
set_option maxHeartbeats 2000000 in
theorem raise_none (p : Nat) (m : Option Nat) (L : List Dbt) (n i s from_ now nodes : Int) (base : Nat) (ha : argS n s from_ = true) (hi : 0 ≤ i ∧ i ≤ 18446744073709551615) (hnow : 0 ≤ now ∧ now ≤ 18446744073709551615) (HB : Hid (base < 2 ^ 64)) (hnd : -9223372036854775808 ≤ nodes ∧ nodes ≤ 9223372036854775807) (hh : hasD L n = false) (w : World) (hQ : Du X p m L w) :
    Calls Tryz.prog 128 #[.pointer (some ⟨p, 3, none⟩), .agg #[.int .i64 n, .int .u64 i, .int .i64 s], .int .i64 from_, .int .u64 now, .int .i64 nodes, .float .f64 base] w fun e w' => e = .returned (.tuple #[.bool true, .int .i64 0]) ∧ ∃ m', Du X p m' (keepD L (newD n i from_ now nodes base)) w' ∧ Mv p m m' w w' := by
  have hok := newD_ok (base := base) (nodes := nodes) ha hi hnow
  have bW := boxW_below n i s nodes base w
  have hS := boxW_bs n i s nodes base w
  obtain ⟨w3, HW3⟩ : ∃ w3, Hid (w3 = boxW n i s nodes base w) := ⟨_, rfl⟩
  rw [← HW3.out] at bW hS
  unfold boxW at HW3
  obtain ⟨n0, n1, rfl, f0, f1⟩ := argS_true ha
  have hmay := may_any n i 1 w3
  have hm : mayS n 1 = true := by simp [mayS]; omega
  rw [hm] at hmay
  have hQ3 := hQ.below bW
  have x0 := hS.u.c0
  have x1 := hS.u.c1
  have x2 := hS.u.c2
  have hz := bW.size
  have hpl := hQ.lt
  have hmlt := hQ.mlt
  obtain ⟨G, HG⟩ : ∃ G, Hid (w.heap.size = G) := ⟨_, rfl⟩
  rw [HG.out] at bW hS x0 x1 x2 hz hpl
  rw [HG.out] at hmlt
  have fin : ∀ wA wB wC m', Below G w wA → Below wA.heap.size wA wB → Mv p m m' wB wC → Mv p m m' w wC := fun wA wB wC m' h1 h2 h3 => Mv.eb (by rw [HG.out]; exact h1.trans (h2.mono (by have := h1.size; rw [HG.out] at this; exact this))) h3
  clear hm ha
  obtain ⟨R, HR⟩ : ∃ R, Hid (keepD L (newD n i from_ now nodes base) = R) := ⟨_, rfl⟩
  rw [HR.out]
  go_enter Tryz.func128, Tryz.ntmps128
  go_upto_region 1 with fail
  rw [← HW3.out, HG.out]
  go_wp2_with fail
  refine hmay.mono ?_
  rintro e wM ⟨rfl, hb⟩
  have hSM := hS.below hb
  have hQM := hQ3.below hb
  have y0 := hSM.u.c0
  have y1 := hSM.u.c1
  have y2 := hSM.u.c2
  have hc := hQM.c
  have hQd : Du X p m L wM.drew := hQM.keep rfl fun _ _ => rfl
  have hl := look_any hQd (wf_node n0 n1)
  have bz := below_alloc wM (.cells #[.int .i64 0, .int .u64 0, .int .i64 0, .int .u64 0, .int .u64 0, .int .u64 0, .int .u64 0] 162)
  have hQz := hQM.below bz
  have hcz := hQz.c
  have v0 := (hSM.below bz).u.c0
  have hQe : Du X p m L (wM.alloc (.cells #[.int .i64 0, .int .u64 0, .int .i64 0, .int .u64 0, .int .u64 0, .int .u64 0, .int .u64 0] 162)).drew := hQz.keep rfl fun _ _ => rfl
  have hle := look_any hQe (wf_node n0 n1)
  have bb := below_alloc wM (dC (getD L n) 162)
  have hBd := Bd.new 162 (getD L n) wM
  have hSN := hSM.below bb
  have hQN := hQM.below bb
  have hend := bW.trans ((hb.mono hz).trans (bb.mono (Nat.le_trans hz hb.size)))
  have z0 := hSN.u.c0
  have z1 := hSN.u.c1
  have z2 := hSN.u.c2
  have k1 := hBd.c1
  have cW := fun W => Bnd.with_any 0 (by decide) from_ W
  have cU := fun W h1 h2 => until_any (G + 1 + 1) (G + 1) base HB nodes now 0 hnd hnow.1 hnow.2 (Int.le_refl 0) (by omega) W h1 h2
  have cK : ∀ W, Du X p m L W → Calls Tryz.prog 167 #[.pointer (some ⟨p, 3, none⟩), .agg #[.int .i64 n, .int .u64 i, .int .i64 1, .int .u64 (Bnd.withS 0 from_ : Nat), .int .u64 now, .int .u64 0, .int .u64 (untilS base nodes now 0)]] W fun e w' => e = .returned (.tuple #[]) ∧ ∃ m', Du X p m' (keepD L (newD n i from_ now nodes base)) w' ∧ Mv p m m' W w' := fun W h => keep_any p m L (newD n i from_ now nodes base) hok W h
  unfold dV at hl hle
  obtain ⟨wN, HWN⟩ : ∃ wN, Hid (wN = (wM.alloc (dC (getD L n) 162)).drew) := ⟨_, rfl⟩
  have hSN' : Bs G n i 1 nodes base wN := by rw [HWN.out]; exact hSN.keep fun _ _ _ => rfl
  have hQN' : Du X p m L wN := by rw [HWN.out]; exact hQN.keep rfl fun _ _ => rfl
  have hend' : Below G w wN := by rw [HWN.out]; exact Below.drew' hend
  have hSd : Bs G n i 1 nodes base wN.drew := hSN'.keep fun _ _ _ => rfl
  have hQd2 : Du X p m L wN.drew := hQN'.keep rfl fun _ _ => rfl
  have hendd : Below G w wN.drew := Below.drew' hend'
  have s0 := hSN'.u.c0
  have s1 := hSN'.u.c1
  have s2 := hSN'.u.c2
  have cU2 := cU wN.drew hSd.cb hSd.cn
  unfold dC at bb z0 z1 z2 k1 hend HWN
  clear hSN hQN hBd hQd hQe hQz bz hSM hQM hS hQ3 hQ bb hb x0 x1 x2 hmay bW hend hi hnow hok
  rw [HR.out] at cK
  clear HR
  generalize untilS base nodes now 0 = un at *
  generalize Bnd.withS 0 from_ = wi at *
  rw [hh] at hl hle
  clear hh
  generalize getD L n = x at *
  go_wp2_with fail
  go_region
  all_goals
    go_upto_region 6 with fail
    rw [← HWN.out]
    go_region_with (first
      | (go_at_call 111; refine (cW _).mono ?_; rintro e wA ⟨rfl, rfl⟩)
      | (go_at_call 164; refine cU2.mono ?_; rintro e wB ⟨rfl, hbB⟩; have t0 := (hSd.below hbB).u.c0; have t1 := (hSd.below hbB).u.c1; have t2 := (hSd.below hbB).u.c2)
      | (go_at_call 167; refine (cK _ (hQd2.below hbB)).mono ?_; rintro e wC ⟨rfl, m', hQC, hmv⟩))
    all_goals
      go_wp2_with fail
      go_ret2
      exact ⟨rfl, m', hQC, fin _ _ _ _ hendd hbB hmv⟩
variable {X : Value → Array Value}
set_option maxRecDepth 100000 in
set_option maxHeartbeats 2000000 in
theorem raise_later (p : Nat) (m : Option Nat) (L : List Dbt) (n i s from_ now nodes : Int) (base : Nat) (ha : argS n s from_ = true) (hi : 0 ≤ i ∧ i ≤ 18446744073709551615) (hnow : 0 ≤ now ∧ now ≤ 18446744073709551615) (HB : Hid (base < 2 ^ 64)) (hnd : -9223372036854775808 ≤ nodes ∧ nodes ≤ 9223372036854775807) (hh : hasD L n = true) (hi3 : (getD L n).i < i) (w : World) (hQ : Du X p m L w) :
    Calls Tryz.prog 128 #[.pointer (some ⟨p, 3, none⟩), .agg #[.int .i64 n, .int .u64 i, .int .i64 s], .int .i64 from_, .int .u64 now, .int .i64 nodes, .float .f64 base] w fun e w' => e = .returned (.tuple #[.bool true, .int .i64 0]) ∧ ∃ m', Du X p m' (keepD L (newD n i from_ now nodes base)) w' ∧ Mv p m m' w w' := by
  have hok := newD_ok (base := base) (nodes := nodes) ha hi hnow
  have bW := boxW_below n i s nodes base w
  have hS := boxW_bs n i s nodes base w
  obtain ⟨w3, HW3⟩ : ∃ w3, Hid (w3 = boxW n i s nodes base w) := ⟨_, rfl⟩
  rw [← HW3.out] at bW hS
  unfold boxW at HW3
  obtain ⟨n0, n1, rfl, f0, f1⟩ := argS_true ha
  have hmay := may_any n i 1 w3
  have hm : mayS n 1 = true := by simp [mayS]; omega
  rw [hm] at hmay
  have hQ3 := hQ.below bW
  have x0 := hS.u.c0
  have x1 := hS.u.c1
  have x2 := hS.u.c2
  have hz := bW.size
  have hpl := hQ.lt
  have hmlt := hQ.mlt
  obtain ⟨G, HG⟩ : ∃ G, Hid (w.heap.size = G) := ⟨_, rfl⟩
  rw [HG.out] at bW hS x0 x1 x2 hz hpl
  rw [HG.out] at hmlt
  have fin : ∀ wA wB wC m', Below G w wA → Below wA.heap.size wA wB → Mv p m m' wB wC → Mv p m m' w wC := fun wA wB wC m' h1 h2 h3 => Mv.eb (by rw [HG.out]; exact h1.trans (h2.mono (by have := h1.size; rw [HG.out] at this; exact this))) h3
  clear hm ha
  obtain ⟨R, HR⟩ : ∃ R, Hid (keepD L (newD n i from_ now nodes base) = R) := ⟨_, rfl⟩
  rw [HR.out]
  go_enter Tryz.func128, Tryz.ntmps128
  go_upto_region 1 with fail
  rw [← HW3.out, HG.out]
  go_wp2_with fail
  refine hmay.mono ?_
  rintro e wM ⟨rfl, hb⟩
  have hSM := hS.below hb
  have hQM := hQ3.below hb
  have y0 := hSM.u.c0
  have y1 := hSM.u.c1
  have y2 := hSM.u.c2
  have hc := hQM.c
  have hQd : Du X p m L wM.drew := hQM.keep rfl fun _ _ => rfl
  have hl := look_any hQd (wf_node n0 n1)
  have bz := below_alloc wM (.cells #[.int .i64 0, .int .u64 0, .int .i64 0, .int .u64 0, .int .u64 0, .int .u64 0, .int .u64 0] 162)
  have hQz := hQM.below bz
  have hcz := hQz.c
  have v0 := (hSM.below bz).u.c0
  have hQe : Du X p m L (wM.alloc (.cells #[.int .i64 0, .int .u64 0, .int .i64 0, .int .u64 0, .int .u64 0, .int .u64 0, .int .u64 0] 162)).drew := hQz.keep rfl fun _ _ => rfl
  have hle := look_any hQe (wf_node n0 n1)
  have bb := below_alloc wM (dC (getD L n) 162)
  have hBd := Bd.new 162 (getD L n) wM
  have hSN := hSM.below bb
  have hQN := hQM.below bb
  have hend := bW.trans ((hb.mono hz).trans (bb.mono (Nat.le_trans hz hb.size)))
  have z0 := hSN.u.c0
  have z1 := hSN.u.c1
  have z2 := hSN.u.c2
  have k1 := hBd.c1
  have cW := fun W => Bnd.with_any 0 (by decide) from_ W
  have cU := fun W h1 h2 => until_any (G + 1 + 1) (G + 1) base HB nodes now 0 hnd hnow.1 hnow.2 (Int.le_refl 0) (by omega) W h1 h2
  have cK : ∀ W, Du X p m L W → Calls Tryz.prog 167 #[.pointer (some ⟨p, 3, none⟩), .agg #[.int .i64 n, .int .u64 i, .int .i64 1, .int .u64 (Bnd.withS 0 from_ : Nat), .int .u64 now, .int .u64 0, .int .u64 (untilS base nodes now 0)]] W fun e w' => e = .returned (.tuple #[]) ∧ ∃ m', Du X p m' (keepD L (newD n i from_ now nodes base)) w' ∧ Mv p m m' W w' := fun W h => keep_any p m L (newD n i from_ now nodes base) hok W h
  unfold dV at hl hle
  obtain ⟨wN, HWN⟩ : ∃ wN, Hid (wN = (wM.alloc (dC (getD L n) 162)).drew) := ⟨_, rfl⟩
  have hSN' : Bs G n i 1 nodes base wN := by rw [HWN.out]; exact hSN.keep fun _ _ _ => rfl
  have hQN' : Du X p m L wN := by rw [HWN.out]; exact hQN.keep rfl fun _ _ => rfl
  have hend' : Below G w wN := by rw [HWN.out]; exact Below.drew' hend
  have hSd : Bs G n i 1 nodes base wN.drew := hSN'.keep fun _ _ _ => rfl
  have hQd2 : Du X p m L wN.drew := hQN'.keep rfl fun _ _ => rfl
  have hendd : Below G w wN.drew := Below.drew' hend'
  have s0 := hSN'.u.c0
  have s1 := hSN'.u.c1
  have s2 := hSN'.u.c2
  have cU2 := cU wN.drew hSd.cb hSd.cn
  unfold dC at bb z0 z1 z2 k1 hend HWN
  clear hSN hQN hBd hQd hQe hQz bz hSM hQM hS hQ3 hQ bb hb x0 x1 x2 hmay bW hend hi hnow hok
  rw [HR.out] at cK
  clear HR
  generalize untilS base nodes now 0 = un at *
  generalize Bnd.withS 0 from_ = wi at *
  rw [hh] at hl hle
  clear hh
  generalize getD L n = x at *
  go_wp2_with fail
  go_region
  all_goals
    go_upto_region 6 with fail
    rw [← HWN.out]
    go_region_with (first
      | (go_at_call 111; refine (cW _).mono ?_; rintro e wA ⟨rfl, rfl⟩)
      | (go_at_call 164; refine cU2.mono ?_; rintro e wB ⟨rfl, hbB⟩; have t0 := (hSd.below hbB).u.c0; have t1 := (hSd.below hbB).u.c1; have t2 := (hSd.below hbB).u.c2)
      | (go_at_call 167; refine (cK _ (hQd2.below hbB)).mono ?_; rintro e wC ⟨rfl, m', hQC, hmv⟩))
    all_goals
      go_wp2_with fail
      go_ret2
      exact ⟨rfl, m', hQC, fin _ _ _ _ hendd hbB hmv⟩
variable {X : Value → Array Value}
section
variable {T : TypeId} {g : Nat} {x : Dbt} {w : World}
theorem Bd.set3 (h : Bd T g x w) (f : Nat) : Bd T g { x with f := f } (w.setCell ⟨g, 3, none⟩ (.int .u64 (f : Int))) := ⟨by simp [World.setCell, Array.getElem?_modify, h.heap]⟩
theorem Bd.set5 (h : Bd T g x w) (t : Int) : Bd T g { x with t := t } (w.setCell ⟨g, 5, none⟩ (.int .u64 t)) := ⟨by simp [World.setCell, Array.getElem?_modify, h.heap]⟩
theorem Bd.set6 (h : Bd T g x w) (u : Int) : Bd T g { x with u := u } (w.setCell ⟨g, 6, none⟩ (.int .u64 u)) := ⟨by simp [World.setCell, Array.getElem?_modify, h.heap]⟩
end
theorem Du.setOther {p q j : Nat} {m : Option Nat} {L : List Dbt} {w : World} (h : Du X p m L w) (hp : p ≠ q) (hm : ∀ b, m = some b → b ≠ q) (v : Value) : Du X p m L (w.setCell ⟨q, j, none⟩ v) :=
  h.keep (Below.heap_setCell _ _ _ _ (by simpa using hp)) fun b hb => Below.heap_setCell _ _ _ _ (by simpa using hm b hb)
theorem Bs.setOther {G q j : Nat} {n i s nodes : Int} {base : Nat} {w : World} (h : Bs G n i s nodes base w) (hq : G + 2 < q) (v : Value) : Bs G n i s nodes base (w.setCell ⟨q, j, none⟩ v) :=
  h.keep fun k _ hk => Below.heap_setCell _ _ _ _ (by simp; omega)
theorem Below.setOther {B q j : Nat} {a w : World} (h : Below B a w) (hq : B ≤ q) (v : Value) : Below B a (w.setCell ⟨q, j, none⟩ v) :=
  ⟨h.os, h.tape, h.output, by simpa [World.setCell] using h.size, fun k hk => (Below.heap_setCell _ _ _ _ (by simp; omega)).trans (h.block k hk)⟩
set_option maxRecDepth 100000 in
set_option maxHeartbeats 2000000 in
theorem raise_more (p : Nat) (m : Option Nat) (L : List Dbt) (n i s from_ now nodes : Int) (base : Nat) (ha : argS n s from_ = true) (HB : Hid (base < 2 ^ 64)) (hnd : -9223372036854775808 ≤ nodes ∧ nodes ≤ 9223372036854775807) (hh : hasD L n = true) (hi : (getD L n).i = i) (hf : Bnd.hasS (getD L n).f from_ = false) (w : World) (hQ : Du X p m L w) :
    Calls Tryz.prog 128 #[.pointer (some ⟨p, 3, none⟩), .agg #[.int .i64 n, .int .u64 i, .int .i64 s], .int .i64 from_, .int .u64 now, .int .i64 nodes, .float .f64 base] w fun e w' => e = .returned (.tuple #[.bool true, .int .i64 0]) ∧ ∃ m', Du X p m' (keepD L (moreD (getD L n) from_ nodes base)) w' ∧ Mv p m m' w w' := by
  have hgo := hQ.di.ok _ (hasD_true hh).1
  have hok := moreD_ok (base := base) (nodes := nodes) hgo ha hf
  have bW := boxW_below n i s nodes base w
  have hS := boxW_bs n i s nodes base w
  obtain ⟨w3, HW3⟩ : ∃ w3, Hid (w3 = boxW n i s nodes base w) := ⟨_, rfl⟩
  rw [← HW3.out] at bW hS
  unfold boxW at HW3
  obtain ⟨n0, n1, rfl, f0, f1⟩ := argS_true ha
  have hmay := may_any n i 1 w3
  have hm : mayS n 1 = true := by simp [mayS]; omega
  rw [hm] at hmay
  have hQ3 := hQ.below bW
  have x0 := hS.u.c0
  have x1 := hS.u.c1
  have x2 := hS.u.c2
  have hz := bW.size
  have hpl := hQ.lt
  have hmlt := hQ.mlt
  obtain ⟨G, HG⟩ : ∃ G, Hid (w.heap.size = G) := ⟨_, rfl⟩
  rw [HG.out] at bW hS x0 x1 x2 hz hpl
  rw [HG.out] at hmlt
  have fin : ∀ wA wC m', Below G w wA → Mv p m m' wA wC → Mv p m m' w wC := fun wA wC m' h1 h3 => Mv.eb (by rw [HG.out]; exact h1) h3
  clear hm ha
  obtain ⟨R, HR⟩ : ∃ R, Hid (keepD L (moreD (getD L n) from_ nodes base) = R) := ⟨_, rfl⟩
  rw [HR.out]
  go_enter Tryz.func128, Tryz.ntmps128
  go_upto_region 1 with fail
  rw [← HW3.out, HG.out]
  go_wp2_with fail
  refine hmay.mono ?_
  rintro e wM ⟨rfl, hb⟩
  have hSM := hS.below hb
  have hQM := hQ3.below hb
  have y0 := hSM.u.c0
  have y1 := hSM.u.c1
  have y2 := hSM.u.c2
  have hc := hQM.c
  have hQd : Du X p m L wM.drew := hQM.keep rfl fun _ _ => rfl
  have hl := look_any hQd (wf_node n0 n1)
  have bz := below_alloc wM (.cells #[.int .i64 0, .int .u64 0, .int .i64 0, .int .u64 0, .int .u64 0, .int .u64 0, .int .u64 0] 162)
  have hQz := hQM.below bz
  have hcz := hQz.c
  have v0 := (hSM.below bz).u.c0
  have hQe : Du X p m L (wM.alloc (.cells #[.int .i64 0, .int .u64 0, .int .i64 0, .int .u64 0, .int .u64 0, .int .u64 0, .int .u64 0] 162)).drew := hQz.keep rfl fun _ _ => rfl
  have hle := look_any hQe (wf_node n0 n1)
  have bb := below_alloc wM (dC (getD L n) 162)
  have hBd := Bd.new 162 (getD L n) wM
  have hSN := hSM.below bb
  have hQN := hQM.below bb
  have hend := bW.trans ((hb.mono hz).trans (bb.mono (Nat.le_trans hz hb.size)))
  rw [hh] at hl hle
  have z1 := hSN.u.c1
  have k1 := hBd.c1
  have k3 := hBd.c3
  have hlim := hgo.f
  have hhas := fun W => Bnd.has_any (getD L n).f hlim from_ W
  rw [hf] at hhas
  have ht0 := hgo.t0
  have ht1 := hgo.t64
  have cW := fun W => Bnd.with_any (getD L n).f hlim from_ W
  have cU := fun W h1 h2 => until_any (G + 1 + 1) (G + 1) base HB nodes (getD L n).a ((getD L n).t + 1) hnd hgo.a0 hgo.a1 (by omega) (by omega) W h1 h2
  have cK : ∀ W, Du X p m L W → Calls Tryz.prog 167 #[.pointer (some ⟨p, 3, none⟩), .agg #[.int .i64 (getD L n).n, .int .u64 (getD L n).i, .int .i64 (getD L n).s, .int .u64 (Bnd.withS (getD L n).f from_ : Nat), .int .u64 (getD L n).a, .int .u64 ((getD L n).t + 1), .int .u64 (untilS base nodes (getD L n).a ((getD L n).t + 1))]] W fun e w' => e = .returned (.tuple #[]) ∧ ∃ m', Du X p m' (keepD L (moreD (getD L n) from_ nodes base)) w' ∧ Mv p m m' W w' := fun W h => keep_any p m L (moreD (getD L n) from_ nodes base) hok W h
  unfold dV at hl hle
  obtain ⟨wN, HWN⟩ : ∃ wN, Hid (wN = (wM.alloc (dC (getD L n) 162)).drew) := ⟨_, rfl⟩
  have hBN : Bd 162 wM.heap.size (getD L n) wN := by rw [HWN.out]; exact hBd.keep rfl
  have hSN' : Bs G n i 1 nodes base wN := by rw [HWN.out]; exact hSN.keep fun _ _ _ => rfl
  have hQN' : Du X p m L wN := by rw [HWN.out]; exact hQN.keep rfl fun _ _ => rfl
  have hend' : Below G w wN := by rw [HWN.out]; exact Below.drew' hend
  have hgp : p ≠ wM.heap.size := by have := hQM.lt; omega
  have hgm : ∀ b, m = some b → b ≠ wM.heap.size := fun b hb => by have := hQM.mlt b hb; omega
  have hgG : G + 2 < wM.heap.size := hSM.lt
  unfold dC at bb z1 k1 k3 hend HWN
  clear hSN hQN hBd hQd hQe hQz bz hSM hQM hS hQ3 hQ bb hb x0 x1 x2 hh hmay bW hpl hmlt hlim hf hend hgo hok
  rw [HR.out] at cK
  clear HR
  generalize untilS base nodes (getD L n).a ((getD L n).t + 1) = un at *
  generalize getD L n = x at *
  generalize Bnd.withS x.f from_ = wi at *
  subst hi
  have hi1 : ¬ x.i < x.i := Int.lt_irrefl _
  go_wp2_with fail
  go_region
  all_goals
    go_upto_region 5 with fail
    rw [← HWN.out]
    clear HWN y0 y1 y2 hc hl hcz v0 hle z1 k1 k3
    generalize wM.heap.size = gx at *
    have s1 := hSN'.u.c1
    have b1 := hBN.c1
    have b3 := hBN.c3
    have e3 := hBN.free 3
    have hB1 := hBN.set3 wi
    have hS1 := hSN'.setOther (j := 3) hgG (.int .u64 (wi : Int))
    have hQ1 := hQN'.setOther (j := 3) hgp hgm (.int .u64 (wi : Int))
    have hE1 := Below.setOther (j := 3) hend' (by omega : G ≤ gx) (.int .u64 (wi : Int))
    obtain ⟨V1, HV1⟩ : ∃ V1, Hid (V1 = wN.setCell ⟨gx, 3, none⟩ (.int .u64 (wi : Int))) := ⟨_, rfl⟩
    rw [← HV1.out] at hB1 hS1 hQ1 hE1
    have b5 := hB1.c5
    have e5 := hB1.free 5
    have hB2 := hB1.set5 (x.t + 1)
    have hS2 := hS1.setOther (j := 5) hgG (.int .u64 (x.t + 1))
    have hQ2 := hQ1.setOther (j := 5) hgp hgm (.int .u64 (x.t + 1))
    have hE2 := Below.setOther (j := 5) hE1 (by omega : G ≤ gx) (.int .u64 (x.t + 1))
    obtain ⟨V2, HV2⟩ : ∃ V2, Hid (V2 = V1.setCell ⟨gx, 5, none⟩ (.int .u64 (x.t + 1))) := ⟨_, rfl⟩
    rw [← HV2.out] at hB2 hS2 hQ2 hE2
    have c4 := hB2.c4
    have c5 := hB2.c5
    have cU2 := cU V2 hS2.cb hS2.cn
    simp only at b5 c4 c5
    go_upto_region 12 with (go_at_call 82; refine (hhas _).mono ?_; rintro e wH ⟨rfl, rfl⟩)
    go_upto_region 13 with (go_at_call 111; refine (cW _).mono ?_; rintro e wA ⟨rfl, rfl⟩)
    rw [← HV1.out]
    go_upto_region 14 with fail
    rw [← HV2.out]
    go_wp2_with fail
    refine cU2.mono ?_
    rintro e wU ⟨rfl, hbU⟩
    have hBU := hB2.below hbU
    have e6 := hBU.free 6
    have hB3 := hBU.set6 un
    have hQ3 := (hQ2.below hbU).setOther (j := 6) hgp hgm (.int .u64 un)
    have hE3 := Below.setOther (j := 6) (hE2.trans (hbU.mono (by have := hB2.lt; omega))) (by omega : G ≤ gx) (.int .u64 un)
    have d6 := hBU.c6
    obtain ⟨V3, HV3⟩ : ∃ V3, Hid (V3 = wU.setCell ⟨gx, 6, none⟩ (.int .u64 un)) := ⟨_, rfl⟩
    rw [← HV3.out] at hB3 hQ3 hE3
    have a0 := hB3.c0
    have a1 := hB3.c1
    have a2 := hB3.c2
    have a3 := hB3.c3
    have a4 := hB3.c4
    have a5 := hB3.c5
    have a6 := hB3.c6
    simp only at a0 a1 a2 a3 a4 a5 a6 d6
    have cK2 := cK V3 hQ3
    go_upto_region 15 with fail
    rw [← HV3.out]
    go_wp2_with fail
    refine cK2.mono ?_
    rintro e wC ⟨rfl, m', hQC, hmv⟩
    go_wp2_with fail
    go_ret2
    exact ⟨rfl, m', hQC, fin _ _ _ hE3 hmv⟩
theorem raise_any (p : Nat) (m : Option Nat) (L : List Dbt) (n i s from_ now nodes : Int) (base : Nat) (hi : 0 ≤ i ∧ i ≤ 18446744073709551615) (hnow : 0 ≤ now ∧ now ≤ 18446744073709551615) (HB : Hid (base < 2 ^ 64)) (hnd : -9223372036854775808 ≤ nodes ∧ nodes ≤ 9223372036854775807) (w : World) (hQ : Du X p m L w) :
    Calls Tryz.prog 128 #[.pointer (some ⟨p, 3, none⟩), .agg #[.int .i64 n, .int .u64 i, .int .i64 s], .int .i64 from_, .int .u64 now, .int .i64 nodes, .float .f64 base] w fun e w' => e = .returned (.tuple #[.bool (raiseS L n i s from_ now nodes base).1, .int .i64 (raiseS L n i s from_ now nodes base).2.1]) ∧ ∃ m', Du X p m' (raiseS L n i s from_ now nodes base).2.2 w' ∧ Mv p m m' w w' := by
  unfold raiseS
  split
  · rename_i ha
    exact (raise_arg p n i s from_ now nodes base ha w).mono fun e w' ⟨h1, h2⟩ => ⟨h1, m, hQ.below h2, Mv.of h2⟩
  · rename_i ha
    have ha : argS n s from_ = true := by simpa using ha
    split
    · rename_i hh
      cases h0 : hasD L n
      · exact raise_none p m L n i s from_ now nodes base ha hi hnow HB hnd h0 w hQ
      · rcases hh with hh | hh
        · rw [h0] at hh; cases hh
        · exact raise_later p m L n i s from_ now nodes base ha hi hnow HB hnd h0 hh w hQ
    · rename_i hh
      have h0 : hasD L n = true := by
        cases e : hasD L n
        · exact absurd (Or.inl e) hh
        · rfl
      split
      · rename_i h1
        exact (raise_old p m L n i s from_ now nodes base ha h0 h1 w hQ).mono fun e w' ⟨h1, h2⟩ => ⟨h1, m, hQ.below h2, Mv.of h2⟩
      · rename_i h1
        have he : (getD L n).i = i := by
          have : ¬ (getD L n).i < i := fun h => hh (Or.inr h)
          omega
        split
        · rename_i h2
          exact (raise_told p m L n i s from_ now nodes base ha h0 he h2 w hQ).mono fun e w' ⟨h1, h2⟩ => ⟨h1, m, hQ.below h2, Mv.of h2⟩
        · rename_i h2
          exact raise_more p m L n i s from_ now nodes base ha HB hnd h0 he (by simpa using h2) w hQ
theorem insD_perm (x : Dbt) (L : List Dbt) : (insD x L).Perm (x :: L) := by
  induction L with
  | nil => exact List.Perm.refl _
  | cons y r ih =>
    unfold insD
    split
    · exact List.Perm.refl _
    · exact (List.Perm.cons y ih).trans (List.Perm.swap x y r)
theorem lessD_perm {K L : List Dbt} (h : K.Perm L) (n : Int) : (lessD K n).Perm (lessD L n) := h.filter _
theorem keep_perm {K L : List Dbt} (h : K.Perm L) (x : Dbt) : (lessD K x.n ++ [x]).Perm (keepD L x) :=
  (List.perm_append_comm (l₁ := lessD K x.n) (l₂ := [x])).trans ((List.Perm.cons x (lessD_perm h x.n)).trans (insD_perm x _).symm)
theorem set_perm {K L : List Dbt} (h : K.Perm L) (hL : Di L) {k : Nat} (hk : k < K.length) {x : Dbt} (hx : x.n = K[k].n) : (K.set k x).Perm (keepD L x) := by
  have e1 : K = K.take k ++ K[k] :: K.drop (k + 1) := by rw [List.getElem_cons_drop, List.take_append_drop]
  have e2 : K.set k x = K.take k ++ x :: K.drop (k + 1) := by
    rw [List.set_eq_take_append_cons_drop, if_pos hk]
  generalize K.take k = A at e1 e2
  generalize K.drop (k + 1) = R at e1 e2
  generalize K[k] = y at *
  have p1 : (y :: (A ++ R)).Perm L := (List.perm_middle.symm.trans (by rw [← e1])).trans h
  have hnd : (L.map Dbt.n).Nodup := List.pairwise_map.2 (hL.sort.imp fun h => by omega)
  have hnd2 := ((p1.map Dbt.n).nodup_iff).2 hnd
  rw [List.map_cons, List.nodup_cons] at hnd2
  have hno : ∀ z ∈ A ++ R, z.n ≠ x.n := fun z hz e => hnd2.1 (by rw [← hx, ← e]; exact List.mem_map_of_mem hz)
  have p2 : (A ++ R).Perm (lessD L x.n) := by
    have := lessD_perm p1 x.n
    rw [show lessD (y :: (A ++ R)) x.n = lessD (A ++ R) x.n from List.filter_cons_of_neg (by simp [hx]), lessD_none hno] at this
    exact this
  rw [e2]
  exact List.perm_middle.trans ((List.Perm.cons x p2).trans (insD_perm x _).symm)
theorem filter_next (m : Int) : ∀ L : List Dbt, L.Pairwise (fun x y => x.n < y.n) → L.filter (fun x => decide (x.n < m + 1)) = L.filter (fun x => decide (x.n < m)) ++ L.filter (fun x => x.n == m)
  | [], _ => rfl
  | x :: r, h => by
    rw [List.pairwise_cons] at h
    have ih := filter_next m r h.2
    by_cases h1 : x.n < m
    · rw [List.filter_cons_of_pos (by simp; omega), List.filter_cons_of_pos (by simpa using h1), List.filter_cons_of_neg (by simp; omega), ih]
      rfl
    · have e1 : r.filter (fun x => decide (x.n < m)) = [] := List.filter_eq_nil_iff.2 fun y hy => by have := h.1 y hy; simp; omega
      rw [e1, List.nil_append] at ih
      by_cases h2 : x.n = m
      · rw [List.filter_cons_of_pos (by simp; omega), List.filter_cons_of_neg (by simpa using h1), List.filter_cons_of_pos (by simpa using h2), ih, e1]
        rfl
      · rw [List.filter_cons_of_neg (by simp; omega), List.filter_cons_of_neg (by simpa using h1), List.filter_cons_of_neg (by simpa using h2), ih, e1]
        rfl
theorem filter_one {L : List Dbt} (hL : Di L) (m : Int) : (L.filter (fun x => x.n == m)).length ≤ 1 := by
  have hs := hL.sort.filter (fun x => x.n == m)
  have ha : ∀ x ∈ L.filter (fun x => x.n == m), x.n = m := fun x hx => by simpa using (List.mem_filter.1 hx).2
  generalize L.filter (fun x => x.n == m) = l at *
  match l, hs, ha with
  | [], _, _ => exact Nat.zero_le _
  | [x], _, _ => exact Nat.le_refl _
  | x :: y :: r, hs, ha =>
    have h1 := (List.pairwise_cons.1 hs).1 y List.mem_cons_self
    have h2 := ha x List.mem_cons_self
    have h3 := ha y (List.mem_cons_of_mem _ List.mem_cons_self)
    omega
theorem filter_perm {K L : List Dbt} (h : K.Perm L) (hL : Di L) (m : Int) : K.filter (fun x => x.n == m) = L.filter (fun x => x.n == m) := by
  have hp := h.filter (fun x => x.n == m)
  have h1 := filter_one hL m
  generalize L.filter (fun x => x.n == m) = l at *
  match l, h1, hp with
  | [], _, hp => exact hp.eq_nil
  | [x], _, hp => exact List.perm_singleton.1 hp
theorem filter_all {L : List Dbt} (hL : Di L) : L.filter (fun x => decide (x.n < 64)) = L := List.filter_eq_self.2 fun x hx => by simpa using (hL.ok x hx).n1
theorem filter_none {L : List Dbt} (hL : Di L) : L.filter (fun x => decide (x.n < 0)) = [] := List.filter_eq_nil_iff.2 fun x hx => by have := (hL.ok x hx).n0; simp; omega
theorem take_snoc (f : Dbt → Bool) {K : List Dbt} {k : Nat} (hk : k < K.length) : (K.take (k + 1)).filter f = (K.take k).filter f ++ (if f K[k] then [K[k]] else []) := by
  rw [← List.take_append_getElem hk, List.filter_append]
  cases h : f K[k] <;> simp [h]
theorem OwD.blk {T : TypeId} {B : Nat} {v : Value} {l : List Dbt} {w : World} (h : OwD T B v l w) {g : Nat} (hg : v.ownBlock = some g) : B ≤ g ∧ ∃ cur, w.heap[g]? = some (.cells cur T (0, 0)) := by
  rcases h.2 with ⟨rfl, _⟩ | ⟨g', cap, cur, rfl, hb, hh, _⟩
  · cases hg
  · cases hg
    exact ⟨hb, cur, hh⟩
theorem OwD.up {T : TypeId} {C : Nat} {v : Value} {l : List Dbt} {w : World} (h : OwD T 0 v l w) (hg : ∀ g, v.ownBlock = some g → C ≤ g) : OwD T C v l w := by
  unfold OwD at *
  refine ⟨h.1, ?_⟩
  rcases h.2 with ⟨e, e2⟩ | ⟨g', cap, cur, rfl, _, hh, hr⟩
  · exact Or.inl ⟨e, e2⟩
  · exact Or.inr ⟨g', cap, cur, rfl, hg _ rfl, hh, hr⟩
structure Rg (Gd : Nat → Prop) (q : Nat) (K : List Dbt) (w : World) : Prop where
  lt_ : ¬ Gd q
  is : ∃ v, w.heap[q]? = some (.cells #[v] 103 (0, 0)) ∧ OwD 172 0 v K w ∧ ∀ g, v.ownBlock = some g → Gd g
section
variable {Gd : Nat → Prop} {q : Nat} {K : List Dbt} {w w' : World}
theorem Rg.lt (h : Rg Gd q K w) : q < w.heap.size := by
  obtain ⟨v, h1, _⟩ := h.is
  exact (Array.getElem?_eq_some_iff.1 h1).1
theorem Rg.keep (h : Rg Gd q K w) (e : w'.heap[q]? = w.heap[q]?) (hw : ∀ g cur, Gd g → w.heap[g]? = some (.cells cur 172 (0, 0)) → w'.heap[g]? = w.heap[g]?) : Rg Gd q K w' := by
  obtain ⟨v, h1, h2, h3⟩ := h.is
  refine ⟨h.lt_, v, e.trans h1, h2.keep fun g hg _ => ?_, h3⟩
  obtain ⟨_, cur, k2⟩ := h2.blk hg
  exact hw g cur (h3 g hg) k2
theorem Rg.below (h : Rg Gd q K w) (k : Below w.heap.size w w') : Rg Gd q K w' := h.keep (k.block q h.lt) fun g _ _ hc => k.block g (Array.getElem?_eq_some_iff.1 hc).1
theorem Rg.mono {Ge : Nat → Prop} (h : Rg Ge q K w) (hB : ∀ g, Ge g → Gd g) (hq : ¬ Gd q) : Rg Gd q K w := by
  obtain ⟨v, h1, h2, h3⟩ := h.is
  exact ⟨hq, v, h1, h2, fun g hg => hB g (h3 g hg)⟩
theorem Rg.set (hq : ¬ Gd q) {v : Value} {M : List Dbt} {C : Nat} (hO : OwD 172 C v M w) (hC : ∀ g, C ≤ g → Gd g) (hh : ∃ u, w.heap[q]? = some (.cells #[u] 103 (0, 0))) : Rg Gd q M (w.setCell ⟨q, 0, none⟩ v) := by
  obtain ⟨u, hh⟩ := hh
  exact ⟨hq, v, by simp [World.setCell, Array.getElem?_modify, hh], (hO.mono (Nat.zero_le _)).keep fun g hg _ => Below.heap_setCell _ _ _ _ (show g ≠ q from fun e => hq (e ▸ hC g (hO.lt g hg).1)), fun g hg => hC g (hO.lt g hg).1⟩
end
theorem But.setCell {B q : Nat} {a w : World} (h : But B [q] a w) (u : Value) : But B [q] a (w.setCell ⟨q, 0, none⟩ u) :=
  ⟨h.os, h.tape, h.output, by simpa [World.setCell] using h.size, fun k hk hp => (Below.heap_setCell _ _ _ _ (by simpa using hp)).trans (h.block k hk hp)⟩
set_option maxHeartbeats 2000000 in
set_option maxRecDepth 100000 in
theorem rdrop_any (Gd : Nat → Prop) (q : Nat) (K : List Dbt) (hK : K.length ≤ 1000) (n : Int) (w : World) (hR : Rg Gd q K w) :
    Calls Tryz.prog 92 #[.pointer (some ⟨q, 0, none⟩), .int .i64 n] w fun e w' => e = .returned (.bool (decide ((lessD K n).length < K.length))) ∧ Rg (fun g => w.heap.size ≤ g) q (lessD K n) w' ∧ But w.heap.size [q] w w' := by
  have hrz := hR.lt
  obtain ⟨v, hh, hOK, _⟩ := hR.is
  clear hR
  obtain ⟨a, cap, rfl, hcap, hmx, hRb⟩ := hOK.rb
  have hc : w.cell? ⟨q, 0, none⟩ = some (.slice a K.length cap) := by simp [World.cell?, hh]
  have ba := below_alloc w (.cells #[] 172)
  have hE := OwD.empty (B := w.heap.size) (heap_alloc_new w (.cells #[] 172)) (Nat.le_refl _)
  obtain ⟨N, HN⟩ : ∃ N, Hid (K.length = N) := ⟨_, rfl⟩
  rw [HN.out] at hc hcap
  rw [HN.out]
  have HALL : Hid (K.take N = K) := by rw [← HN.out, List.take_length]; exact rfl
  obtain ⟨M, HM⟩ : ∃ M, Hid (lessD K n = M) := ⟨_, rfl⟩
  rw [HM.out]
  have hNc : (N : Int) ≤ cap := by omega
  have hNl : N ≤ 1000 := by rw [← HN.out]; exact hK
  clear hmx hRb
  go_enter Tryz.func92, Tryz.ntmps92
  go_wp2_with fail
  go_loopg [5, 6] N (fun gk t5 t6 wr => ∃ k : Nat, k + gk = N ∧ t6 = .int .i64 k ∧ OwD 172 w.heap.size t5 (lessD (K.take k) n) wr ∧ Below w.heap.size w wr)
  case atStart => exact ⟨0, by omega, rfl, hE, ba⟩
  case round =>
    clear hE ba
    obtain ⟨k, hk, rfl, hO, hBk⟩ := hrel
    have c1 := (World.cell?_of_block (w := w) (hBk.block q hrz)).trans hc
    have hz := hBk.size
    by_cases hlt : (k : Int) < N
    · have hkl : k < K.length := by rw [HN.out]; omega
      obtain ⟨g, off, cap', e, _, _, hg, h7⟩ := hOK.rb.at hkl
      cases e
      have h7 := h7.keep (hBk.block g hg)
      have HS : Hid (lessD (K.take (k + 1)) n = lessD (K.take k) n ++ (if K[k].n != n then [K[k]] else [])) := take_snoc (fun x => x.n != n) hkl
      have hll : (lessD (K.take k) n).length ≤ 1000 := Nat.le_trans (lessD_length_le _ _) (by rw [List.length_take]; omega)
      generalize K[k] = x at *
      generalize lessD (K.take k) n = P at *
      obtain ⟨d0, d1, d2, d3, d4, d5, d6⟩ := h7
      have k0 : (0 : Int) ≤ k := by omega
      cases hx : (x.n != n)
      case false =>
        rw [hx] at HS
        simp only [Bool.false_eq_true, if_false, List.append_nil] at HS
        go_wp2_with fail
        go_roundg (gk - 1)
        case rel => exact ⟨k + 1, by omega, by go_num, by rw [HS.out]; exact hO, hBk⟩
        case measure => omega
      case true =>
        rw [hx] at HS
        simp only [if_true] at HS
        have bc := below_alloc wr (dC x 172)
        have hB4 := hBk.trans (bc.mono hz)
        have hO4 := hO.below bc
        have hY := Rb.one (Bd.new 172 x wr)
        have hz4 := hB4.size
        unfold dC at hB4 hO4 hY hz4
        clear bc
        go_wp2_with (at_builtin; refine wpList_appD Tryz.underlying101 Tryz.infoE _ rfl (.tmp 29) (.tmp 37) rfl w.heap.size _ P rfl hO4 hz4 wr.heap.size 0 1 [x] 1 rfl rfl hY (by simp; omega) ?_; intro v' w' h1 h3 h4)
        have hB5 : Below w.heap.size w w' := hB4.trans ⟨h3.os, h3.tape, h3.output, h3.size, fun q hq => h3.block q (by omega) (fun e => by have := (hO4.lt q e.symm).1; omega)⟩
        clear h3 h4 hY
        go_wp2_with fail
        go_roundg (gk - 1)
        case rel => exact ⟨k + 1, by omega, by go_num, by rw [HS.out]; exact h1, hB5⟩
        case measure => omega
    · obtain rfl : k = N := by omega
      rw [HALL.out, HM.out] at hO
      have hu := (hBk.block q hrz).trans hh
      have f1 : wr.frozen? ⟨q, 0, none⟩ = false := by simp [World.frozen?, hu]
      obtain ⟨av, acap, rfl, _⟩ := hO.rb
      have hend := Rg.set (Gd := fun g => w.heap.size ≤ g) (by omega) hO (fun _ h => h) ⟨_, hu⟩
      have hbt := (But.of (S := [q]) hBk).setCell (.slice av M.length acap)
      by_cases hlm : M.length < k
      · have e1 : decide (M.length < k) = true := by simpa using hlm
        have hlm2 : (M.length : Int) < k := by omega
        go_wp2_with fail
        go_ret
        exact ⟨rfl, hend, hbt⟩
      · have e1 : decide (M.length < k) = false := by simpa using hlm
        have hlm2 : ¬ (M.length : Int) < k := by omega
        go_wp2_with fail
        go_ret
        exact ⟨rfl, hend, hbt⟩
theorem filter_len_le (f : Dbt → Bool) (K : List Dbt) (k : Nat) : ((K.take k).filter f).length ≤ K.length := Nat.le_trans (List.length_filter_le _ _) (by rw [List.length_take]; omega)
set_option maxHeartbeats 4000000 in
set_option maxRecDepth 100000 in
theorem rall_any (Gd : Nat → Prop) (q : Nat) (K L : List Dbt) (hP : K.Perm L) (hL : Di L) (w : World) (hR : Rg Gd q K w) :
    Calls Tryz.prog 91 #[.pointer (some ⟨q, 0, none⟩)] w fun e w' => (∃ v, e = .returned v ∧ OwD 172 w.heap.size v L w') ∧ Below w.heap.size w w' := by
  have hrz := hR.lt
  obtain ⟨v, hh, hOK, _⟩ := hR.is
  clear hR
  obtain ⟨a, cap, rfl, hcap, hmx, hRb⟩ := hOK.rb
  have hc : w.cell? ⟨q, 0, none⟩ = some (.slice a K.length cap) := by simp [World.cell?, hh]
  have ba := below_alloc w (.cells #[] 172)
  have hE := OwD.empty (B := w.heap.size) (heap_alloc_new w (.cells #[] 172)) (Nat.le_refl _)
  obtain ⟨N, HN⟩ : ∃ N, Hid (K.length = N) := ⟨_, rfl⟩
  rw [HN.out] at hc hcap
  have HALL : Hid (K.take N = K) := by rw [← HN.out, List.take_length]; exact rfl
  have hNl : N ≤ 64 := by rw [← HN.out, hP.length_eq]; exact hL.length
  have hNc : (N : Int) ≤ cap := by omega
  have HE0 : Hid (L.filter (fun x => decide (x.n < ((0 : Nat) : Int))) = []) := filter_none hL
  have HE1 : ∀ m : Nat, Hid (L.filter (fun x => decide (x.n < ((m + 1 : Nat) : Int))) = L.filter (fun x => decide (x.n < (m : Int))) ++ K.filter (fun x => x.n == (m : Int))) := fun m => by
    rw [filter_perm hP hL m]
    have := filter_next m L hL.sort
    exact (by simpa using this : _ = _)
  have HE2 : Hid (L.filter (fun x => decide (x.n < ((64 : Nat) : Int))) = L) := filter_all hL
  have hle : ∀ m : Int, (L.filter (fun x => decide (x.n < m))).length ≤ 64 := fun m => Nat.le_trans (List.length_filter_le _ _) hL.length
  clear hmx hRb
  go_enter Tryz.func91, Tryz.ntmps91
  go_wp2_with fail
  go_loopg [3, 4] 64 (fun gk t3 t4 wr => ∃ m : Nat, m + gk = 64 ∧ t4 = .int .i64 m ∧ OwD 172 w.heap.size t3 (L.filter (fun x => decide (x.n < (m : Int)))) wr ∧ Below w.heap.size w wr)
  case atStart => exact ⟨0, by omega, rfl, by rw [HE0.out]; exact hE, ba⟩
  case round =>
    clear hE ba HE0
    obtain ⟨m, hm, rfl, hOm, hBm⟩ := hrel
    by_cases hm64 : (m : Int) < 64
    · have HS := HE1 m
      have hlF := hle m
      have m0 : (0 : Int) ≤ m := by omega
      clear HE1 HE2 hle
      obtain ⟨gz, hgz⟩ : ∃ gz : Nat, gz = gk - 1 := ⟨_, rfl⟩
      obtain ⟨F, HF⟩ : ∃ F, Hid (L.filter (fun x => decide (x.n < (m : Int))) = F) := ⟨_, rfl⟩
      rw [HF.out] at hOm HS hlF
      go_wp2_with fail
      go_loopg [3, 5] N (fun gk t3 t5 wr => ∃ k : Nat, k + gk = N ∧ t5 = .int .i64 k ∧ OwD 172 w.heap.size t3 (F ++ (K.take k).filter (fun x => x.n == (m : Int))) wr ∧ Below w.heap.size w wr)
      case atStart => exact ⟨0, by omega, rfl, by simpa using hOm, hBm⟩
      case round =>
        clear hOm hBm
        obtain ⟨k, hk, rfl, hO, hBk⟩ := hrel
        have c1 := (World.cell?_of_block (w := w) (hBk.block q hrz)).trans hc
        have hz := hBk.size
        by_cases hlt : (k : Int) < N
        · have hkl : k < K.length := by rw [HN.out]; omega
          obtain ⟨g, off, cap', e, _, _, hg, h7⟩ := hOK.rb.at hkl
          cases e
          have h7 := h7.keep (hBk.block g hg)
          have HT : Hid (F ++ (K.take (k + 1)).filter (fun x => x.n == (m : Int)) = (F ++ (K.take k).filter (fun x => x.n == (m : Int))) ++ (if K[k].n == (m : Int) then [K[k]] else [])) := by
            rw [List.append_assoc, take_snoc (fun x => x.n == (m : Int)) hkl]
            exact rfl
          have hll : (F ++ (K.take k).filter (fun x => x.n == (m : Int))).length ≤ 128 := by
            have := filter_len_le (fun x => x.n == (m : Int)) K k
            rw [List.length_append]
            have := HN.out
            omega
          generalize K[k] = x at *
          generalize F ++ (K.take k).filter (fun x => x.n == (m : Int)) = P at *
          obtain ⟨d0, d1, d2, d3, d4, d5, d6⟩ := h7
          have k0 : (0 : Int) ≤ k := by omega
          cases hx : (x.n == (m : Int))
          case false =>
            rw [hx] at HT
            simp only [Bool.false_eq_true, if_false, List.append_nil] at HT
            go_wp2_with fail
            go_roundg (gk - 1)
            case rel => exact ⟨k + 1, by omega, by go_num, by rw [HT.out]; exact hO, hBk⟩
            case measure => omega
          case true =>
            rw [hx] at HT
            simp only [if_true] at HT
            have bc := below_alloc wr (dC x 172)
            have hB4 := hBk.trans (bc.mono hz)
            have hO4 := hO.below bc
            have hY := Rb.one (Bd.new 172 x wr)
            have hz4 := hB4.size
            unfold dC at hB4 hO4 hY hz4
            clear bc
            go_wp2_with (at_builtin; refine wpList_appD Tryz.underlying101 Tryz.infoE _ rfl (.tmp 31) (.tmp 39) rfl w.heap.size _ P rfl hO4 hz4 wr.heap.size 0 1 [x] 1 rfl rfl hY (by simp; omega) ?_; intro v' w' h1 h3 h4)
            have hB5 : Below w.heap.size w w' := hB4.trans ⟨h3.os, h3.tape, h3.output, h3.size, fun q hq => h3.block q (by omega) (fun e => by have := (hO4.lt q e.symm).1; omega)⟩
            clear h3 h4 hY
            go_wp2_with fail
            go_roundg (gk - 1)
            case rel => exact ⟨k + 1, by omega, by go_num, by rw [HT.out]; exact h1, hB5⟩
            case measure => omega
        · obtain rfl : k = N := by omega
          rw [HALL.out] at hO
          obtain ⟨av, acap, rfl, _⟩ := hO.rb
          go_wp2_with fail
          go_roundg gz
          case rel => exact ⟨m + 1, by omega, by go_num, by rw [HS.out]; rw [List.length_append] at hO; exact hO, hBk⟩
          case measure => omega
    · obtain rfl : m = 64 := by omega
      rw [HE2.out] at hOm
      obtain ⟨av, acap, rfl, _⟩ := hOm.rb
      go_wp2_with fail
      go_ret
      exact ⟨⟨_, rfl, hOm⟩, hBm⟩
end Go.Proofs.YtpoofjnfaijjjaaGreatDoor.Do
