/-
  DoubtOnce.
-/
import Derived.Test.YtahiiieifdhgeaaWso
namespace Go.Proofs.Ytahiiieifdhgeaa
open Go.RowKit Go.Maps

/-- A doubt as this law raises it. -/
def onD (now n : Int) : Dbt := newD n (n + 7) 1 now 64 Re.two
structure On (now : Int) (L : List Dbt) : Prop where
  di : Di L
  is : ∀ x ∈ L, x = onD now x.n
theorem On.nil (now : Int) : On now [] := ⟨Di.nil, fun _ h => by cases h⟩
theorem onD_ok {now n : Int} (hn : 0 ≤ n ∧ n < 64) (hnow : 0 ≤ now ∧ now ≤ 4294967295) : DbtOk (onD now n) :=
  newD_ok (s := 1) (by simp [argS, mayS]; omega) (by omega) (by omega)
theorem onD_u {now n : Int} (hnow : 0 ≤ now ∧ now ≤ 4294967295) : (onD now n).u = now + 14 := until_two now 64 7 (by omega) bits_64 (by omega) (by omega)
theorem has_keep (L : List Dbt) (x : Dbt) (z : Int) : hasD (keepD L x) z = (z == x.n || hasD L z) := by
  cases h : hasD (keepD L x) z
  · obtain ⟨h1, _⟩ := hasD_false h
    have e1 : (z == x.n) = false := by
      cases e : (z == x.n)
      · rfl
      · have e' : z = x.n := by simpa using e
        exact absurd e'.symm (h1 x (keepD_mem.2 (Or.inl rfl)))
    have e2 : hasD L z = false := by
      cases e : hasD L z
      · rfl
      · obtain ⟨h2, h3⟩ := hasD_true e
        have hne : z ≠ x.n := by simpa using e1
        exact absurd h3 (h1 _ (keepD_mem.2 (Or.inr ⟨h2, by rw [h3]; exact hne⟩)))
    rw [e1, e2]; rfl
  · obtain ⟨h1, h2⟩ := hasD_true h
    rcases keepD_mem.1 h1 with h3 | ⟨h3, h4⟩
    · rw [h3] at h2; simp [h2]
    · have := hasD_of h3
      rw [h2] at this
      rw [this, Bool.or_true]
theorem has_less (L : List Dbt) (n z : Int) : hasD (lessD L n) z = (z != n && hasD L z) := by
  cases h : hasD (lessD L n) z
  · obtain ⟨h1, _⟩ := hasD_false h
    cases e : (z != n)
    · rfl
    · cases e2 : hasD L z
      · rfl
      · obtain ⟨h2, h3⟩ := hasD_true e2
        have hne : z ≠ n := by simpa using e
        exact absurd h3 (h1 _ (lessD_mem.2 ⟨h2, by rw [h3]; exact hne⟩))
  · obtain ⟨h1, h2⟩ := hasD_true h
    obtain ⟨h3, h4⟩ := lessD_mem.1 h1
    have := hasD_of h3
    rw [h2] at this h4
    rw [this, Bool.and_true]
    simpa using h4
theorem less_len {L : List Dbt} (hL : Di L) (n : Int) : (if hasD L n then L.length - 1 else L.length) = (lessD L n).length := by
  cases h : hasD L n
  · rw [lessD_none (hasD_false h).1]; simp
  · obtain ⟨h1, h2⟩ := hasD_true h
    have := lessD_length hL h1
    rw [h2] at this
    simp; omega
/-- One more is raised. -/
theorem once_step {now : Int} (hnow : 0 ≤ now ∧ now ≤ 4294967295) {L : List Dbt} (h : On now L) {n : Int} (n0 : 0 ≤ n) (n1 : n < 64) :
    ∃ y f L', raiseS L n (n + 7) 1 1 now 64 Re.two = (y, f, L') ∧ On now L' ∧ (∀ z, (z == n || hasD L z) = hasD L' z) ∧ (if hasD L n then L.length else L.length + 1) = L'.length := by
  have ha : argS n 1 1 = true := by simp [argS, mayS]; omega
  cases hh : hasD L n
  · refine ⟨_, _, _, raise_is_new ha (Or.inl hh), ⟨h.di.keep (onD_ok ⟨n0, n1⟩ hnow), fun x hx => ?_⟩, fun z => (has_keep L (newD n (n + 7) 1 now 64 Re.two) z).symm, by simp; exact (keepD_length_new (hasD_false hh).1).symm⟩
    rcases keepD_mem.1 hx with rfl | ⟨h1, _⟩
    · rfl
    · exact h.is x h1
  · obtain ⟨h1, h2⟩ := hasD_true hh
    have h3 := h.is _ h1
    rw [h2] at h3
    refine ⟨_, _, _, raise_is_told ha hh (by rw [h3]; rfl) (by rw [h3]; show Bnd.hasS (Bnd.withS 0 1) 1 = true; decide), h, fun z => ?_, by simp⟩
    by_cases e : z = n
    · subst e; simp [hh]
    · simp [e]
theorem On.less {now : Int} {L : List Dbt} (h : On now L) (n : Int) : On now (lessD L n) := ⟨h.di.less n, fun x hx => h.is x (lessD_mem.1 hx).1⟩
theorem On.early {now : Int} (hnow : 0 ≤ now ∧ now ≤ 4294967295) {L : List Dbt} (h : On now L) : overD L (now + 13) = [] ∧ stayD L (now + 13) = L := by
  have hu : ∀ x ∈ L, x.u = now + 14 := fun x hx => by rw [h.is x hx]; exact onD_u hnow
  refine ⟨List.filter_eq_nil_iff.2 fun x hx => ?_, List.filter_eq_self.2 fun x hx => ?_⟩
  · have := hu x hx; simp; omega
  · have := hu x hx; simp; omega
theorem On.late {now : Int} (hnow : 0 ≤ now ∧ now ≤ 4294967295) {L : List Dbt} (h : On now L) : overD L (now + 14) = L ∧ stayD L (now + 14) = [] := by
  have hu : ∀ x ∈ L, x.u = now + 14 := fun x hx => by rw [h.is x hx]; exact onD_u hnow
  refine ⟨List.filter_eq_self.2 fun x hx => ?_, List.filter_eq_nil_iff.2 fun x hx => ?_⟩
  · have := hu x hx; simp; omega
  · have := hu x hx; simp; omega

set_option maxRecDepth 100000 in
set_option maxHeartbeats 4000000 in
theorem once_core (a : Option Addr) (cap : Nat) (l : List Int) (drop now : Int) (hd : 0 ≤ drop ∧ drop ≤ 255) (hnow : 0 ≤ now ∧ now ≤ 4294967295) (w : World) (hR : Rn (.slice a l.length cap) l w) (hl : ∀ x ∈ l, 0 ≤ x ∧ x ≤ 255) :
    Calls Try.prog 5 #[.slice a l.length cap, .int .u8 drop, .int .u32 now] w fun e w' => e = .returned (.bool true) ∧ Below w.heap.size w w' := by
  obtain ⟨N, HN⟩ : ∃ N, Hid (l.length = N) := ⟨_, rfl⟩
  rw [HN.out]
  by_cases hlen : 60 < N
  · have hl2 : (60 : Int) < N := by omega
    go_enter Try.func5, Try.ntmps5
    go_wp2_with (go_at_call 8; refine (shown_any _).mono ?_; rintro e w1 ⟨rfl, hb⟩)
    go_ret
    exact ⟨rfl, hb⟩
  · have hl2 : ¬ (60 : Int) < N := by omega
    have hN : N ≤ 60 := by omega
    have ht := two_word
    go_enter Try.func5, Try.ntmps5
    go_upto_region 3 with (go_at_call 8; refine (shown_any _).mono ?_; rintro e w1 ⟨rfl, hb1⟩)
    have b2 := below_alloc w1 (.cells #[.map none] 27)
    have hQ := Du.new w1
    obtain ⟨w2, HW2⟩ : ∃ w2, Hid (w2 = w1.alloc (.cells #[.map none] 27)) := ⟨_, rfl⟩
    rw [← HW2.out] at b2 hQ
    have b3 := below_alloc w2 (.map #[] 0)
    have hM := Wm.made w2
    have hQ3 := hQ.below b3
    have hmm := @run_makeMap Try.prog 53 w2
    obtain ⟨w3, HW3⟩ : ∃ w3, Hid (w3 = w2.alloc (.map #[] 0)) := ⟨_, rfl⟩
    rw [← HW3.out] at b3 hM hQ3 hmm
    have hp2 : w1.heap.size < w2.heap.size := hQ.lt
    have hm3 : w2.heap.size < w3.heap.size := hM.lt
    have hB3 : Below w.heap.size w w3 := hb1.trans ((b2.mono hb1.size).trans (b3.mono (Nat.le_trans hb1.size b2.size)))
    have hpw := hb1.size
    have hM3 : Wm w2.heap.size (hasD []) ([] : List Dbt).length w3 := hM.cong (fun x => rfl) rfl
    clear b2 b3 hb1 hM hQ
    generalize hmw : w2.heap.size = mw at *
    have HMW : Hid _ := hmw
    clear hmw
    go_upto_region 4 with fail
    rw [← HW2.out]
    generalize hpp : w1.heap.size = p at *
    have HPP : Hid _ := hpp
    clear hpp
    have hpm : p ≠ mw := by omega
    go_wp2_with fail
    go_loopg [9] N (fun gk t9 wr => ∃ k : Nat, k + gk = N ∧ t9 = .int .i64 k ∧ ∃ (L : List Dbt) (m : Option Nat), On now L ∧ Du p m L wr ∧ (∀ b, m = some b → mw + 1 ≤ b) ∧ Wm mw (hasD L) L.length wr ∧ Below w.heap.size w wr)
    case atStart => exact ⟨0, by omega, rfl, [], none, On.nil now, hQ3, (fun b e => by cases e), hM3, hB3⟩
    case round =>
      clear hQ3 hM3 hB3 hmm
      obtain ⟨k, hk, rfl, L, m, hOn, hQ, hmb, hW, hB⟩ := hrel
      by_cases hlt : (k : Int) < N
      · have hkl : k < l.length := by rw [HN.out]; omega
        obtain ⟨g, off, rfl, _, hc⟩ := (hR.below hB).at_ hkl
        obtain ⟨zb0, zb1⟩ := hl _ (List.getElem_mem hkl)
        generalize l[k] = zb at *
        obtain ⟨n, hn1, hn2, n0, n64⟩ : ∃ n : Int, zb.tmod 64 = n ∧ zb % 64 = n ∧ 0 ≤ n ∧ n < 64 := ⟨zb % 64, by rw [Int.tmod_eq_emod_of_nonneg zb0], rfl, by omega, by omega⟩
        obtain ⟨y, f, L', hrs, hOn', hcn, hln⟩ := once_step hnow hOn n0 n64
        have hr := raise_any p m L n (n + 7) 1 1 now 64 Re.two (by omega) (by omega) ht (by omega) wr hQ
        rw [hrs] at hr
        simp only at hr
        unfold Re.two at hr
        have k0 : (0 : Int) ≤ k := by omega
        have HLN : Hid _ := hln
        have hll := hOn.di.length
        clear hln hrs
        obtain ⟨nw0, nw1⟩ := hnow
        go_wp2_with fail
        refine hr.mono ?_
        rintro e w4 ⟨rfl, m4, hQ4, hmv4⟩
        have hW4 : Wm mw (hasD L) L.length w4 := hW.keep (hmv4.block mw hW.lt (Ne.symm hpm) (fun e => by have := hmb mw e.symm; omega))
        have hmb4 : ∀ b, m4 = some b → mw + 1 ≤ b := hmv4.from_ (B := mw + 1) hW.lt (fun b hb => hmb b hb)
        have hB4 := hB.trans (hmv4.to hB.size (by omega) (fun b hb => by have := hmb b hb; omega))
        obtain ⟨w6, hput, hW6, hg6⟩ := hW4.put (x := n) (wf_node n0 n64) (by omega)
        have hW6 := hW6.cong (fun z => (hcn z).symm) HLN.out.symm
        have hQ6 : Du p m4 L' w6 := hQ4.keep (hg6.block p hQ4.lt (by simpa using hpm)) (fun b hb => hg6.block b (hQ4.mlt b hb) (by have := hmb4 b hb; simp; omega))
        have hB6 : Below w.heap.size w w6 := hB4.trans ⟨hg6.os, hg6.tape, hg6.output, hg6.size, fun r hr => hg6.block r (by have := hB4.size; omega) (by simp; omega)⟩
        clear hmv4 hW4 hQ4 hr hg6
        go_wp2_with fail
        go_roundg (gk - 1)
        case rel => exact ⟨k + 1, by omega, by go_num, L', m4, hOn', hQ6, hmb4, hW6, hB6⟩
        case measure => omega
      · obtain ⟨d0, d1⟩ := hd
        obtain ⟨n, hn1, hn2, n0, n64⟩ : ∃ n : Int, drop.tmod 64 = n ∧ drop % 64 = n ∧ 0 ≤ n ∧ n < 64 := ⟨drop % 64, by rw [Int.tmod_eq_emod_of_nonneg d0], rfl, by omega, by omega⟩
        have hdr := drop_any p m L n (wf_node n0 n64) wr hQ
        have hL1 := hOn.less n
        have hcn := fun z => (has_less L n z).symm
        have HLN : Hid _ := less_len hOn.di n
        obtain ⟨ho1, hs1⟩ := hL1.early hnow
        obtain ⟨ho2, hs2⟩ := hL1.late hnow
        have hov1 := fun m W => over_any p m (lessD L n) (now + 13) W
        rw [ho1, hs1] at hov1
        have hov2 := fun m W => over_any p m (lessD L n) (now + 14) W
        rw [ho2, hs2] at hov2
        have hov3 := fun m W => over_any p m [] (now + 1000) W
        rw [show overD [] (now + 1000) = [] from rfl, show stayD [] (now + 1000) = [] from rfl] at hov3
        have hal := fun m W => all_any p m [] W
        have hll := hL1.di.length
        have hbb : ∀ b : Bool, (b != b) = false := fun b => by cases b <;> rfl
        obtain ⟨nw0, nw1⟩ := hnow
        clear ho1 hs1 ho2 hs2 hOn
        go_upto_region 12 with (go_at_call 11; refine hdr.mono ?_; rintro e w4 ⟨rfl, hQ4, hmv4⟩)
        have hW4 : Wm mw (hasD L) L.length w4 := hW.keep (hmv4.block mw hW.lt (Ne.symm hpm) (fun e => by have := hmb mw e.symm; omega))
        have hB4 := hB.trans (hmv4.to hB.size (by omega) (fun b hb => by have := hmb b hb; omega))
        have hget := hW4.get (wf_node n0 n64)
        obtain ⟨w5, hdel, hW5, hg5⟩ := hW4.del (x := n) (wf_node n0 n64) 0
        have hW5 := hW5.cong (fun z => (hcn z).symm) HLN.out.symm
        have hQ5 : Du p m (lessD L n) w5 := hQ4.keep (hg5.block p hQ4.lt (by simpa using hpm)) (fun b hb => hg5.block b (hQ4.mlt b hb) (by have := hmb b hb; simp; omega))
        have hB5 : Below w.heap.size w w5 := hB4.trans ⟨hg5.os, hg5.tape, hg5.output, hg5.size, fun r hr => hg5.block r (by have := hB4.size; omega) (by simp; omega)⟩
        have hbn := hbb (hasD L n)
        clear hmv4 hW4 hQ4 hdr hg5 hQ hW hcn hbb
        generalize hasD L n = hb at *
        generalize lessD L n = L1 at *
        go_wp2_with fail
        refine (hov1 _ _ hQ5).mono ?_
        rintro e w6 ⟨⟨v6, rfl, hO6⟩, hQ6, hmv6⟩
        have hO6 : Own w5.heap.size v6 [] w6 := hO6
        obtain ⟨a6, c6, rfl, _⟩ := hO6.ru
        have hW6 := hW5.keep (hmv6.block mw hW5.lt (Ne.symm hpm) (fun e => by have := hmb mw e.symm; omega))
        have hB6 := hB5.trans (hmv6.to hB5.size (by omega) (fun b hb => by have := hmb b hb; omega))
        clear hO6 hQ5 hW5 hmv6
        go_wp2_with fail
        refine (hov2 _ _ hQ6).mono ?_
        rintro e w7 ⟨⟨v7, rfl, hO7⟩, hQ7, hmv7⟩
        have hW7 := hW6.keep (hmv7.block mw hW6.lt (Ne.symm hpm) (fun e => by have := hmb mw e.symm; omega))
        have hB7 := hB6.trans (hmv7.to hB6.size (by omega) (fun b hb => by have := hmb b hb; omega))
        obtain ⟨a7, c7, rfl, hc7, _⟩ := hO7.ru
        have hml : (L1.map deadOf).length = L1.length := List.length_map _
        rw [hml] at hc7 hO7
        rw [hml]
        obtain ⟨M, HM⟩ : ∃ M, Hid (L1.length = M) := ⟨_, rfl⟩
        rw [HM.out] at hc7 hO7 hll hW7
        rw [HM.out]
        have hcI : (M : Int) ≤ c7 := by omega
        clear hml hQ6 hW6 hmv7 hov1 hov2
        go_wp2_with fail
        go_loopg [13] M (fun gk t13 wr => ∃ k : Nat, k + gk = M ∧ t13 = .int .i64 k ∧ Below w7.heap.size w7 wr)
        case atStart => exact ⟨0, by omega, rfl, Below.refl _ _⟩
        case round =>
          obtain ⟨k, hk, rfl, hBk⟩ := hrel
          have hWk := hW7.below hBk
          by_cases hlt : (k : Int) < M
          · have hkl : k < L1.length := by rw [HM.out]; omega
            have hku : k < (L1.map deadOf).length := by rw [List.length_map]; exact hkl
            have hRu := (hO7.below hBk).ru
            obtain ⟨g, off, rfl, e0, e1, e2⟩ := Ru.at_ hRu hku
            rw [List.getElem_map] at e0 e1 e2
            have hx := hL1.is _ (List.getElem_mem hkl)
            have hxo := hL1.di.ok _ (List.getElem_mem hkl)
            have hgt := fun N => (hWk.keep (w' := wr.drewN N) rfl).get (wf_node hxo.n0 hxo.n1)
            rw [hasD_of (List.getElem_mem hkl)] at hgt
            have hgt0 := hgt 0
            have hgt1 := hgt 1
            have hxi : L1[k].i = L1[k].n + 7 := by rw [hx]; rfl
            have hx0 := hxo.n0
            have hx1 := hxo.n1
            have hpre : ∀ j, k = j + 1 → ∃ y : Int, y < L1[k].n ∧ wr.cell? ⟨g, off + j * 3, none⟩ = some (.int .i64 y) := fun j hj => by
              subst hj
              obtain ⟨g', off', e, q0, _, _⟩ := Ru.at_ hRu (j := j) (by omega)
              cases e
              rw [List.getElem_map] at q0
              exact ⟨_, List.pairwise_iff_getElem.1 hL1.di.sort j (j + 1) (by omega) hkl (by omega), q0⟩
            unfold deadOf at e0 e1 e2
            simp only at e0 e1 e2
            rw [hxi] at e1
            clear hx hxo hxi hRu
            generalize L1[k] = x at *
            have hwx : IntKind.u64.wrap x.n = x.n := by simp [IntKind.wrap, IntKind.bits, IntKind.signed]; omega
            have hwy : IntKind.u64.wrap (x.n + 7) = x.n + 7 := by simp [IntKind.wrap, IntKind.bits, IntKind.signed]; omega
            have k0 : (0 : Int) ≤ k := by omega
            have hen : (x.n + 7 != x.n + 7) = false := by simp
            cases k with
            | zero =>
              clear hpre
              rw [Nat.zero_mul, Nat.add_zero] at e0 e1 e2
              go_wp2_with fail
              go_quiet (fail)
              go_wp2_with fail
              go_roundg (gk - 1)
              case rel => exact ⟨1, by omega, by go_num, hBk.trans (below_drewN _ _ _)⟩
              case measure => omega
            | succ j =>
              obtain ⟨y, hy, q0⟩ := hpre j rfl
              have hj1 : decide ((0 : Int) < (j : Int) + 1) = true := by rw [decide_eq_true_eq]; omega
              have hj2 : (0 : Int) ≤ (j : Int) := by omega
              have hj3 : (j : Int) < M := by omega
              have hj4 : (j : Int) + 1 < M := by omega
              have hj5 : IntKind.i64.wrap ((j : Int) + 1 - 1) = j := by simp [IntKind.wrap, IntKind.bits, IntKind.signed]; omega
              have hny : decide (x.n ≤ y) = false := by simp; omega
              go_wp2_with fail
              go_quiet (fail)
              go_wp2_with fail
              go_roundg (gk - 1)
              case rel => exact ⟨j + 1 + 1, by omega, by go_num, hBk.trans (below_drewN _ _ _)⟩
              case measure => omega
          · obtain rfl : k = M := by omega
            have hlen := fun ty => hWk.len ty
            have hQk := hQ7.below hBk
            have hBw := hB7.trans (hBk.mono hB7.size)
            go_wp2_with fail
            refine (hov3 _ _ hQk).mono ?_
            rintro e w8 ⟨⟨v8, rfl, hO8⟩, hQ8, hmv8⟩
            have hO8 : Own wr.heap.size v8 [] w8 := hO8
            obtain ⟨a8, c8, rfl, _⟩ := hO8.ru
            have hB8 := hBw.trans (hmv8.to hBw.size (by omega) (fun b hb => by have := hmb b hb; omega))
            go_wp2_with fail
            refine (hal _ _ hQ8).mono ?_
            rintro e w9 ⟨⟨v9, rfl, hO9⟩, hb9⟩
            obtain ⟨a9, c9, rfl⟩ := hO9.zero
            go_wp2_with fail
            go_ret
            exact ⟨rfl, hB8.trans (hb9.mono hB8.size)⟩
end Go.Proofs.Ytahiiieifdhgeaa
