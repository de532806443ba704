/-
  DoubtSooner.
-/
import Derived.Test.YtahiiieifdhgeaaWnw
import Derived.Test.YtahiiieifdhgeaaWmp
import Derived.Test.YtahiiieifdhgeaaByt
namespace Go.Proofs.Ytahiiieifdhgeaa
open Go.RowKit Go.Maps

theorem hasS_with {f : Nat} {n : Int} (hn : Bnd.nodeS n = true) (z : Int) : Bnd.hasS (Bnd.withS f n) z = (z == n || Bnd.hasS f z) := by
  obtain ⟨h0, h1⟩ := (Bnd.nodeS_iff n).1 hn
  unfold Bnd.hasS
  rw [Bnd.testBit_withS, hn, Bool.true_and]
  cases hz : Bnd.nodeS z
  · have : (z == n) = false := by
      cases e : (z == n)
      · rfl
      · have e' : z = n := by simpa using e
        rw [e', hn] at hz
        cases hz
    rw [this]; rfl
  · obtain ⟨z0, z1⟩ := (Bnd.nodeS_iff z).1 hz
    simp only [Bool.true_and]
    by_cases e : z = n
    · subst e; simp
    · have e1 : (z == n) = false := by simpa using e
      have e2 : ¬ n.toNat = z.toNat := by omega
      rw [e1]
      simp [e2]
theorem with_has {f : Nat} {n : Int} (hf : f < Bnd.lim) (h : Bnd.hasS f n = true) : Bnd.withS f n = f := by
  have hn : Bnd.nodeS n = true := by unfold Bnd.hasS at h; rw [Bool.and_eq_true] at h; exact h.1
  have hb : f.testBit n.toNat = true := by unfold Bnd.hasS at h; rw [Bool.and_eq_true] at h; exact h.2
  refine Bnd.eq_of_bits (Bnd.withS_lt hf n) hf fun i _ => ?_
  rw [Bnd.testBit_withS, hn, Bool.true_and]
  by_cases e : n.toNat = i
  · subst e; simp [hb]
  · simp [e]

/-- The one doubt: told by f, since a. -/
structure Sx (base : Nat) (nodes a : Int) (f : Nat) (x : Dbt) : Prop where
  en : x.n = 9
  ei : x.i = 4
  es : x.s = 1
  ef : x.f = f
  lt : f < Bnd.lim
  ea : x.a = a
  et : x.t + 1 = Bnd.manyS f
  e0 : 0 ≤ x.t
  eu : x.u = untilS base nodes a x.t
def Sl (base : Nat) (nodes a : Int) (f : Nat) (u : Int) (L : List Dbt) : Prop := (f = 0 ∧ L = [] ∧ u = 18446744073709551615) ∨ ∃ x, L = [x] ∧ Sx base nodes a f x ∧ u = x.u

theorem Sl.lt {base : Nat} {nodes a : Int} {f : Nat} {u : Int} {L : List Dbt} (h : Sl base nodes a f u L) : f < Bnd.lim := by
  rcases h with ⟨rfl, _⟩ | ⟨x, _, h, _⟩
  · decide
  · exact h.lt

theorem sooner_step {base : Nat} (HB : base < 2 ^ 64) {nodes a : Int} (hnd : nodes ≤ 9223372036854775807) (ha : 0 ≤ a ∧ a ≤ 4294967295) {f : Nat} {u : Int} {L : List Dbt} (h : Sl base nodes a f u L) {n now : Int} (n0 : 0 ≤ n) (n1 : n < 64) (hnow : L = [] → now = a) :
    ∃ x, raiseS L 9 4 1 n now nodes base = (!Bnd.hasS f n, 0, [x]) ∧ Sx base nodes a (Bnd.withS f n) x ∧ x.u ≤ u ∧ a ≤ x.u := by
  have hn : Bnd.nodeS n = true := (Bnd.nodeS_iff n).2 ⟨n0, n1⟩
  have harg : argS 9 1 n = true := by simp [argS, mayS]; omega
  have hlow : ∀ t, a ≤ untilS base nodes a t ∧ untilS base nodes a t ≤ 18446744073709551615 := fun t => laterS_range ha.1 (by omega) (tkS_nonneg base nodes t)
  rcases h with ⟨rfl, rfl, rfl⟩ | ⟨x, rfl, hx, rfl⟩
  · obtain rfl := hnow rfl
    have hh : Bnd.hasS 0 n = false := by simp [Bnd.hasS]
    have hm := Bnd.many_with hn hh
    have hz : Bnd.manyS 0 = 0 := by decide
    refine ⟨newD 9 4 n now nodes base, by rw [raise_is_new harg (Or.inl rfl), hh]; rfl, ⟨rfl, rfl, rfl, rfl, Bnd.withS_lt (by decide) n, rfl, ?_, Int.le_refl _, rfl⟩, (hlow 0).2, (hlow 0).1⟩
    rw [hm, hz]; rfl
  · have hg : getD [x] 9 = x := by unfold getD; rw [List.find?_cons_of_pos (by simp [hx.en])]; rfl
    have hd : hasD [x] 9 = true := by simp [hasD, hx.en]
    cases hh : Bnd.hasS f n
    · have hm := Bnd.many_with hn hh
      have ht := hx.et
      have hle := Bnd.many_le (Bnd.withS f n)
      refine ⟨moreD x n nodes base, ?_, ⟨hx.en, hx.ei, hx.es, by show Bnd.withS x.f n = _; rw [hx.ef], Bnd.withS_lt hx.lt n, hx.ea, by show x.t + 1 + 1 = _; omega, by have := hx.e0; show 0 ≤ x.t + 1; omega, by show untilS base nodes x.a (x.t + 1) = untilS base nodes a (x.t + 1); rw [hx.ea]⟩, ?_, ?_⟩
      · rw [raise_is_more harg hd (by rw [hg]; exact hx.ei) (by rw [hg, hx.ef]; exact hh), hg]
        have : keepD [x] (moreD x n nodes base) = [moreD x n nodes base] := by
          unfold keepD
          rw [show lessD [x] (moreD x n nodes base).n = [] from by simp [lessD, moreD]]
          rfl
        rw [this]; rfl
      · show untilS base nodes x.a (x.t + 1) ≤ x.u
        rw [hx.eu, hx.ea]
        exact until_mono base HB nodes a hnd (by omega) (by omega)
      · show a ≤ untilS base nodes x.a (x.t + 1)
        rw [hx.ea]; exact (hlow _).1
    · refine ⟨x, ?_, by rw [with_has hx.lt hh]; exact hx, Int.le_refl _, by rw [hx.eu]; exact (hlow _).1⟩
      rw [raise_is_told harg hd (by rw [hg]; exact hx.ei) (by rw [hg, hx.ef]; exact hh)]
      rfl

set_option maxRecDepth 100000 in
set_option maxHeartbeats 4000000 in
theorem sooner_core (a : Option Addr) (cap : Nat) (l : List Int) (since nodes : Int) (base : Nat) (hs : 0 ≤ since ∧ since ≤ 4294967295) (hnd : 0 ≤ nodes ∧ nodes ≤ 255) (HB : Hid (base < 2 ^ 64)) (w : World) (hR : Rn (.slice a l.length cap) l w) (hl : ∀ x ∈ l, 0 ≤ x ∧ x ≤ 255) :
    Calls Try.prog 4 #[.slice a l.length cap, .int .u32 since, .int .u8 nodes, .float .f64 base] w fun e w' => e = .returned (.bool true) ∧ Below w.heap.size w w' := by
  obtain ⟨N, HN⟩ : ∃ N, Hid (l.length = N) := ⟨_, rfl⟩
  rw [HN.out]
  by_cases hlen : 100 < N
  · have hl2 : (100 : Int) < N := by omega
    go_enter Try.func4, Try.ntmps4
    go_wp2_with (go_at_call 8; refine (shown_any _).mono ?_; rintro e w1 ⟨rfl, hb⟩)
    go_ret
    exact ⟨rfl, hb⟩
  · have hl2 : ¬ (100 : Int) < N := by omega
    by_cases hzero : N = 0
    · subst hzero
      go_enter Try.func4, Try.ntmps4
      go_wp2_with (go_at_call 8; refine (shown_any _).mono ?_; rintro e w1 ⟨rfl, hb⟩)
      go_ret
      exact ⟨rfl, hb⟩
    · have hz0 : ((N : Int) == 0) = false := by simp; omega
      have hN : N ≤ 100 := by omega
      go_enter Try.func4, Try.ntmps4
      go_upto_region 3 with (go_at_call 8; refine (shown_any _).mono ?_; rintro e w1 ⟨rfl, hb1⟩)
      have b2 := below_alloc w1 (.cells #[.map none] 27)
      have hQ := Du.new w1
      obtain ⟨w2, HW2⟩ : ∃ w2, Hid (w2 = w1.alloc (.cells #[.map none] 27)) := ⟨_, rfl⟩
      rw [← HW2.out] at b2 hQ
      have b3 := below_alloc w2 (.map #[] 0)
      have hM := Wm.made w2
      have hQ3 := hQ.below b3
      have hmm := @run_makeMap Try.prog 53 w2
      obtain ⟨w3, HW3⟩ : ∃ w3, Hid (w3 = w2.alloc (.map #[] 0)) := ⟨_, rfl⟩
      rw [← HW3.out] at b3 hM hQ3 hmm
      have hp2 : w1.heap.size < w2.heap.size := hQ.lt
      have hm3 : w2.heap.size < w3.heap.size := hM.lt
      have hB3 : Below w.heap.size w w3 := hb1.trans ((b2.mono hb1.size).trans (b3.mono (Nat.le_trans hb1.size b2.size)))
      have hpw := hb1.size
      have hM3 : Wm w2.heap.size (Bnd.hasS 0) (Bnd.manyS 0) w3 := hM.cong (fun x => by simp [Bnd.hasS]) (by decide)
      clear b2 b3 hb1 hM hQ
      generalize hmw : w2.heap.size = mw at *
      have HMW : Hid _ := hmw
      clear hmw
      go_upto_region 4 with fail
      rw [← HW2.out]
      generalize hpp : w1.heap.size = p at *
      have HPP : Hid _ := hpp
      clear hpp
      go_wp2_with fail
      go_loopg [10, 12] N (fun gk t10 t12 wr => ∃ k : Nat, k + gk = N ∧ t12 = .int .i64 k ∧ ∃ (u : Int) (f : Nat) (L : List Dbt) (m : Option Nat), t10 = .int .u64 u ∧ Sl base nodes since f u L ∧ (k = 0 ∨ L ≠ []) ∧ Du p m L wr ∧ (∀ b, m = some b → mw < b) ∧ Wm mw (Bnd.hasS f) (Bnd.manyS f) wr ∧ Below w.heap.size w wr)
      case atStart => exact ⟨0, by omega, rfl, 18446744073709551615, 0, [], none, rfl, Or.inl ⟨rfl, rfl, rfl⟩, Or.inl rfl, hQ3, (fun b e => by cases e), hM3, hB3⟩
      case round =>
        clear hQ3 hM3 hB3 hmm
        obtain ⟨k, hk, rfl, u, f, L, m, rfl, hSl, hk0, hQ, hmb, hW, hB⟩ := hrel
        by_cases hlt : (k : Int) < N
        · have hkl : k < l.length := by rw [HN.out]; omega
          obtain ⟨g, off, rfl, _, hc⟩ := (hR.below hB).at_ hkl
          have hby := hl _ (List.getElem_mem hkl)
          generalize l[k] = zb at *
          obtain ⟨n, hn1, hn2, n0, n64⟩ : ∃ n : Int, zb.tmod 64 = n ∧ zb % 64 = n ∧ 0 ≤ n ∧ n < 64 := ⟨zb % 64, by rw [Int.tmod_eq_emod_of_nonneg hby.1], rfl, by omega, by omega⟩
          obtain ⟨x, hrs, hSx, hle, hge⟩ := sooner_step HB.out (by omega) hs hSl n0 n64 (now := since + k) (fun e => by rcases hk0 with h | h; · omega
                                                                                                                        · exact absurd e h)
          have hr := raise_any p m L 9 4 1 n (since + k) nodes base (by omega) (by omega) HB (by omega) wr hQ
          rw [hrs] at hr
          simp only at hr
          have hal := fun m W => all_any p m [x] W
          have hwn := hSx.en
          have hxa := hSx.ea
          have hxt := hSx.et
          have hx0 := hSx.e0
          have k0 : (0 : Int) ≤ k := by omega
          have hpm : p ≠ mw := by have := hQ.lt; omega
          have hcn : ∀ z, (z == n || Bnd.hasS f z) = Bnd.hasS (Bnd.withS f n) z := fun z => (hasS_with ((Bnd.nodeS_iff n).2 ⟨n0, n64⟩) z).symm
          have hmn : (if Bnd.hasS f n then Bnd.manyS f else Bnd.manyS f + 1) = Bnd.manyS (Bnd.withS f n) := by
            cases hh : Bnd.hasS f n
            · rw [Bnd.many_with ((Bnd.nodeS_iff n).2 ⟨n0, n64⟩) hh]; simp
            · rw [with_has hSl.lt hh]; simp
          have HMN : Hid _ := hmn
          have hml := Bnd.many_le f
          have hml2 := Bnd.many_le (Bnd.withS f n)
          clear hmn
          generalize Bnd.withS f n = f' at *
          have hlw : ¬ x.u < since := by omega
          have hlu : ¬ u < x.u := by omega
          have htm : (x.t != (Bnd.manyS f' : Int) - 1) = false := by simp; omega
          have hkz : p < mw := by have := HMW.out; have := HPP.out; omega
          have hss : (since != since) = false := by simp
          clear hrs hSl hk0
          obtain ⟨zb0, zb1⟩ := hby
          obtain ⟨s0, s1⟩ := hs
          have hwk : IntKind.u64.wrap (since + (k : Int)) = since + k := by simp [IntKind.wrap, IntKind.bits, IntKind.signed]; omega
          obtain ⟨hb, HHB⟩ : ∃ hb, Hid (Bnd.hasS f n = hb) := ⟨_, rfl⟩
          rw [HHB.out] at hr
          have hbb : (!hb == hb) = false := by cases hb <;> rfl
          have hw1 : IntKind.i64.wrap ((Bnd.manyS f' : Int) - 1) = (Bnd.manyS f' : Int) - 1 := by simp [IntKind.wrap, IntKind.bits, IntKind.signed]; omega
          have hw2 : IntKind.u64.wrap ((Bnd.manyS f' : Int) - 1) = (Bnd.manyS f' : Int) - 1 := by simp [IntKind.wrap, IntKind.bits, IntKind.signed]; omega
          all_goals
            go_wp2_with fail
            refine hr.mono ?_
            rintro e w4 ⟨rfl, m4, hQ4, hmv4⟩
            have hW4 : Wm mw (Bnd.hasS f) (Bnd.manyS f) w4 := hW.keep (hmv4.block mw hW.lt (Ne.symm hpm) (fun e => by have := hmb mw e.symm; omega))
            have hmb4 : ∀ b, m4 = some b → mw + 1 ≤ b := hmv4.from_ (B := mw + 1) hW.lt (fun b hb => hmb b hb)
            have hB4 := hB.trans (hmv4.to hB.size (by omega) (fun b hb => by have := hmb b hb; omega))
            go_wp2_with fail
            refine (hal _ _ hQ4).mono ?_
            rintro e w5 ⟨⟨v, rfl, hO⟩, hb5⟩
            obtain ⟨g5, cap5, rfl, hcap5, hg1, hg2, hrow⟩ := hO.one
            have hW5 := hW4.below hb5
            have hQ5 := hQ4.below hb5
            have hB5 := hB4.trans (hb5.mono hB4.size)
            have hget := hW5.get (wf_node n0 n64)
            rw [HHB.out] at hget
            obtain ⟨w6, hput, hW6, hg6⟩ := hW5.put (x := n) (wf_node n0 n64) (by omega)
            have hW6 := hW6.cong (fun z => (hcn z).symm) HMN.out.symm
            have hgm : g5 ≠ mw := by have := hW4.lt; omega
            have hrow6 := hrow.keep (hg6.block g5 hg2 (by simpa using hgm))
            have hQ6 : Du p m4 [x] w6 := hQ5.keep (hg6.block p hQ5.lt (by simpa using hpm)) (fun b hb => hg6.block b (hQ5.mlt b hb) (by have := hmb4 b hb; simp; omega))
            have hB6 : Below w.heap.size w w6 := hB5.trans ⟨hg6.os, hg6.tape, hg6.output, hg6.size, fun r hr => hg6.block r (by have := hB5.size; omega) (by simp; omega)⟩
            have hlen := fun ty => (hW6.keep (w' := w6.drew) rfl).len ty
            have hlen2 := fun ty => hW6.len ty
            obtain ⟨d0, d1, d2, d3, d4, d5, d6⟩ := hrow
            obtain ⟨c0, c1, c2, c3, c4, c5, c6⟩ := hrow6
            rw [hxa] at d4
            rw [Nat.zero_add] at d1 d2 d3 d4 d5 d6 c1 c2 c3 c4 c5 c6
            clear hO hb5 hmv4 hW4 hW5 hQ4 hQ5 hr hal hg6
            go_wp2_with fail
            go_region
            all_goals
              go_wp2_with fail
              go_roundg (gk - 1)
              case rel => exact ⟨k + 1, by omega, by go_num, x.u, f', [x], m4, rfl, Or.inr ⟨x, rfl, hSx, rfl⟩, Or.inr (by simp), hQ6.keep rfl (fun _ _ => rfl), hmb4, hW6.keep rfl, Below.drew' hB6⟩
              case measure => omega
        · go_wp2_with fail
          go_ret
          exact ⟨rfl, hB⟩
end Go.Proofs.Ytahiiieifdhgeaa
