/-
  The reference's Raise.
-/
import Derived.Test.YtahiiieifdhgeaaErd
import Derived.Test.YtahiiieifdhgeaaErm
import Derived.Test.YtahiiieifdhgeaaTkc
namespace Go.Proofs.Ytahiiieifdhgeaa
open Go.RowKit Go.Maps Go.Shelf

theorem Rg.drew {B q : Nat} {K : List Dbt} {w : World} (h : Rg B q K w) : Rg B q K w.drew := h.keep rfl (fun _ _ _ _ => rfl)
theorem Mr.drew {B q : Nat} {w w' : World} (h : Mr B q w w') : Mr B q w w'.drew := ⟨h.os, h.tape, h.output, h.size, h.block⟩
theorem keep3 {w : World} {G q : Nat} (hne : G ≠ q) {a b c : Value} (v : Value) (h : w.cell? ⟨G, 0, none⟩ = some a ∧ w.cell? ⟨G, 1, none⟩ = some b ∧ w.cell? ⟨G, 2, none⟩ = some c) :
    (w.setCell ⟨q, 0, none⟩ v).cell? ⟨G, 0, none⟩ = some a ∧ (w.setCell ⟨q, 0, none⟩ v).cell? ⟨G, 1, none⟩ = some b ∧ (w.setCell ⟨q, 0, none⟩ v).cell? ⟨G, 2, none⟩ = some c := by
  have e : (w.setCell ⟨q, 0, none⟩ v).heap[G]? = w.heap[G]? := Below.heap_setCell _ _ _ _ (by simpa using hne)
  exact ⟨(World.cell?_of_block (w := w) (a := ⟨G, 0, none⟩) e).trans h.1, (World.cell?_of_block (w := w) (a := ⟨G, 1, none⟩) e).trans h.2.1, (World.cell?_of_block (w := w) (a := ⟨G, 2, none⟩) e).trans h.2.2⟩
theorem wait_word (base : Nat) (HB : Hid (base < 2 ^ 64)) (nodes t : Int) (hn : nodes ≤ 9223372036854775807) : Hid (Re.waitS (Re.cleanS base 0 Re.K1000) (Re.bitsS nodes) t 3 < 2 ^ 64) := by
  have hK : Re.K1000 < Re.infR := by decide
  have hb : Re.cleanS base 0 Re.K1000 ≤ Re.K1000 := Re.clean_pos HB.out (Nat.le_of_lt hK)
  have hk := (Re.bits_range nodes hn).2
  have h1 := (Re.wait_held (t := t) (m := 3) hb hk).2
  have h2 := (Re.great_lt hb hk).2
  have h3 : Re.infR < 2 ^ 64 := by decide
  exact Nat.lt_trans (Nat.lt_of_le_of_lt h1 h2) h3
theorem ticks_range {W : Nat} (hW : Hid (W < 2 ^ 64)) : Re.ticksS W ≤ 1099511627776 := by
  unfold Re.ticksS
  split
  · omega
  · split
    · omega
    · split
      · omega
      · rename_i h
        refine Re.cei_K40 ?_
        rcases Nat.lt_or_ge W Re.S with hs | hs
        · have hr : Re.key W = W := by
            unfold Re.key Re.ng Re.rung
            rw [Nat.div_eq_of_lt hs, Nat.mod_eq_of_lt hs]
            simp
          omega
        · have := Re.pos_word hW.out (by omega)
          omega
theorem tk_range (base : Nat) (HB : Hid (base < 2 ^ 64)) (nodes t : Int) (hn : nodes ≤ 9223372036854775807) : 0 ≤ tkS base nodes t ∧ tkS base nodes t ≤ 18446744073709551615 := by
  have := ticks_range (wait_word base HB nodes t hn)
  refine ⟨tkS_nonneg _ _ _, ?_⟩
  unfold tkS
  omega
/-- The three calls that tell when a doubt is over. -/
theorem until_calls (base : Nat) (HB : Hid (base < 2 ^ 64)) (nodes a t : Int) (hn : -9223372036854775808 ≤ nodes ∧ nodes ≤ 9223372036854775807) (a0 : 0 ≤ a) (a1 : a ≤ 18446744073709551615) :
    ∃ (wt : Nat) (kk : Int), (∀ W, Calls Try.prog 32 #[.float .f64 base, .int .i64 nodes, .int .i64 t, .int .i64 3] W fun e w' => e = .returned (.float .f64 wt) ∧ w' = W) ∧
      (∀ W, Calls Try.prog 31 #[.float .f64 wt] W fun e w' => e = .returned (.int .u64 kk) ∧ w' = W) ∧
      (∀ W, Calls Try.prog 30 #[.int .u64 a, .int .u64 kk] W fun e w' => e = .returned (.int .u64 (untilS base nodes a t)) ∧ w' = W) := by
  obtain ⟨k0, k1⟩ := tk_range base HB nodes t hn.2
  exact ⟨_, tkS base nodes t, fun W => Re.refWait_any base nodes t 3 HB hn (by omega) W, fun W => Re.refTicks_any _ W (wait_word base HB nodes t hn.2), fun W => later_any a (tkS base nodes t) a0 a1 k0 k1 W⟩

set_option maxRecDepth 100000 in
set_option maxHeartbeats 4000000 in
theorem rraise_go (B q : Nat) (K L : List Dbt) (hP : K.Perm L) (hL : Di L) (n i s from_ now nodes : Int) (base : Nat) (ha : argS n s from_ = true) (hnow : 0 ≤ now ∧ now ≤ 18446744073709551615) (HB : Hid (base < 2 ^ 64)) (hnd : -9223372036854775808 ≤ nodes ∧ nodes ≤ 9223372036854775807) (w : World) (hR : Rg B q K w) (hB : B ≤ w.heap.size) :
    Calls Try.prog 10 #[.pointer (some ⟨q, 0, none⟩), .agg #[.int .i64 n, .int .u64 i, .int .i64 s], .int .i64 from_, .int .u64 now, .int .i64 nodes, .float .f64 base] w fun e w' => e = .returned (.tuple #[.bool (raiseS L n i s from_ now nodes base).1, .int .i64 (raiseS L n i s from_ now nodes base).2.1]) ∧ ∃ K', K'.Perm (raiseS L n i s from_ now nodes base).2.2 ∧ Rg B q K' w' ∧ Mr B q w w' := by
  obtain ⟨n0, n1, rfl, f0, f1⟩ := argS_true ha
  have bW := below_alloc w (.cells #[.int .i64 n, .int .u64 i, .int .i64 1] 34)
  have hS := Bx.new 34 n i 1 w
  obtain ⟨w3, HW3⟩ : ∃ w3, Hid (w3 = w.alloc (.cells #[.int .i64 n, .int .u64 i, .int .i64 1] 34)) := ⟨_, rfl⟩
  rw [← HW3.out] at bW hS
  have hz := bW.size
  have hqB := hR.lt_
  have hqz := hR.lt
  obtain ⟨v, hh, hOK⟩ := hR.is
  obtain ⟨a, cap, rfl, hcap, _⟩ := hOK.rb
  have hNl : K.length ≤ 64 := by rw [hP.length_eq]; exact hL.length
  have hmay := fmay_any n i 1 w3
  have hm : mayS n 1 = true := by simp [mayS]; omega
  rw [hm] at hmay
  have x0 := hS.c0
  have x1 := hS.c1
  have x2 := hS.c2
  have HRold : ∀ k (hk : k < K.length), K[k].n = n → Hid (i < K[k].i → raiseS L n i 1 from_ now nodes base = (false, 70, L)) := fun k hk e h => by
    obtain ⟨h1, h2⟩ := get_perm hP hL hk e
    exact raise_is_old ha h1 (by rw [h2]; exact h)
  have HRtold : ∀ k (hk : k < K.length), K[k].n = n → Hid (K[k].i = i → Bnd.hasS K[k].f from_ = true → raiseS L n i 1 from_ now nodes base = (false, 0, L)) := fun k hk e h hf => by
    obtain ⟨h1, h2⟩ := get_perm hP hL hk e
    exact raise_is_told ha h1 (by rw [h2]; exact h) (by rw [h2]; exact hf)
  have HRmore : ∀ k (hk : k < K.length), K[k].n = n → Hid (K[k].i = i → Bnd.hasS K[k].f from_ = false → (raiseS L n i 1 from_ now nodes base).1 = true ∧ (raiseS L n i 1 from_ now nodes base).2.1 = 0 ∧ (K.set k (moreD K[k] from_ nodes base)).Perm (raiseS L n i 1 from_ now nodes base).2.2) := fun k hk e h hf => by
    obtain ⟨h1, h2⟩ := get_perm hP hL hk e
    rw [raise_is_more ha h1 (by rw [h2]; exact h) (by rw [h2]; exact hf), h2]
    exact ⟨rfl, rfl, set_perm hP hL hk rfl⟩
  have HRnew : Hid ((∀ j (hj : j < K.length), K[j].n = n → K[j].i < i) → (raiseS L n i 1 from_ now nodes base).1 = true ∧ (raiseS L n i 1 from_ now nodes base).2.1 = 0 ∧ (lessD K n ++ [newD n i from_ now nodes base]).Perm (raiseS L n i 1 from_ now nodes base).2.2) := fun hno => by
    rw [raise_is_new ha (none_perm hP hno)]
    exact ⟨rfl, rfl, keep_perm hP (newD n i from_ now nodes base)⟩
  have hokK : ∀ k (hk : k < K.length), DbtOk K[k] := fun k hk => hL.ok _ (hP.mem_iff.1 (List.getElem_mem hk))
  obtain ⟨R, HR⟩ : ∃ R, Hid (raiseS L n i 1 from_ now nodes base = R) := ⟨_, rfl⟩
  rw [HR.out] at HRold HRtold HRmore HRnew ⊢
  clear HR
  obtain ⟨G, HG⟩ : ∃ G, Hid (w.heap.size = G) := ⟨_, rfl⟩
  rw [HG.out] at bW hS hz hB hqz x0 x1 x2
  obtain ⟨N, HN⟩ : ∃ N, Hid (K.length = N) := ⟨_, rfl⟩
  have fin0 : ∀ w', Below G w w' → Rg B q K w' ∧ Mr B q w w' := fun w' hb => ⟨hR.below (by rw [HG.out]; exact hb), Mr.of (by rw [HG.out]; exact hb)⟩
  have fin1 : ∀ w', Below G w w' → Below w.heap.size w w' := fun w' hb => by rw [HG.out]; exact hb
  clear hm ha hR
  go_enter Try.func10, Try.ntmps10
  go_upto_region 1 with fail
  rw [← HW3.out, HG.out]
  go_wp2_with fail
  refine hmay.mono ?_
  rintro e wM ⟨rfl, hb⟩
  have hSM := hS.below hb
  have y0 := hSM.c0
  have y1 := hSM.c1
  have y2 := hSM.c2
  have hBM : Below G w wM := bW.trans (hb.mono hz)
  have hzM : G < wM.heap.size := hSM.lt
  clear hb bW hmay x0 x1 x2 hS
  rw [HN.out] at hcap hNl
  have hcI : (N : Int) ≤ cap := by omega
  go_wp2_with fail
  go_loopg [14] N (fun gk t14 wr => ∃ k : Nat, k + gk = N ∧ t14 = .int .i64 k ∧ (∀ j, j < k → ∀ hj : j < K.length, K[j].n = n → K[j].i < i) ∧ Below G w wr ∧ Bx 34 G n i 1 wr)
  case atStart => exact ⟨0, by omega, rfl, fun j hj => by omega, hBM, hSM⟩
  case round =>
    clear hBM hSM y0 y1 y2
    obtain ⟨k, hk, rfl, hno, hBk, hBx⟩ := hrel
    have hOr := hOK.below (fin1 _ hBk)
    have hhr := (hBk.block q hqz).trans hh
    have hcq : wr.cell? ⟨q, 0, none⟩ = some (.slice a N cap) := by simp [World.cell?, hhr, HN.out]
    have y0 := hBx.c0
    have y1 := hBx.c1
    have y2 := hBx.c2
    have k0 : (0 : Int) ≤ k := by omega
    by_cases hlt : (k : Int) < N
    · have hkl : k < K.length := by rw [HN.out]; omega
      obtain ⟨g, rfl⟩ := hOr.ex (by omega)
      have h7 := hOr.at0 hkl
      have hgl := (hOr.lt g rfl).2
      have ba := below_alloc wr (dC K[k] 68)
      have hBd := Bd.new 68 K[k] wr
      have hBa := hBk.trans (ba.mono (by have := hBx.lt; omega))
      have hBxa := hBx.below ba
      have hok := hokK k hkl
      have hgz := hBx.lt
      have hOa := hOr.below ba
      have hha := (ba.block q (by have := hBx.lt; omega)).trans hhr
      have H1 := HRold k hkl
      have H2 := HRtold k hkl
      have H3 := HRmore k hkl
      have hno' : ∀ x : Dbt, K[k] = x → (x.n = n → x.i < i) → ∀ j, j < k + 1 → ∀ hj : j < K.length, K[j].n = n → K[j].i < i := fun x hx h j hj hjl e => by
        by_cases hjk : j = k
        · subst hjk; rw [hx] at e ⊢; exact h e
        · exact hno j (by omega) hjl e
      clear HRold HRtold HRmore HRnew hokK
      generalize hXX : K[k] = x at *
      have HX : Hid _ := hXX
      have hno2 := hno' x rfl
      clear hXX hno'
      obtain ⟨d0, d1, d2, d3, d4, d5, d6⟩ := h7
      unfold dC at ba hBd hBa hBxa hOa hha
      obtain ⟨wX, HWX⟩ : ∃ wX, Hid (wX = wr.alloc (.cells #[.int .i64 x.n, .int .u64 x.i, .int .i64 x.s, .int .u64 (x.f : Int), .int .u64 x.a, .int .u64 x.t, .int .u64 x.u] 68)) := ⟨_, rfl⟩
      rw [← HWX.out] at ba hBd hBa hBxa hOa hha
      generalize hgy : wr.heap.size = gy at *
      have v0 := hBxa.c0
      have v1 := hBxa.c1
      have b0 := hBd.c0
      have b1 := hBd.c1
      have b3 := hBd.c3
      cases hxn : (x.n != n)
      case true =>
        have hno3 := hno2 (fun e => by simp [e] at hxn)
        clear H1 H2 H3 hno2
        go_upto_region 7 with fail
        rw [← HWX.out]
        go_wp2_with fail
        go_roundg (gk - 1)
        case rel => exact ⟨k + 1, by omega, by go_num, hno3, hBa, hBxa⟩
        case measure => omega
      case false =>
        have exn : x.n = n := by simpa using hxn
        have H1 := H1 exn
        have H2 := H2 exn
        have H3 := H3 exn
        by_cases hio : i < x.i
        · have hRS := H1.out hio
          have HRS : Hid _ := hRS
          clear hRS H1 H2 H3 hno2 exn
          go_upto_region 7 with fail
          rw [← HWX.out]
          go_wp2_with fail
          go_ret2
          exact ⟨by rw [HRS.out]; rfl, K, by rw [HRS.out]; exact hP, fin0 _ hBa⟩
        · cases hie : (x.i == i)
          case false =>
            have hlt3 : x.i < i := by have : x.i ≠ i := by simpa using hie
                                      omega
            have hno3 := hno2 (fun _ => hlt3)
            clear H1 H2 H3 hno2 exn
            go_upto_region 7 with fail
            rw [← HWX.out]
            go_wp2_with fail
            go_roundg (gk - 1)
            case rel => exact ⟨k + 1, by omega, by go_num, hno3, hBa, hBxa⟩
            case measure => omega
          case true =>
            have exi : x.i = i := by simpa using hie
            have hhas := fun W => Bnd.rhas_any x.f hok.f from_ W
            cases hfs : Bnd.hasS x.f from_
            case true =>
              rw [hfs] at hhas
              have HRS : Hid _ := H2.out exi hfs
              clear H1 H2 H3 hno2 exn exi
              go_upto_region 7 with fail
              rw [← HWX.out]
              go_wp2_with fail
              refine (hhas _).mono ?_
              rintro e wH ⟨rfl, rfl⟩
              go_wp2_with fail
              go_ret2
              exact ⟨by rw [HRS.out]; rfl, K, by rw [HRS.out]; exact hP, fin0 _ hBa⟩
            case false =>
              rw [hfs] at hhas
              have HRS : Hid _ := H3.out exi hfs
              have ht0 := hok.t0
              have ht1 := hok.t64
              have cW := fun W => Bnd.rwith_any x.f hok.f from_ W
              obtain ⟨wt, kk, cA, cT, cL⟩ := until_calls base HB nodes x.a (x.t + 1) hnd hok.a0 hok.a1
              have hgG : G < gy := hgz
              have hgq : q ≠ gy := by omega
              have hgg : g ≠ gy := by omega
              have HM : Hid (moreD x from_ nodes base = ⟨x.n, x.i, x.s, Bnd.withS x.f from_, x.a, x.t + 1, untilS base nodes x.a (x.t + 1)⟩) := rfl
              rw [HM.out] at HRS
              clear H1 H2 H3 hno2 exn exi hok HM
              generalize untilS base nodes x.a (x.t + 1) = un at *
              generalize Bnd.withS x.f from_ = wi at *
              have e3 := hBd.free 3
              have hB1 := hBd.set3 wi
              have hE1 := Below.setOther (j := 3) hBa (by omega : G ≤ gy) (.int .u64 (wi : Int))
              obtain ⟨V1, HV1⟩ : ∃ V1, Hid (V1 = wX.setCell ⟨gy, 3, none⟩ (.int .u64 (wi : Int))) := ⟨_, rfl⟩
              rw [← HV1.out] at hB1 hE1
              have b5 := hB1.c5
              have e5 := hB1.free 5
              have hB2 := hB1.set5 (x.t + 1)
              have hE2 := Below.setOther (j := 5) hE1 (by omega : G ≤ gy) (.int .u64 (x.t + 1))
              obtain ⟨V2, HV2⟩ : ∃ V2, Hid (V2 = V1.setCell ⟨gy, 5, none⟩ (.int .u64 (x.t + 1))) := ⟨_, rfl⟩
              rw [← HV2.out] at hB2 hE2
              have c4 := hB2.c4
              have c5 := hB2.c5
              have c6 := hB2.c6
              have e6 := hB2.free 6
              have hB3 := hB2.set6 un
              have hE3 := Below.setOther (j := 6) hE2 (by omega : G ≤ gy) (.int .u64 un)
              obtain ⟨V3, HV3⟩ : ∃ V3, Hid (V3 = (V2.setCell ⟨gy, 6, none⟩ (.int .u64 un)).drew) := ⟨_, rfl⟩
              have hB3 : Bd 68 gy ⟨x.n, x.i, x.s, wi, x.a, x.t + 1, un⟩ V3 := by rw [HV3.out]; exact hB3.keep rfl
              have hE3 : Below G w V3 := by rw [HV3.out]; exact Below.drew' hE3
              simp only at b5 c4 c5 c6
              have hwx : IntKind.i64.wrap (x.t + 1) = x.t + 1 := by simp [IntKind.wrap, IntKind.bits, IntKind.signed]; omega
              have hO3 := hOK.below (fin1 _ hE3)
              have hh3 := (hE3.block q hqz).trans hh
              have hcq3 : V3.cell? ⟨q, 0, none⟩ = some (.slice (some ⟨g, 0, none⟩) N cap) := by simp [World.cell?, hh3, HN.out]
              have a0 := hB3.c0
              have a1 := hB3.c1
              have a2 := hB3.c2
              have a3 := hB3.c3
              have a4 := hB3.c4
              have a5 := hB3.c5
              have a6 := hB3.c6
              simp only at a0 a1 a2 a3 a4 a5 a6
              obtain ⟨r0, r1, r2, r3, r4, r5, r6⟩ := hO3.at0 hkl
              have u0 := hO3.free (k * 7)
              have u1 := hO3.free (k * 7 + 1)
              have u2 := hO3.free (k * 7 + 2)
              have u3 := hO3.free (k * 7 + 3)
              have u4 := hO3.free (k * 7 + 4)
              have u5 := hO3.free (k * 7 + 5)
              have u6 := hO3.free (k * 7 + 6)
              have hEnd := Rg.put hqB hh3 hO3 hkl ⟨x.n, x.i, x.s, wi, x.a, x.t + 1, un⟩
              have hMr := Mr.put (q := q) (fin1 _ hE3) hOK (k * 7) ⟨x.n, x.i, x.s, wi, x.a, x.t + 1, un⟩
              rw [HX.out] at r0 r1 r2 r3 r4 r5 r6
              obtain ⟨V4, HV4⟩ : ∃ V4, Hid (V4 = (set7 V3 g (k * 7) ⟨x.n, x.i, x.s, wi, x.a, x.t + 1, un⟩).drew) := ⟨_, rfl⟩
              have hEnd : Rg B q (K.set k ⟨x.n, x.i, x.s, wi, x.a, x.t + 1, un⟩) V4 := by rw [HV4.out]; exact hEnd.drew
              have hMr : Mr B q w V4 := by rw [HV4.out]; exact hMr.drew
              unfold set7 at HV4
              simp only at HV4
              clear hO3 hB1 hB2 hB3 hE1 hE2 hE3 hOr hOa ba hBd hBa hBxa hBk hBx hh3 hha hhr
              go_upto_region 7 with fail
              rw [← HWX.out]
              go_upto_region 13 with (go_at_call 28; refine (hhas _).mono ?_; rintro e wH ⟨rfl, rfl⟩)
              go_upto_region 14 with (go_at_call 29; refine (cW _).mono ?_; rintro e wA ⟨rfl, rfl⟩)
              rw [← HV1.out]
              go_upto_region 15 with fail
              rw [← HV2.out]
              clear d0 d1 d2 d3 d4 d5 d6 v0 v1 b0 b1 b3 e3 b5 e5
              go_region_with (first
                | (go_at_call 32; refine (cA _).mono ?_; rintro e wA ⟨rfl, rfl⟩)
                | (go_at_call 31; refine (cT _).mono ?_; rintro e wB ⟨rfl, rfl⟩)
                | (go_at_call 30; refine (cL _).mono ?_; rintro e wC ⟨rfl, rfl⟩))
              all_goals
                go_upto_region 16 with fail
                rw [← HV3.out]
                go_region
                all_goals
                  go_upto_region 17 with fail
                  rw [← HV4.out]
                  go_wp2_with fail
                  go_ret2
                  obtain ⟨h1, h2, h3⟩ := HRS.out
                  exact ⟨by rw [h1, h2]; rfl, _, h3, hEnd, hMr⟩
    · obtain rfl : k = N := by omega
      have HRS : Hid _ := HRnew.out (fun j hj => hno j (by rw [← HN.out]; exact hj) hj)
      clear HRnew HRold HRtold HRmore hno hokK
      have hRk := (fin0 _ hBk).1
      have hdr := rdrop_any B q K (by rw [HN.out]; omega) n wr hRk
      have hgz := hBx.lt
      have hzk := hBk.size
      rw [HG.out] at hzk
      clear hRk hOr
      go_wp2_with fail
      refine hdr.mono ?_
      rintro e wD ⟨rfl, hRD, hbD⟩
      have hBxD : Bx 34 G n i 1 wD := hBx.keep (hbD.block G hgz (by simp; omega))
      have hMD : Mr B q w wD := (fin0 _ hBk).2.trans (Mr.but hbD)
      obtain ⟨vD, hhD, hOD⟩ := hRD.is
      obtain ⟨aD, capD, rfl, hcapD, _⟩ := hOD.rb
      have hll : (lessD K n).length ≤ 64 := Nat.le_trans (lessD_length_le _ _) (by rw [HN.out]; omega)
      have z0 := hBxD.c0
      have z1 := hBxD.c1
      have z2 := hBxD.c2
      have hcD : wD.cell? ⟨q, 0, none⟩ = some (.slice aD (lessD K n).length capD) := by simp [World.cell?, hhD]
      have cW := fun W => Bnd.rwith_any 0 (by decide) from_ W
      obtain ⟨wt, kk, cA, cT, cL⟩ := until_calls base HB nodes now 0 hnd hnow.1 hnow.2
      have HM : Hid (newD n i from_ now nodes base = ⟨n, i, 1, Bnd.withS 0 from_, now, 0, untilS base nodes now 0⟩) := rfl
      rw [HM.out] at HRS
      clear HM hdr
      generalize untilS base nodes now 0 = un at *
      generalize Bnd.withS 0 from_ = wi at *
      generalize lessD K n = KD at *
      have ba := below_alloc wD (dC ⟨n, i, 1, wi, now, 0, un⟩ 68)
      have hY := Rb.one (Bd.new 68 ⟨n, i, 1, wi, now, 0, un⟩ wD)
      have hOa := hOD.below ba
      have hha := (ba.block q hRD.lt).trans hhD
      have hBxa := hBxD.below ba
      have hMa : Mr B q w (wD.alloc (dC ⟨n, i, 1, wi, now, 0, un⟩ 68)) := hMD.trans (Mr.of ba)
      unfold dC at ba hY hOa hha hBxa hMa
      simp only at ba hY hOa hha hBxa hMa
      obtain ⟨wX, HWX⟩ : ∃ wX, Hid (wX = (wD.alloc (.cells #[.int .i64 n, .int .u64 i, .int .i64 1, .int .u64 (wi : Int), .int .u64 now, .int .u64 0, .int .u64 un] 68)).drew) := ⟨_, rfl⟩
      have hY : Rb (.slice (some ⟨wD.heap.size, 0, none⟩) 1 1) [⟨n, i, 1, wi, now, 0, un⟩] wX := by rw [HWX.out]; exact hY.keep fun _ _ _ => rfl
      have hOX : OwD 68 wr.heap.size (.slice aD KD.length capD) KD wX := by rw [HWX.out]; exact hOa.keep fun _ _ _ => rfl
      have hhX : wX.heap[q]? = some (.cells #[.slice aD KD.length capD] 31 (0, 0)) := by rw [HWX.out]; exact hha
      have hMX : Mr B q w wX := by rw [HWX.out]; exact hMa.drew
      have hzX : wr.heap.size ≤ wX.heap.size := by
        have h1 := hbD.size
        have h2 := ba.size
        rw [HWX.out]
        exact Nat.le_trans h1 h2
      have hcX : wX.cell? ⟨q, 0, none⟩ = some (.slice aD KD.length capD) := by simp [World.cell?, hhX]
      have hcX2 : (wD.alloc (.cells #[.int .i64 n, .int .u64 i, .int .i64 1, .int .u64 (wi : Int), .int .u64 now, .int .u64 0, .int .u64 un] 68)).cell? ⟨q, 0, none⟩ = some (.slice aD KD.length capD) := by
        rw [HWX.out] at hcX
        exact hcX
      have hSX : wX.cell? ⟨q, 0, none⟩ = some (.slice aD KD.length capD) ∧ wX.cell? ⟨G, 0, none⟩ = some (.int .i64 n) ∧ wX.cell? ⟨G, 1, none⟩ = some (.int .u64 i) ∧ wX.cell? ⟨G, 2, none⟩ = some (.int .i64 1) := by
        have t2 := hBxa.c2
        exact ⟨hcX, by rw [HWX.out]; exact hBxa.c0, by rw [HWX.out]; exact hBxa.c1, by rw [HWX.out]; exact t2⟩
      have hSD : wD.drew.cell? ⟨q, 0, none⟩ = some (.slice aD KD.length capD) ∧ wD.drew.cell? ⟨G, 0, none⟩ = some (.int .i64 n) ∧ wD.drew.cell? ⟨G, 1, none⟩ = some (.int .u64 i) ∧ wD.drew.cell? ⟨G, 2, none⟩ = some (.int .i64 1) := ⟨hcD, z0, z1, z2⟩
      have hqr : q < wr.heap.size := by omega
      have hGne : G ≠ q := by omega
      have hkeepG : ∀ w5, wX.grownBy w5 (Value.slice aD KD.length capD).ownBlock → w5.cell? ⟨q, 0, none⟩ = some (.slice aD KD.length capD) ∧ w5.cell? ⟨G, 0, none⟩ = some (.int .i64 n) ∧ w5.cell? ⟨G, 1, none⟩ = some (.int .u64 i) ∧ w5.cell? ⟨G, 2, none⟩ = some (.int .i64 1) := fun w5 hg => by
        have e1 : w5.heap[q]? = wX.heap[q]? := hg.block q (by omega) (fun e => by have := (hOX.lt q e.symm).1; omega)
        have e2 : w5.heap[G]? = wX.heap[G]? := hg.block G (by omega) (fun e => by have := (hOX.lt G e.symm).1; omega)
        exact ⟨(World.cell?_of_block (w := wX) (a := ⟨q, 0, none⟩) e1).trans hSX.1, (World.cell?_of_block (w := wX) (a := ⟨G, 0, none⟩) e2).trans hSX.2.1, (World.cell?_of_block (w := wX) (a := ⟨G, 1, none⟩) e2).trans hSX.2.2.1, (World.cell?_of_block (w := wX) (a := ⟨G, 2, none⟩) e2).trans hSX.2.2.2⟩
      obtain ⟨g0, g1, g2⟩ := hSX.2
      rw [HWX.out] at g0 g1 g2
      have g0 : (wD.alloc (.cells #[.int .i64 n, .int .u64 i, .int .i64 1, .int .u64 (wi : Int), .int .u64 now, .int .u64 0, .int .u64 un] 68)).cell? ⟨G, 0, none⟩ = some (.int .i64 n) := g0
      clear g1 g2
      clear ba hBxa hOa hha hMa hOD hRD hBxD hMD y0 y1 y2 hcX
      go_upto_region 19 with fail
      have cW : ∀ W, Calls Try.prog 29 #[.int .u64 0, .int .i64 from_] W fun e w' => e = .returned (.int .u64 (wi : Int)) ∧ w' = W := cW
      have EWith : Hid (∀ args w, (callFunc 29 args).run Try.prog w = .ok (.enter 29 args) w) := enters_of Try.func29 (by kernel_rfl) rfl
      have EWait : Hid (∀ args w, (callFunc 32 args).run Try.prog w = .ok (.enter 32 args) w) := enters_of Try.func32 (by kernel_rfl) rfl
      have ETicks : Hid (∀ args w, (callFunc 31 args).run Try.prog w = .ok (.enter 31 args) w) := enters_of Try.func31 (by kernel_rfl) rfl
      have Elater : Hid (∀ args w, (callFunc 30 args).run Try.prog w = .ok (.enter 30 args) w) := enters_of Try.func30 (by kernel_rfl) rfl
      have hfree5 : ∀ w5, wX.grownBy w5 (Value.slice aD KD.length capD).ownBlock → w5.frozen? ⟨q, 0, none⟩ = false := fun w5 h3 => by simp [World.frozen?, (h3.block q (by omega) (fun e => by have := (hOX.lt q e.symm).1; omega)).trans hhX]
      have hfinM : ∀ w5 a5 c5, wX.grownBy w5 (Value.slice aD KD.length capD).ownBlock → Mr B q w (w5.setCell ⟨q, 0, none⟩ (.slice a5 (KD ++ [(⟨n, i, 1, wi, now, 0, un⟩ : Dbt)]).length c5)) := fun w5 a5 c5 h3 => by
        refine hMX.trans ⟨h3.os, h3.tape, h3.output, by simpa [World.setCell] using h3.size, fun r hr hrq hc => ?_⟩
        refine (Below.heap_setCell _ _ _ _ (by simpa using hrq)).trans (h3.block r hr fun e => ?_)
        obtain ⟨h1, cur, h2⟩ := hOX.blk e.symm
        rcases hc with hc | hc
        · omega
        · exact hc _ _ h2
      have hfinR : ∀ w5 a5 c5, OwD 68 wr.heap.size (.slice a5 (KD ++ [(⟨n, i, 1, wi, now, 0, un⟩ : Dbt)]).length c5) (KD ++ [(⟨n, i, 1, wi, now, 0, un⟩ : Dbt)]) w5 → wX.grownBy w5 (Value.slice aD KD.length capD).ownBlock → Rg B q (KD ++ [(⟨n, i, 1, wi, now, 0, un⟩ : Dbt)]) (w5.setCell ⟨q, 0, none⟩ (.slice a5 (KD ++ [(⟨n, i, 1, wi, now, 0, un⟩ : Dbt)]).length c5)) := fun w5 a5 c5 hO5 h3 =>
        (Rg.set hqr hO5 ⟨_, (h3.block q (by omega) (fun e => by have := (hOX.lt q e.symm).1; omega)).trans hhX⟩).mono (by omega) hqB
      clear hOK hh hhr hcq fin0 fin1 g0 hBk hbD hL hP hnd HB hnow hcapD hBx hhD hcap hNl hcI hSD
      refine wp_region_any (by kernel_rfl) ?_
      change wpAny _ _ _ _ _ _ _ (World.drew _)
      refine wpAny_take (i := 0) (v := .pointer (some ⟨q, 0, none⟩)) rfl (by kernel_rfl) (by kernel_rfl) (by kernel_rfl) (fun _ _ _ h => h) (Or.inl ⟨by rfl, ?_⟩) ?_
      · intro w0
        go_simp
      refine wpAny_take (i := 1) (v := .pointer (some ⟨q, 0, none⟩)) rfl (by kernel_rfl) (by kernel_rfl) (by kernel_rfl) (fun _ _ _ h => h) (Or.inl ⟨by rfl, ?_⟩) ?_
      · intro w0
        go_simp
      refine wpAny_take (i := 2) (v := .pointer (some ⟨q, 0, none⟩)) rfl (by kernel_rfl) (by kernel_rfl) (by kernel_rfl) (fun _ _ _ h => h) (Or.inl ⟨by rfl, ?_⟩) ?_
      · intro w0
        go_simp
      refine wpAny_take (i := 3) (v := .pointer (some ⟨q, 0, none⟩)) rfl (by kernel_rfl) (by kernel_rfl) (by kernel_rfl) (fun _ _ _ h => h) (Or.inl ⟨by rfl, ?_⟩) ?_
      · intro w0
        go_simp
      refine wpAny_take (i := 6) (v := .int .i64 from_) rfl (by kernel_rfl) (by kernel_rfl) (by kernel_rfl) (fun _ _ _ h => h) (Or.inl ⟨by rfl, ?_⟩) ?_
      · intro w0
        go_simp
      refine wpAny_take (i := 8) (v := .int .u64 now) rfl (by kernel_rfl) (by kernel_rfl) (by kernel_rfl) (fun _ _ _ h => h) (Or.inl ⟨by rfl, ?_⟩) ?_
      · intro w0
        go_simp
      refine wpAny_take (i := 9) (v := .int .u64 now) rfl (by kernel_rfl) (by kernel_rfl) (by kernel_rfl) (fun _ _ _ h => h) (Or.inl ⟨by rfl, ?_⟩) ?_
      · intro w0
        go_simp
      refine wpAny_take (i := 10) (v := .float .f64 base) rfl (by kernel_rfl) (by kernel_rfl) (by kernel_rfl) (fun _ _ _ h => h) (Or.inl ⟨by rfl, ?_⟩) ?_
      · intro w0
        go_simp
      refine wpAny_take (i := 11) (v := .int .i64 nodes) rfl (by kernel_rfl) (by kernel_rfl) (by kernel_rfl) (fun _ _ _ h => h) (Or.inl ⟨by rfl, ?_⟩) ?_
      · intro w0
        go_simp
      refine take_call (i := 7) (v := .int .u64 (wi : Int)) rfl (by kernel_rfl) (by kernel_rfl) (by kernel_rfl) (fun _ _ _ h => h) rfl 29 [.const (.int .u64 0), .tmp 107] #[32, 3] rfl [.int .u64 0, .int .i64 from_] (by kernel_rfl) EWith.out cW ?_
      refine take_call (i := 12) (v := .float .f64 wt) rfl (by kernel_rfl) (by kernel_rfl) (by kernel_rfl) (fun _ _ _ h => h) rfl 32 [.tmp 111, .tmp 112, .const (.int .i64 0), .const (.int .i64 3)] #[35, 3, 3, 3] rfl [.float .f64 base, .int .i64 nodes, .int .i64 0, .int .i64 3] (by kernel_rfl) EWait.out cA ?_
      refine take_call (i := 13) (v := .int .u64 kk) rfl (by kernel_rfl) (by kernel_rfl) (by kernel_rfl) (fun _ _ _ h => h) rfl 31 [.tmp 113] #[35] rfl [.float .f64 wt] (by kernel_rfl) ETicks.out cT ?_
      refine take_call (i := 14) (v := .int .u64 un) rfl (by kernel_rfl) (by kernel_rfl) (by kernel_rfl) (fun _ _ _ h => h) rfl 30 [.tmp 110, .tmp 114] #[32, 32] rfl [.int .u64 now, .int .u64 kk] (by kernel_rfl) Elater.out cL ?_
      refine wpAny_ready (rs := [4, 5]) (by kernel_rfl) (by simp) ?_
      refine AllReady.cons rfl (fun K hK => ?_) (AllReady.cons rfl (fun K hK => ?_) AllReady.nil)
      · go_simp
        refine hK _ _ ?_
        clear hK K
        refine wpAny_ready (rs := [5]) (by kernel_rfl) (by simp) ?_
        refine AllReady.cons rfl (fun K hK => ?_) AllReady.nil
        go_simp
        refine hK _ _ ?_
        clear hK K
        refine wpAny_take (i := 15) (v := .agg #[.int .i64 n, .int .u64 i, .int .i64 1, .int .u64 (wi : Int), .int .u64 now, .int .u64 0, .int .u64 un]) rfl (by kernel_rfl) (by kernel_rfl) (by kernel_rfl) (fun _ _ _ h => h) (Or.inl ⟨by rfl, ?_⟩) ?_
        · intro w0
          go_simp
        refine wpAny_ready (rs := [16]) (by kernel_rfl) (by simp) ?_
        refine AllReady.cons rfl (fun K hK => ?_) AllReady.nil
        go_simp
        refine hK _ _ ?_
        clear hK K
        refine wpAny_ready (rs := [17]) (by kernel_rfl) (by simp) ?_
        refine AllReady.cons rfl (fun K hK => ?_) AllReady.nil
        rw [← HWX.out]
        refine step_appD Try.underlying29 Try.infoE _ (by rfl) (.tmp 105) (.tmp 117) (by rfl) wr.heap.size _ KD (by rfl) hOX hzX wD.heap.size 0 1 [⟨n, i, 1, wi, now, 0, un⟩] 1 rfl (by rfl) hY (by simp; omega) ?_
        intro v5 w5 hO5 h3 h4
        obtain ⟨a5, c5, rfl, _⟩ := hO5.rb
        have hc5 := (hkeepG w5 h3).1
        have hf5 : w5.frozen? ⟨q, 0, none⟩ = false := hfree5 w5 h3
        refine hK _ _ ?_
        clear hK K
        refine wpAny_take (i := 18) (v := .pointer (some ⟨q, 0, none⟩)) rfl (by kernel_rfl) (by kernel_rfl) (by kernel_rfl) (fun _ _ _ h => h) (Or.inl ⟨by rfl, ?_⟩) ?_
        · intro w0
          go_simp
        refine wpAny_take (i := 19) (v := .pointer (some ⟨q, 0, none⟩)) rfl (by kernel_rfl) (by kernel_rfl) (by kernel_rfl) (fun _ _ _ h => h) (Or.inl ⟨by rfl, ?_⟩) ?_
        · intro w0
          go_simp
        refine wpAny_ready (rs := [20]) (by kernel_rfl) (by simp) ?_
        refine AllReady.cons rfl (fun K hK => ?_) AllReady.nil
        go_simp
        refine hK _ _ ?_
        clear hK K
        refine wpAny_done (by kernel_rfl) ?_ _
        have hM5 := hfinM w5 a5 c5 h3
        have hR5 := hfinR w5 a5 c5 hO5 h3
        go_wp2_with fail
        go_ret2
        obtain ⟨h1, h2, h3⟩ := HRS.out
        exact ⟨by rw [h1, h2]; rfl, _, h3, by simpa using hR5, by simpa using hM5⟩
      · go_simp
        refine hK _ _ ?_
        clear hK K
        refine wpAny_take (i := 15) (v := .agg #[.int .i64 n, .int .u64 i, .int .i64 1, .int .u64 (wi : Int), .int .u64 now, .int .u64 0, .int .u64 un]) rfl (by kernel_rfl) (by kernel_rfl) (by kernel_rfl) (fun _ _ _ h => h) (Or.inl ⟨by rfl, ?_⟩) ?_
        · intro w0
          go_simp
        refine wpAny_ready (rs := [4, 16]) (by kernel_rfl) (by simp) ?_
        refine AllReady.cons rfl (fun K hK => ?_) (AllReady.cons rfl (fun K hK => ?_) AllReady.nil)
        · go_simp
          refine hK _ _ ?_
          clear hK K
          refine wpAny_ready (rs := [16]) (by kernel_rfl) (by simp) ?_
          refine AllReady.cons rfl (fun K hK => ?_) AllReady.nil
          go_simp
          refine hK _ _ ?_
          clear hK K
          refine wpAny_ready (rs := [17]) (by kernel_rfl) (by simp) ?_
          refine AllReady.cons rfl (fun K hK => ?_) AllReady.nil
          rw [← HWX.out]
          refine step_appD Try.underlying29 Try.infoE _ (by rfl) (.tmp 105) (.tmp 117) (by rfl) wr.heap.size _ KD (by rfl) hOX hzX wD.heap.size 0 1 [⟨n, i, 1, wi, now, 0, un⟩] 1 rfl (by rfl) hY (by simp; omega) ?_
          intro v5 w5 hO5 h3 h4
          obtain ⟨a5, c5, rfl, _⟩ := hO5.rb
          have hc5 := (hkeepG w5 h3).1
          have hf5 : w5.frozen? ⟨q, 0, none⟩ = false := hfree5 w5 h3
          refine hK _ _ ?_
          clear hK K
          refine wpAny_take (i := 18) (v := .pointer (some ⟨q, 0, none⟩)) rfl (by kernel_rfl) (by kernel_rfl) (by kernel_rfl) (fun _ _ _ h => h) (Or.inl ⟨by rfl, ?_⟩) ?_
          · intro w0
            go_simp
          refine wpAny_take (i := 19) (v := .pointer (some ⟨q, 0, none⟩)) rfl (by kernel_rfl) (by kernel_rfl) (by kernel_rfl) (fun _ _ _ h => h) (Or.inl ⟨by rfl, ?_⟩) ?_
          · intro w0
            go_simp
          refine wpAny_ready (rs := [20]) (by kernel_rfl) (by simp) ?_
          refine AllReady.cons rfl (fun K hK => ?_) AllReady.nil
          go_simp
          refine hK _ _ ?_
          clear hK K
          refine wpAny_done (by kernel_rfl) ?_ _
          have hM5 := hfinM w5 a5 c5 h3
          have hR5 := hfinR w5 a5 c5 hO5 h3
          go_wp2_with fail
          go_ret2
          obtain ⟨h1, h2, h3⟩ := HRS.out
          exact ⟨by rw [h1, h2]; rfl, _, h3, by simpa using hR5, by simpa using hM5⟩
        · go_simp
          refine hK _ _ ?_
          clear hK K
          refine wpAny_ready (rs := [4]) (by kernel_rfl) (by simp) ?_
          refine AllReady.cons rfl (fun K hK => ?_) AllReady.nil
          go_simp
          refine hK _ _ ?_
          clear hK K
          refine wpAny_ready (rs := [17]) (by kernel_rfl) (by simp) ?_
          refine AllReady.cons rfl (fun K hK => ?_) AllReady.nil
          rw [← HWX.out]
          refine step_appD Try.underlying29 Try.infoE _ (by rfl) (.tmp 105) (.tmp 117) (by rfl) wr.heap.size _ KD (by rfl) hOX hzX wD.heap.size 0 1 [⟨n, i, 1, wi, now, 0, un⟩] 1 rfl (by rfl) hY (by simp; omega) ?_
          intro v5 w5 hO5 h3 h4
          obtain ⟨a5, c5, rfl, _⟩ := hO5.rb
          have hc5 := (hkeepG w5 h3).1
          have hf5 : w5.frozen? ⟨q, 0, none⟩ = false := hfree5 w5 h3
          refine hK _ _ ?_
          clear hK K
          refine wpAny_take (i := 18) (v := .pointer (some ⟨q, 0, none⟩)) rfl (by kernel_rfl) (by kernel_rfl) (by kernel_rfl) (fun _ _ _ h => h) (Or.inl ⟨by rfl, ?_⟩) ?_
          · intro w0
            go_simp
          refine wpAny_take (i := 19) (v := .pointer (some ⟨q, 0, none⟩)) rfl (by kernel_rfl) (by kernel_rfl) (by kernel_rfl) (fun _ _ _ h => h) (Or.inl ⟨by rfl, ?_⟩) ?_
          · intro w0
            go_simp
          refine wpAny_ready (rs := [20]) (by kernel_rfl) (by simp) ?_
          refine AllReady.cons rfl (fun K hK => ?_) AllReady.nil
          go_simp
          refine hK _ _ ?_
          clear hK K
          refine wpAny_done (by kernel_rfl) ?_ _
          have hM5 := hfinM w5 a5 c5 h3
          have hR5 := hfinR w5 a5 c5 hO5 h3
          go_wp2_with fail
          go_ret2
          obtain ⟨h1, h2, h3⟩ := HRS.out
          exact ⟨by rw [h1, h2]; rfl, _, h3, by simpa using hR5, by simpa using hM5⟩

theorem rraise_any (B q : Nat) (K L : List Dbt) (hP : K.Perm L) (hL : Di L) (n i s from_ now nodes : Int) (base : Nat) (hnow : 0 ≤ now ∧ now ≤ 18446744073709551615) (HB : Hid (base < 2 ^ 64)) (hnd : -9223372036854775808 ≤ nodes ∧ nodes ≤ 9223372036854775807) (w : World) (hR : Rg B q K w) (hB : B ≤ w.heap.size) :
    Calls Try.prog 10 #[.pointer (some ⟨q, 0, none⟩), .agg #[.int .i64 n, .int .u64 i, .int .i64 s], .int .i64 from_, .int .u64 now, .int .i64 nodes, .float .f64 base] w fun e w' => e = .returned (.tuple #[.bool (raiseS L n i s from_ now nodes base).1, .int .i64 (raiseS L n i s from_ now nodes base).2.1]) ∧ ∃ K', K'.Perm (raiseS L n i s from_ now nodes base).2.2 ∧ Rg B q K' w' ∧ Mr B q w w' := by
  cases ha : argS n s from_
  · have e : raiseS L n i s from_ now nodes base = (false, 1, L) := by unfold raiseS; rw [if_pos ha]
    rw [e]
    exact (rraise_arg q n i s from_ now nodes base ha w).mono fun e w' ⟨h1, h2⟩ => ⟨h1, K, hP, hR.below h2, Mr.of h2⟩
  · exact rraise_go B q K L hP hL n i s from_ now nodes base ha hnow HB hnd w hR hB
end Go.Proofs.Ytahiiieifdhgeaa
