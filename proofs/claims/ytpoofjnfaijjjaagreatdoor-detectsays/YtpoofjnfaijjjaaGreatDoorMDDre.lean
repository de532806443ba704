/-
  Raise: a doubt of a later incarnation. Raise: one more tells a doubt; and Raise, whatever it is.
-/
import Derived.Test.YtpoofjnfaijjjaaGreatDoorMDDrc
namespace Go.Proofs.YtpoofjnfaijjjaaGreatDoor.Do
open Go.RowKit Go.Maps Go.Proofs.YtpoofjnfaijjjaaGreatDoor.Ro
variable {X : Value → Array Value}

set_option maxRecDepth 100000 in
set_option maxHeartbeats 2000000 in
theorem raise_later (p : Nat) (m : Option Nat) (L : List Dbt) (n i s from_ now nodes : Int) (base : Nat) (ha : argS n s from_ = true) (hi : 0 ≤ i ∧ i ≤ 18446744073709551615) (hnow : 0 ≤ now ∧ now ≤ 18446744073709551615) (HB : Hid (base < 2 ^ 64)) (hnd : -9223372036854775808 ≤ nodes ∧ nodes ≤ 9223372036854775807) (hh : hasD L n = true) (hi3 : (getD L n).i < i) (w : World) (hQ : Du X p m L w) :
    Calls Tryz.prog 128 #[.pointer (some ⟨p, 3, none⟩), .agg #[.int .i64 n, .int .u64 i, .int .i64 s], .int .i64 from_, .int .u64 now, .int .i64 nodes, .float .f64 base] w fun e w' => e = .returned (.tuple #[.bool true, .int .i64 0]) ∧ ∃ m', Du X p m' (keepD L (newD n i from_ now nodes base)) w' ∧ Mv p m m' w w' := by
  have hok := newD_ok (base := base) (nodes := nodes) ha hi hnow
  have bW := boxW_below n i s nodes base w
  have hS := boxW_bs n i s nodes base w
  obtain ⟨w3, HW3⟩ : ∃ w3, Hid (w3 = boxW n i s nodes base w) := ⟨_, rfl⟩
  rw [← HW3.out] at bW hS
  unfold boxW at HW3
  obtain ⟨n0, n1, rfl, f0, f1⟩ := argS_true ha
  have hmay := may_any n i 1 w3
  have hm : mayS n 1 = true := by simp [mayS]; omega
  rw [hm] at hmay
  have hQ3 := hQ.below bW
  have x0 := hS.u.c0
  have x1 := hS.u.c1
  have x2 := hS.u.c2
  have hz := bW.size
  have hpl := hQ.lt
  have hmlt := hQ.mlt
  obtain ⟨G, HG⟩ : ∃ G, Hid (w.heap.size = G) := ⟨_, rfl⟩
  rw [HG.out] at bW hS x0 x1 x2 hz hpl
  rw [HG.out] at hmlt
  have fin : ∀ wA wB wC m', Below G w wA → Below wA.heap.size wA wB → Mv p m m' wB wC → Mv p m m' w wC := fun wA wB wC m' h1 h2 h3 => Mv.eb (by rw [HG.out]; exact h1.trans (h2.mono (by have := h1.size; rw [HG.out] at this; exact this))) h3
  clear hm ha
  obtain ⟨R, HR⟩ : ∃ R, Hid (keepD L (newD n i from_ now nodes base) = R) := ⟨_, rfl⟩
  rw [HR.out]
  go_enter Tryz.func128, Tryz.ntmps128
  go_upto_region 1 with fail
  rw [← HW3.out, HG.out]
  go_wp2_with fail
  refine hmay.mono ?_
  rintro e wM ⟨rfl, hb⟩
  have hSM := hS.below hb
  have hQM := hQ3.below hb
  have y0 := hSM.u.c0
  have y1 := hSM.u.c1
  have y2 := hSM.u.c2
  have hc := hQM.c
  have hQd : Du X p m L wM.drew := hQM.keep rfl fun _ _ => rfl
  have hl := look_any hQd (wf_node n0 n1)
  have bz := below_alloc wM (.cells #[.int .i64 0, .int .u64 0, .int .i64 0, .int .u64 0, .int .u64 0, .int .u64 0, .int .u64 0] 162)
  have hQz := hQM.below bz
  have hcz := hQz.c
  have v0 := (hSM.below bz).u.c0
  have hQe : Du X p m L (wM.alloc (.cells #[.int .i64 0, .int .u64 0, .int .i64 0, .int .u64 0, .int .u64 0, .int .u64 0, .int .u64 0] 162)).drew := hQz.keep rfl fun _ _ => rfl
  have hle := look_any hQe (wf_node n0 n1)
  have bb := below_alloc wM (dC (getD L n) 162)
  have hBd := Bd.new 162 (getD L n) wM
  have hSN := hSM.below bb
  have hQN := hQM.below bb
  have hend := bW.trans ((hb.mono hz).trans (bb.mono (Nat.le_trans hz hb.size)))
  have z0 := hSN.u.c0
  have z1 := hSN.u.c1
  have z2 := hSN.u.c2
  have k1 := hBd.c1
  have cW := fun W => Bnd.with_any 0 (by decide) from_ W
  have cU := fun W h1 h2 => until_any (G + 1 + 1) (G + 1) base HB nodes now 0 hnd hnow.1 hnow.2 (Int.le_refl 0) (by omega) W h1 h2
  have cK : ∀ W, Du X p m L W → Calls Tryz.prog 167 #[.pointer (some ⟨p, 3, none⟩), .agg #[.int .i64 n, .int .u64 i, .int .i64 1, .int .u64 (Bnd.withS 0 from_ : Nat), .int .u64 now, .int .u64 0, .int .u64 (untilS base nodes now 0)]] W fun e w' => e = .returned (.tuple #[]) ∧ ∃ m', Du X p m' (keepD L (newD n i from_ now nodes base)) w' ∧ Mv p m m' W w' := fun W h => keep_any p m L (newD n i from_ now nodes base) hok W h
  unfold dV at hl hle
  obtain ⟨wN, HWN⟩ : ∃ wN, Hid (wN = (wM.alloc (dC (getD L n) 162)).drew) := ⟨_, rfl⟩
  have hSN' : Bs G n i 1 nodes base wN := by rw [HWN.out]; exact hSN.keep fun _ _ _ => rfl
  have hQN' : Du X p m L wN := by rw [HWN.out]; exact hQN.keep rfl fun _ _ => rfl
  have hend' : Below G w wN := by rw [HWN.out]; exact Below.drew' hend
  have hSd : Bs G n i 1 nodes base wN.drew := hSN'.keep fun _ _ _ => rfl
  have hQd2 : Du X p m L wN.drew := hQN'.keep rfl fun _ _ => rfl
  have hendd : Below G w wN.drew := Below.drew' hend'
  have s0 := hSN'.u.c0
  have s1 := hSN'.u.c1
  have s2 := hSN'.u.c2
  have cU2 := cU wN.drew hSd.cb hSd.cn
  unfold dC at bb z0 z1 z2 k1 hend HWN
  clear hSN hQN hBd hQd hQe hQz bz hSM hQM hS hQ3 hQ bb hb x0 x1 x2 hmay bW hend hi hnow hok
  rw [HR.out] at cK
  clear HR
  generalize untilS base nodes now 0 = un at *
  generalize Bnd.withS 0 from_ = wi at *
  rw [hh] at hl hle
  clear hh
  generalize getD L n = x at *
  go_wp2_with fail
  go_region
  all_goals
    go_upto_region 6 with fail
    rw [← HWN.out]
    go_region_with (first
      | (go_at_call 111; refine (cW _).mono ?_; rintro e wA ⟨rfl, rfl⟩)
      | (go_at_call 164; refine cU2.mono ?_; rintro e wB ⟨rfl, hbB⟩; have t0 := (hSd.below hbB).u.c0; have t1 := (hSd.below hbB).u.c1; have t2 := (hSd.below hbB).u.c2)
      | (go_at_call 167; refine (cK _ (hQd2.below hbB)).mono ?_; rintro e wC ⟨rfl, m', hQC, hmv⟩))
    all_goals
      go_wp2_with fail
      go_ret2
      exact ⟨rfl, m', hQC, fin _ _ _ _ hendd hbB hmv⟩

end Go.Proofs.YtpoofjnfaijjjaaGreatDoor.Do
namespace Go.Proofs.YtpoofjnfaijjjaaGreatDoor.Do
open Go.RowKit Go.Maps Go.Proofs.YtpoofjnfaijjjaaGreatDoor.Ro
variable {X : Value → Array Value}

section
variable {T : TypeId} {g : Nat} {x : Dbt} {w : World}
theorem Bd.set3 (h : Bd T g x w) (f : Nat) : Bd T g { x with f := f } (w.setCell ⟨g, 3, none⟩ (.int .u64 (f : Int))) := ⟨by simp [World.setCell, Array.getElem?_modify, h.heap]⟩
theorem Bd.set5 (h : Bd T g x w) (t : Int) : Bd T g { x with t := t } (w.setCell ⟨g, 5, none⟩ (.int .u64 t)) := ⟨by simp [World.setCell, Array.getElem?_modify, h.heap]⟩
theorem Bd.set6 (h : Bd T g x w) (u : Int) : Bd T g { x with u := u } (w.setCell ⟨g, 6, none⟩ (.int .u64 u)) := ⟨by simp [World.setCell, Array.getElem?_modify, h.heap]⟩
end
theorem Du.setOther {p q j : Nat} {m : Option Nat} {L : List Dbt} {w : World} (h : Du X p m L w) (hp : p ≠ q) (hm : ∀ b, m = some b → b ≠ q) (v : Value) : Du X p m L (w.setCell ⟨q, j, none⟩ v) :=
  h.keep (Below.heap_setCell _ _ _ _ (by simpa using hp)) fun b hb => Below.heap_setCell _ _ _ _ (by simpa using hm b hb)
theorem Bs.setOther {G q j : Nat} {n i s nodes : Int} {base : Nat} {w : World} (h : Bs G n i s nodes base w) (hq : G + 2 < q) (v : Value) : Bs G n i s nodes base (w.setCell ⟨q, j, none⟩ v) :=
  h.keep fun k _ hk => Below.heap_setCell _ _ _ _ (by simp; omega)
theorem Below.setOther {B q j : Nat} {a w : World} (h : Below B a w) (hq : B ≤ q) (v : Value) : Below B a (w.setCell ⟨q, j, none⟩ v) :=
  ⟨h.os, h.tape, h.output, by simpa [World.setCell] using h.size, fun k hk => (Below.heap_setCell _ _ _ _ (by simp; omega)).trans (h.block k hk)⟩

set_option maxRecDepth 100000 in
set_option maxHeartbeats 2000000 in
theorem raise_more (p : Nat) (m : Option Nat) (L : List Dbt) (n i s from_ now nodes : Int) (base : Nat) (ha : argS n s from_ = true) (HB : Hid (base < 2 ^ 64)) (hnd : -9223372036854775808 ≤ nodes ∧ nodes ≤ 9223372036854775807) (hh : hasD L n = true) (hi : (getD L n).i = i) (hf : Bnd.hasS (getD L n).f from_ = false) (w : World) (hQ : Du X p m L w) :
    Calls Tryz.prog 128 #[.pointer (some ⟨p, 3, none⟩), .agg #[.int .i64 n, .int .u64 i, .int .i64 s], .int .i64 from_, .int .u64 now, .int .i64 nodes, .float .f64 base] w fun e w' => e = .returned (.tuple #[.bool true, .int .i64 0]) ∧ ∃ m', Du X p m' (keepD L (moreD (getD L n) from_ nodes base)) w' ∧ Mv p m m' w w' := by
  have hgo := hQ.di.ok _ (hasD_true hh).1
  have hok := moreD_ok (base := base) (nodes := nodes) hgo ha hf
  have bW := boxW_below n i s nodes base w
  have hS := boxW_bs n i s nodes base w
  obtain ⟨w3, HW3⟩ : ∃ w3, Hid (w3 = boxW n i s nodes base w) := ⟨_, rfl⟩
  rw [← HW3.out] at bW hS
  unfold boxW at HW3
  obtain ⟨n0, n1, rfl, f0, f1⟩ := argS_true ha
  have hmay := may_any n i 1 w3
  have hm : mayS n 1 = true := by simp [mayS]; omega
  rw [hm] at hmay
  have hQ3 := hQ.below bW
  have x0 := hS.u.c0
  have x1 := hS.u.c1
  have x2 := hS.u.c2
  have hz := bW.size
  have hpl := hQ.lt
  have hmlt := hQ.mlt
  obtain ⟨G, HG⟩ : ∃ G, Hid (w.heap.size = G) := ⟨_, rfl⟩
  rw [HG.out] at bW hS x0 x1 x2 hz hpl
  rw [HG.out] at hmlt
  have fin : ∀ wA wC m', Below G w wA → Mv p m m' wA wC → Mv p m m' w wC := fun wA wC m' h1 h3 => Mv.eb (by rw [HG.out]; exact h1) h3
  clear hm ha
  obtain ⟨R, HR⟩ : ∃ R, Hid (keepD L (moreD (getD L n) from_ nodes base) = R) := ⟨_, rfl⟩
  rw [HR.out]
  go_enter Tryz.func128, Tryz.ntmps128
  go_upto_region 1 with fail
  rw [← HW3.out, HG.out]
  go_wp2_with fail
  refine hmay.mono ?_
  rintro e wM ⟨rfl, hb⟩
  have hSM := hS.below hb
  have hQM := hQ3.below hb
  have y0 := hSM.u.c0
  have y1 := hSM.u.c1
  have y2 := hSM.u.c2
  have hc := hQM.c
  have hQd : Du X p m L wM.drew := hQM.keep rfl fun _ _ => rfl
  have hl := look_any hQd (wf_node n0 n1)
  have bz := below_alloc wM (.cells #[.int .i64 0, .int .u64 0, .int .i64 0, .int .u64 0, .int .u64 0, .int .u64 0, .int .u64 0] 162)
  have hQz := hQM.below bz
  have hcz := hQz.c
  have v0 := (hSM.below bz).u.c0
  have hQe : Du X p m L (wM.alloc (.cells #[.int .i64 0, .int .u64 0, .int .i64 0, .int .u64 0, .int .u64 0, .int .u64 0, .int .u64 0] 162)).drew := hQz.keep rfl fun _ _ => rfl
  have hle := look_any hQe (wf_node n0 n1)
  have bb := below_alloc wM (dC (getD L n) 162)
  have hBd := Bd.new 162 (getD L n) wM
  have hSN := hSM.below bb
  have hQN := hQM.below bb
  have hend := bW.trans ((hb.mono hz).trans (bb.mono (Nat.le_trans hz hb.size)))
  rw [hh] at hl hle
  have z1 := hSN.u.c1
  have k1 := hBd.c1
  have k3 := hBd.c3
  have hlim := hgo.f
  have hhas := fun W => Bnd.has_any (getD L n).f hlim from_ W
  rw [hf] at hhas
  have ht0 := hgo.t0
  have ht1 := hgo.t64
  have cW := fun W => Bnd.with_any (getD L n).f hlim from_ W
  have cU := fun W h1 h2 => until_any (G + 1 + 1) (G + 1) base HB nodes (getD L n).a ((getD L n).t + 1) hnd hgo.a0 hgo.a1 (by omega) (by omega) W h1 h2
  have cK : ∀ W, Du X p m L W → Calls Tryz.prog 167 #[.pointer (some ⟨p, 3, none⟩), .agg #[.int .i64 (getD L n).n, .int .u64 (getD L n).i, .int .i64 (getD L n).s, .int .u64 (Bnd.withS (getD L n).f from_ : Nat), .int .u64 (getD L n).a, .int .u64 ((getD L n).t + 1), .int .u64 (untilS base nodes (getD L n).a ((getD L n).t + 1))]] W fun e w' => e = .returned (.tuple #[]) ∧ ∃ m', Du X p m' (keepD L (moreD (getD L n) from_ nodes base)) w' ∧ Mv p m m' W w' := fun W h => keep_any p m L (moreD (getD L n) from_ nodes base) hok W h
  unfold dV at hl hle
  obtain ⟨wN, HWN⟩ : ∃ wN, Hid (wN = (wM.alloc (dC (getD L n) 162)).drew) := ⟨_, rfl⟩
  have hBN : Bd 162 wM.heap.size (getD L n) wN := by rw [HWN.out]; exact hBd.keep rfl
  have hSN' : Bs G n i 1 nodes base wN := by rw [HWN.out]; exact hSN.keep fun _ _ _ => rfl
  have hQN' : Du X p m L wN := by rw [HWN.out]; exact hQN.keep rfl fun _ _ => rfl
  have hend' : Below G w wN := by rw [HWN.out]; exact Below.drew' hend
  have hgp : p ≠ wM.heap.size := by have := hQM.lt; omega
  have hgm : ∀ b, m = some b → b ≠ wM.heap.size := fun b hb => by have := hQM.mlt b hb; omega
  have hgG : G + 2 < wM.heap.size := hSM.lt
  unfold dC at bb z1 k1 k3 hend HWN
  clear hSN hQN hBd hQd hQe hQz bz hSM hQM hS hQ3 hQ bb hb x0 x1 x2 hh hmay bW hpl hmlt hlim hf hend hgo hok
  rw [HR.out] at cK
  clear HR
  generalize untilS base nodes (getD L n).a ((getD L n).t + 1) = un at *
  generalize getD L n = x at *
  generalize Bnd.withS x.f from_ = wi at *
  subst hi
  have hi1 : ¬ x.i < x.i := Int.lt_irrefl _
  go_wp2_with fail
  go_region
  all_goals
    go_upto_region 5 with fail
    rw [← HWN.out]
    clear HWN y0 y1 y2 hc hl hcz v0 hle z1 k1 k3
    generalize wM.heap.size = gx at *
    have s1 := hSN'.u.c1
    have b1 := hBN.c1
    have b3 := hBN.c3
    have e3 := hBN.free 3
    have hB1 := hBN.set3 wi
    have hS1 := hSN'.setOther (j := 3) hgG (.int .u64 (wi : Int))
    have hQ1 := hQN'.setOther (j := 3) hgp hgm (.int .u64 (wi : Int))
    have hE1 := Below.setOther (j := 3) hend' (by omega : G ≤ gx) (.int .u64 (wi : Int))
    obtain ⟨V1, HV1⟩ : ∃ V1, Hid (V1 = wN.setCell ⟨gx, 3, none⟩ (.int .u64 (wi : Int))) := ⟨_, rfl⟩
    rw [← HV1.out] at hB1 hS1 hQ1 hE1
    have b5 := hB1.c5
    have e5 := hB1.free 5
    have hB2 := hB1.set5 (x.t + 1)
    have hS2 := hS1.setOther (j := 5) hgG (.int .u64 (x.t + 1))
    have hQ2 := hQ1.setOther (j := 5) hgp hgm (.int .u64 (x.t + 1))
    have hE2 := Below.setOther (j := 5) hE1 (by omega : G ≤ gx) (.int .u64 (x.t + 1))
    obtain ⟨V2, HV2⟩ : ∃ V2, Hid (V2 = V1.setCell ⟨gx, 5, none⟩ (.int .u64 (x.t + 1))) := ⟨_, rfl⟩
    rw [← HV2.out] at hB2 hS2 hQ2 hE2
    have c4 := hB2.c4
    have c5 := hB2.c5
    have cU2 := cU V2 hS2.cb hS2.cn
    simp only at b5 c4 c5
    go_upto_region 12 with (go_at_call 82; refine (hhas _).mono ?_; rintro e wH ⟨rfl, rfl⟩)
    go_upto_region 13 with (go_at_call 111; refine (cW _).mono ?_; rintro e wA ⟨rfl, rfl⟩)
    rw [← HV1.out]
    go_upto_region 14 with fail
    rw [← HV2.out]
    go_wp2_with fail
    refine cU2.mono ?_
    rintro e wU ⟨rfl, hbU⟩
    have hBU := hB2.below hbU
    have e6 := hBU.free 6
    have hB3 := hBU.set6 un
    have hQ3 := (hQ2.below hbU).setOther (j := 6) hgp hgm (.int .u64 un)
    have hE3 := Below.setOther (j := 6) (hE2.trans (hbU.mono (by have := hB2.lt; omega))) (by omega : G ≤ gx) (.int .u64 un)
    have d6 := hBU.c6
    obtain ⟨V3, HV3⟩ : ∃ V3, Hid (V3 = wU.setCell ⟨gx, 6, none⟩ (.int .u64 un)) := ⟨_, rfl⟩
    rw [← HV3.out] at hB3 hQ3 hE3
    have a0 := hB3.c0
    have a1 := hB3.c1
    have a2 := hB3.c2
    have a3 := hB3.c3
    have a4 := hB3.c4
    have a5 := hB3.c5
    have a6 := hB3.c6
    simp only at a0 a1 a2 a3 a4 a5 a6 d6
    have cK2 := cK V3 hQ3
    go_upto_region 15 with fail
    rw [← HV3.out]
    go_wp2_with fail
    refine cK2.mono ?_
    rintro e wC ⟨rfl, m', hQC, hmv⟩
    go_wp2_with fail
    go_ret2
    exact ⟨rfl, m', hQC, fin _ _ _ hE3 hmv⟩

theorem raise_any (p : Nat) (m : Option Nat) (L : List Dbt) (n i s from_ now nodes : Int) (base : Nat) (hi : 0 ≤ i ∧ i ≤ 18446744073709551615) (hnow : 0 ≤ now ∧ now ≤ 18446744073709551615) (HB : Hid (base < 2 ^ 64)) (hnd : -9223372036854775808 ≤ nodes ∧ nodes ≤ 9223372036854775807) (w : World) (hQ : Du X p m L w) :
    Calls Tryz.prog 128 #[.pointer (some ⟨p, 3, none⟩), .agg #[.int .i64 n, .int .u64 i, .int .i64 s], .int .i64 from_, .int .u64 now, .int .i64 nodes, .float .f64 base] w fun e w' => e = .returned (.tuple #[.bool (raiseS L n i s from_ now nodes base).1, .int .i64 (raiseS L n i s from_ now nodes base).2.1]) ∧ ∃ m', Du X p m' (raiseS L n i s from_ now nodes base).2.2 w' ∧ Mv p m m' w w' := by
  unfold raiseS
  split
  · rename_i ha
    exact (raise_arg p n i s from_ now nodes base ha w).mono fun e w' ⟨h1, h2⟩ => ⟨h1, m, hQ.below h2, Mv.of h2⟩
  · rename_i ha
    have ha : argS n s from_ = true := by simpa using ha
    split
    · rename_i hh
      cases h0 : hasD L n
      · exact raise_none p m L n i s from_ now nodes base ha hi hnow HB hnd h0 w hQ
      · rcases hh with hh | hh
        · rw [h0] at hh; cases hh
        · exact raise_later p m L n i s from_ now nodes base ha hi hnow HB hnd h0 hh w hQ
    · rename_i hh
      have h0 : hasD L n = true := by
        cases e : hasD L n
        · exact absurd (Or.inl e) hh
        · rfl
      split
      · rename_i h1
        exact (raise_old p m L n i s from_ now nodes base ha h0 h1 w hQ).mono fun e w' ⟨h1, h2⟩ => ⟨h1, m, hQ.below h2, Mv.of h2⟩
      · rename_i h1
        have he : (getD L n).i = i := by
          have : ¬ (getD L n).i < i := fun h => hh (Or.inr h)
          omega
        split
        · rename_i h2
          exact (raise_told p m L n i s from_ now nodes base ha h0 he h2 w hQ).mono fun e w' ⟨h1, h2⟩ => ⟨h1, m, hQ.below h2, Mv.of h2⟩
        · rename_i h2
          exact raise_more p m L n i s from_ now nodes base ha HB hnd h0 he (by simpa using h2) w hQ
end Go.Proofs.YtpoofjnfaijjjaaGreatDoor.Do
