/-
  Raise: a new doubt.
-/
import Derived.Test.YtahiiieifdhgeaaDrb
namespace Go.Proofs.Ytahiiieifdhgeaa
open Go.RowKit Go.Maps

set_option maxRecDepth 100000 in
set_option maxHeartbeats 2000000 in
theorem raise_none (p : Nat) (m : Option Nat) (L : List Dbt) (n i s from_ now nodes : Int) (base : Nat) (ha : argS n s from_ = true) (hi : 0 ≤ i ∧ i ≤ 18446744073709551615) (hnow : 0 ≤ now ∧ now ≤ 18446744073709551615) (HB : Hid (base < 2 ^ 64)) (hnd : -9223372036854775808 ≤ nodes ∧ nodes ≤ 9223372036854775807) (hh : hasD L n = false) (w : World) (hQ : Du p m L w) :
    Calls Try.prog 9 #[.pointer (some ⟨p, 0, none⟩), .agg #[.int .i64 n, .int .u64 i, .int .i64 s], .int .i64 from_, .int .u64 now, .int .i64 nodes, .float .f64 base] w fun e w' => e = .returned (.tuple #[.bool true, .int .i64 0]) ∧ ∃ m', Du p m' (keepD L (newD n i from_ now nodes base)) w' ∧ Mv p m m' w w' := by
  have hok := newD_ok (base := base) (nodes := nodes) ha hi hnow
  have bW := boxW_below n i s nodes base w
  have hS := boxW_bs n i s nodes base w
  obtain ⟨w3, HW3⟩ : ∃ w3, Hid (w3 = boxW n i s nodes base w) := ⟨_, rfl⟩
  rw [← HW3.out] at bW hS
  unfold boxW at HW3
  obtain ⟨n0, n1, rfl, f0, f1⟩ := argS_true ha
  have hmay := may_any n i 1 w3
  have hm : mayS n 1 = true := by simp [mayS]; omega
  rw [hm] at hmay
  have hQ3 := hQ.below bW
  have x0 := hS.u.c0
  have x1 := hS.u.c1
  have x2 := hS.u.c2
  have hz := bW.size
  have hpl := hQ.lt
  have hmlt := hQ.mlt
  obtain ⟨G, HG⟩ : ∃ G, Hid (w.heap.size = G) := ⟨_, rfl⟩
  rw [HG.out] at bW hS x0 x1 x2 hz hpl
  rw [HG.out] at hmlt
  have fin : ∀ wA wB wC m', Below G w wA → Below wA.heap.size wA wB → Mv p m m' wB wC → Mv p m m' w wC := fun wA wB wC m' h1 h2 h3 => Mv.eb (by rw [HG.out]; exact h1.trans (h2.mono (by have := h1.size; rw [HG.out] at this; exact this))) h3
  clear hm ha
  obtain ⟨R, HR⟩ : ∃ R, Hid (keepD L (newD n i from_ now nodes base) = R) := ⟨_, rfl⟩
  rw [HR.out]
  go_enter Try.func9, Try.ntmps9
  go_upto_region 1 with fail
  rw [← HW3.out, HG.out]
  go_wp2_with fail
  refine hmay.mono ?_
  rintro e wM ⟨rfl, hb⟩
  have hSM := hS.below hb
  have hQM := hQ3.below hb
  have y0 := hSM.u.c0
  have y1 := hSM.u.c1
  have y2 := hSM.u.c2
  have hc := hQM.c
  have hQd : Du p m L wM.drew := hQM.keep rfl fun _ _ => rfl
  have hl := look_any hQd (wf_node n0 n1)
  have bz := below_alloc wM (.cells #[.int .i64 0, .int .u64 0, .int .i64 0, .int .u64 0, .int .u64 0, .int .u64 0, .int .u64 0] 55)
  have hQz := hQM.below bz
  have hcz := hQz.c
  have v0 := (hSM.below bz).u.c0
  have hQe : Du p m L (wM.alloc (.cells #[.int .i64 0, .int .u64 0, .int .i64 0, .int .u64 0, .int .u64 0, .int .u64 0, .int .u64 0] 55)).drew := hQz.keep rfl fun _ _ => rfl
  have hle := look_any hQe (wf_node n0 n1)
  have bb := below_alloc wM (dC (getD L n) 55)
  have hBd := Bd.new 55 (getD L n) wM
  have hSN := hSM.below bb
  have hQN := hQM.below bb
  have hend := bW.trans ((hb.mono hz).trans (bb.mono (Nat.le_trans hz hb.size)))
  have z0 := hSN.u.c0
  have z1 := hSN.u.c1
  have z2 := hSN.u.c2
  have k1 := hBd.c1
  have cW := fun W => Bnd.with_any 0 (by decide) from_ W
  have cU := fun W h1 h2 => until_any (G + 1 + 1) (G + 1) base HB nodes now 0 hnd hnow.1 hnow.2 (Int.le_refl 0) (by omega) W h1 h2
  have cK : ∀ W, Du p m L W → Calls Try.prog 24 #[.pointer (some ⟨p, 0, none⟩), .agg #[.int .i64 n, .int .u64 i, .int .i64 1, .int .u64 (Bnd.withS 0 from_ : Nat), .int .u64 now, .int .u64 0, .int .u64 (untilS base nodes now 0)]] W fun e w' => e = .returned (.tuple #[]) ∧ ∃ m', Du p m' (keepD L (newD n i from_ now nodes base)) w' ∧ Mv p m m' W w' := fun W h => keep_any p m L (newD n i from_ now nodes base) hok W h
  unfold dV at hl hle
  obtain ⟨wN, HWN⟩ : ∃ wN, Hid (wN = (wM.alloc (dC (getD L n) 55)).drew) := ⟨_, rfl⟩
  have hSN' : Bs G n i 1 nodes base wN := by rw [HWN.out]; exact hSN.keep fun _ _ _ => rfl
  have hQN' : Du p m L wN := by rw [HWN.out]; exact hQN.keep rfl fun _ _ => rfl
  have hend' : Below G w wN := by rw [HWN.out]; exact Below.drew' hend
  have hSd : Bs G n i 1 nodes base wN.drew := hSN'.keep fun _ _ _ => rfl
  have hQd2 : Du p m L wN.drew := hQN'.keep rfl fun _ _ => rfl
  have hendd : Below G w wN.drew := Below.drew' hend'
  have s0 := hSN'.u.c0
  have s1 := hSN'.u.c1
  have s2 := hSN'.u.c2
  have cU2 := cU wN.drew hSd.cb hSd.cn
  unfold dC at bb z0 z1 z2 k1 hend HWN
  clear hSN hQN hBd hQd hQe hQz bz hSM hQM hS hQ3 hQ bb hb x0 x1 x2 hmay bW hend hi hnow hok
  rw [HR.out] at cK
  clear HR
  generalize untilS base nodes now 0 = un at *
  generalize Bnd.withS 0 from_ = wi at *
  rw [hh] at hl hle
  clear hh
  generalize getD L n = x at *
  go_wp2_with fail
  go_region
  all_goals
    go_upto_region 6 with fail
    rw [← HWN.out]
    go_region_with (first
      | (go_at_call 25; refine (cW _).mono ?_; rintro e wA ⟨rfl, rfl⟩)
      | (go_at_call 21; refine cU2.mono ?_; rintro e wB ⟨rfl, hbB⟩; have t0 := (hSd.below hbB).u.c0; have t1 := (hSd.below hbB).u.c1; have t2 := (hSd.below hbB).u.c2)
      | (go_at_call 24; refine (cK _ (hQd2.below hbB)).mono ?_; rintro e wC ⟨rfl, m', hQC, hmv⟩))
    all_goals
      go_wp2_with fail
      go_ret2
      exact ⟨rfl, m', hQC, fin _ _ _ _ hendd hbB hmv⟩

end Go.Proofs.Ytahiiieifdhgeaa
