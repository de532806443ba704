/-
  Raise: a doubt that is newer, and one that was told already.
-/
import Derived.Test.YtahiiieifdhgeaaDra
namespace Go.Proofs.Ytahiiieifdhgeaa
open Go.RowKit Go.Maps

set_option maxRecDepth 100000 in
set_option maxHeartbeats 2000000 in
theorem raise_old (p : Nat) (m : Option Nat) (L : List Dbt) (n i s from_ now nodes : Int) (base : Nat) (ha : argS n s from_ = true) (hh : hasD L n = true) (hi : i < (getD L n).i) (w : World) (hQ : Du p m L w) :
    Calls Try.prog 9 #[.pointer (some ⟨p, 0, none⟩), .agg #[.int .i64 n, .int .u64 i, .int .i64 s], .int .i64 from_, .int .u64 now, .int .i64 nodes, .float .f64 base] w fun e w' => e = .returned (.tuple #[.bool false, .int .i64 70]) ∧ Below w.heap.size w w' := by
  have bW := boxW_below n i s nodes base w
  have hS := boxW_bs n i s nodes base w
  obtain ⟨w3, HW3⟩ : ∃ w3, Hid (w3 = boxW n i s nodes base w) := ⟨_, rfl⟩
  rw [← HW3.out] at bW hS
  unfold boxW at HW3
  obtain ⟨n0, n1, rfl, f0, f1⟩ := argS_true ha
  have hmay := may_any n i 1 w3
  have hm : mayS n 1 = true := by simp [mayS]; omega
  rw [hm] at hmay
  have hQ3 := hQ.below bW
  have x0 := hS.u.c0
  have x1 := hS.u.c1
  have x2 := hS.u.c2
  have hz := bW.size
  have hpl := hQ.lt
  have hmlt := hQ.mlt
  obtain ⟨G, HG⟩ : ∃ G, Hid (w.heap.size = G) := ⟨_, rfl⟩
  rw [HG.out] at bW hS x0 x1 x2 hz hpl
  rw [HG.out] at hmlt
  rw [HG.out]
  clear hm ha
  go_enter Try.func9, Try.ntmps9
  go_upto_region 1 with fail
  rw [← HW3.out, HG.out]
  go_wp2_with fail
  refine hmay.mono ?_
  rintro e wM ⟨rfl, hb⟩
  have hSM := hS.below hb
  have hQM := hQ3.below hb
  have y0 := hSM.u.c0
  have y1 := hSM.u.c1
  have y2 := hSM.u.c2
  have hc := hQM.c
  have hQd : Du p m L wM.drew := hQM.keep rfl fun _ _ => rfl
  have hl := look_any hQd (wf_node n0 n1)
  have bz := below_alloc wM (.cells #[.int .i64 0, .int .u64 0, .int .i64 0, .int .u64 0, .int .u64 0, .int .u64 0, .int .u64 0] 55)
  have hQz := hQM.below bz
  have hcz := hQz.c
  have v0 := (hSM.below bz).u.c0
  have hQe : Du p m L (wM.alloc (.cells #[.int .i64 0, .int .u64 0, .int .i64 0, .int .u64 0, .int .u64 0, .int .u64 0, .int .u64 0] 55)).drew := hQz.keep rfl fun _ _ => rfl
  have hle := look_any hQe (wf_node n0 n1)
  have bb := below_alloc wM (dC (getD L n) 55)
  have hBd := Bd.new 55 (getD L n) wM
  have hSN := hSM.below bb
  have hQN := hQM.below bb
  have hend := bW.trans ((hb.mono hz).trans (bb.mono (Nat.le_trans hz hb.size)))
  rw [hh] at hl hle
  have z1 := hSN.u.c1
  have k1 := hBd.c1
  unfold dV at hl hle
  unfold dC at bb z1 k1 hend
  clear hSN hQN hBd hQd hQe hQz bz hSM hQM hS hQ3 hQ bb hb x0 x1 x2 hh hmay bW hpl hmlt
  generalize getD L n = x at *
  go_wp2_with fail
  go_region
  all_goals
    go_wp2_with fail
    go_ret2
    exact ⟨rfl, Below.drew' hend⟩


set_option maxRecDepth 100000 in
set_option maxHeartbeats 2000000 in
theorem raise_told (p : Nat) (m : Option Nat) (L : List Dbt) (n i s from_ now nodes : Int) (base : Nat) (ha : argS n s from_ = true) (hh : hasD L n = true) (hi : (getD L n).i = i) (hf : Bnd.hasS (getD L n).f from_ = true) (w : World) (hQ : Du p m L w) :
    Calls Try.prog 9 #[.pointer (some ⟨p, 0, none⟩), .agg #[.int .i64 n, .int .u64 i, .int .i64 s], .int .i64 from_, .int .u64 now, .int .i64 nodes, .float .f64 base] w fun e w' => e = .returned (.tuple #[.bool false, .int .i64 0]) ∧ Below w.heap.size w w' := by
  have bW := boxW_below n i s nodes base w
  have hS := boxW_bs n i s nodes base w
  obtain ⟨w3, HW3⟩ : ∃ w3, Hid (w3 = boxW n i s nodes base w) := ⟨_, rfl⟩
  rw [← HW3.out] at bW hS
  unfold boxW at HW3
  obtain ⟨n0, n1, rfl, f0, f1⟩ := argS_true ha
  have hmay := may_any n i 1 w3
  have hm : mayS n 1 = true := by simp [mayS]; omega
  rw [hm] at hmay
  have hQ3 := hQ.below bW
  have x0 := hS.u.c0
  have x1 := hS.u.c1
  have x2 := hS.u.c2
  have hz := bW.size
  have hpl := hQ.lt
  have hmlt := hQ.mlt
  obtain ⟨G, HG⟩ : ∃ G, Hid (w.heap.size = G) := ⟨_, rfl⟩
  rw [HG.out] at bW hS x0 x1 x2 hz hpl
  rw [HG.out] at hmlt
  rw [HG.out]
  clear hm ha
  go_enter Try.func9, Try.ntmps9
  go_upto_region 1 with fail
  rw [← HW3.out, HG.out]
  go_wp2_with fail
  refine hmay.mono ?_
  rintro e wM ⟨rfl, hb⟩
  have hSM := hS.below hb
  have hQM := hQ3.below hb
  have y0 := hSM.u.c0
  have y1 := hSM.u.c1
  have y2 := hSM.u.c2
  have hc := hQM.c
  have hQd : Du p m L wM.drew := hQM.keep rfl fun _ _ => rfl
  have hl := look_any hQd (wf_node n0 n1)
  have bz := below_alloc wM (.cells #[.int .i64 0, .int .u64 0, .int .i64 0, .int .u64 0, .int .u64 0, .int .u64 0, .int .u64 0] 55)
  have hQz := hQM.below bz
  have hcz := hQz.c
  have v0 := (hSM.below bz).u.c0
  have hQe : Du p m L (wM.alloc (.cells #[.int .i64 0, .int .u64 0, .int .i64 0, .int .u64 0, .int .u64 0, .int .u64 0, .int .u64 0] 55)).drew := hQz.keep rfl fun _ _ => rfl
  have hle := look_any hQe (wf_node n0 n1)
  have bb := below_alloc wM (dC (getD L n) 55)
  have hBd := Bd.new 55 (getD L n) wM
  have hSN := hSM.below bb
  have hQN := hQM.below bb
  have hend := bW.trans ((hb.mono hz).trans (bb.mono (Nat.le_trans hz hb.size)))
  rw [hh] at hl hle
  have z1 := hSN.u.c1
  have k1 := hBd.c1
  have k3 := hBd.c3
  have hlim := (hQ.di.ok _ (hasD_true hh).1).f
  have hhas := fun W => Bnd.has_any (getD L n).f hlim from_ W
  rw [hf] at hhas
  unfold dV at hl hle
  unfold dC at bb z1 k1 k3 hend
  clear hSN hQN hBd hQd hQe hQz bz hSM hQM hS hQ3 hQ bb hb x0 x1 x2 hh hmay bW hpl hmlt hlim hf
  generalize getD L n = x at *
  subst hi
  have hi1 : ¬ x.i < x.i := Int.lt_irrefl _
  go_wp2_with fail
  go_region
  all_goals
    go_wp2_with fail
    refine (hhas _).mono ?_
    rintro e wH ⟨rfl, rfl⟩
    go_wp2_with fail
    go_ret2
    exact ⟨rfl, Below.drew' hend⟩

end Go.Proofs.Ytahiiieifdhgeaa
