/-
  Trim.
-/
import Derived.Test.YtlbeincgknmijaaRch
namespace Go.Proofs.Ytlbeincgknmijaa
open Go.RowKit

theorem Bv.ne {T : TypeId} {b p : Nat} {v : Value} {low : Int} {R : Rng} {w : World} (h : Bv T b v w) (hS : Sf p low R w) : b ≠ p := by
  rintro rfl
  have h1 := hS.clow
  simp [World.cell?, h.heap] at h1

set_option maxRecDepth 100000 in
set_option maxHeartbeats 4000000 in
theorem trim1_any (bt bs p : Nat) (low : Int) (R : Rng) (to n : Int) (n0 : 0 ≤ n) (w : World) (ht : Bv 25 bt (.int .u64 to) w) (hs : Bv 31 bs (.pointer (some ⟨p, 0, none⟩)) w) (hS : Sf p low R w) :
    Calls Try.prog 46 #[.int .u64 n, .pointer (some ⟨bt, 0, none⟩), .pointer (some ⟨bs, 0, none⟩)] w fun e w' =>
      e = .returned (.bool (decide (n < to))) ∧ Sf p low (if n ≤ to then R.set (n % 64).toNat zP else R) w' ∧ But w.heap.size p w w' := by
  have ct := ht.c
  have cs := hs.c
  have ha := fun w => sat_any p n n0 w
  by_cases h1 : n ≤ to
  · have z1 : decide (n ≤ to) = true := decide_eq_true h1
    rw [if_pos h1]
    obtain ⟨j, hj, hj', e1, e2⟩ := slot_of n n0
    rw [← hj] at ha ⊢
    have hpt : bt ≠ p := ht.ne hS
    have x0 := hS.c0 hj'
    have x1 := hS.c1 hj'
    have x2 := hS.c2 hj'
    have x3 := hS.c3 hj'
    have y0 := hS.free (j * 4)
    have y1 := hS.free (j * 4 + 1)
    have y2 := hS.free (j * 4 + 2)
    have y3 := hS.free (j * 4 + 3)
    have hend := hS.put hj' zP
    have hbl := But.set4 (But.refl w.heap.size p w) (j * 4) (j * 4 + 1) (j * 4 + 2) (j * 4 + 3) (.int .u64 zP.n) (.int .i64 zP.g.s) (.int .u64 zP.g.m) (.string zP.g.x)
    have hpt' := hpt.symm
    clear hj e1 e2 h1
    go_enter Try.func46, Try.ntmps46
    go_wp2_with (go_at_call 44; refine (ha _).mono ?_; rintro e w1 ⟨rfl, rfl⟩)
    go_ret
    exact ⟨rfl, hend, hbl⟩
  · have z1 : decide (n ≤ to) = false := decide_eq_false h1
    have z2 : decide (n < to) = false := decide_eq_false (by omega)
    rw [if_neg h1]
    go_enter Try.func46, Try.ntmps46
    go_wp2_with fail
    go_ret
    exact ⟨rfl, hS, But.refl _ _ _⟩

set_option maxRecDepth 100000 in
set_option maxHeartbeats 4000000 in
theorem strim_no (p : Nat) (low : Int) (R : Rng) (to : Int) (l0 : 0 ≤ low) (l1 : low ≤ 1000000) (ht : reachR low R < to) (w : World) (hS : Sf p low R w) :
    Calls Try.prog 28 #[.pointer (some ⟨p, 0, none⟩), .int .u64 to] w fun e w' => e = .returned (.int .i64 1) ∧ Below w.heap.size w w' := by
  have a1 := below_alloc w (.cells #[.pointer (some ⟨p, 0, none⟩)] 31)
  have a2 := below_alloc (w.alloc (.cells #[.pointer (some ⟨p, 0, none⟩)] 31)) (.cells #[.int .u64 to] 25)
  have hz : (w.alloc (.cells #[.pointer (some ⟨p, 0, none⟩)] 31)).heap.size = w.heap.size + 1 := by simp
  have hs := (Bv.new 31 (.pointer (some ⟨p, 0, none⟩)) w).below a2
  have hv := Bv.new 25 (.int .u64 to) (w.alloc (.cells #[.pointer (some ⟨p, 0, none⟩)] 31))
  rw [hz] at hv
  have hS2 := (hS.below a1).below a2
  have hb2 := a1.trans (a2.mono a1.size)
  have cs := hs.c
  have ct := hv.c
  have hr := sreach_any p low R l0 l1 _ hS2.drew
  have hbd := hb2.drew
  have cs3' := fun w' (h : Below _ _ w') => cell_below (cell_below cs (Below.refl _ _).drew) h
  have ct3' := fun w' (h : Below _ _ w') => cell_below (cell_below ct (Below.refl _ _).drew) h
  have z1 : decide (reachR low R < to) = true := decide_eq_true ht
  generalize reachR low R = r at *
  clear a1 a2 hz
  go_enter Try.func28, Try.ntmps28
  go_wp2_with fail
  go_region_with (go_at_call 45; refine hr.mono ?_; rintro e w3 ⟨rfl, hb3⟩; have cs3 := cs3' _ hb3; have ct3 := ct3' _ hb3; have hB3 := hbd.trans (hb3.mono hbd.size))
  all_goals
    go_wp2_with fail
    go_ret
    exact ⟨rfl, hB3⟩

theorem trim_each (p bt bs : Nat) (low : Int) (R : Rng) (to : Int) (l0 : 0 ≤ low) (l1 : low ≤ 1000000) (hI : RI low R) (ht : to ≤ low + 64) (w : World) (hS : Sf p low R w) (hT : Bv 25 bt (.int .u64 to) w) (hP : Bv 31 bs (.pointer (some ⟨p, 0, none⟩)) w) :
    Calls Try.prog 37 #[.pointer (some ⟨p, 0, none⟩), .func (.func 46) #[] #[.pointer (some ⟨bt, 0, none⟩), .pointer (some ⟨bs, 0, none⟩)]] w fun e w' =>
      e = .returned (.tuple #[]) ∧ Sf p low (trimR R to) w' ∧ Bv 25 bt (.int .u64 to) w' ∧ Bv 31 bs (.pointer (some ⟨p, 0, none⟩)) w' ∧ But w.heap.size p w w' := by
  have hpt : bt ≠ p := hT.ne hS
  have hps : bs ≠ p := hP.ne hS
  refine each_any p low 46 #[.pointer (some ⟨bt, 0, none⟩), .pointer (some ⟨bs, 0, none⟩)]
    (fun i w' => Sf p low (trimR R (min to (low + i))) w' ∧ Bv 25 bt (.int .u64 to) w' ∧ Bv 31 bs (.pointer (some ⟨p, 0, none⟩)) w' ∧ But w.heap.size p w w')
    (fun w' => Sf p low (trimR R to) w' ∧ Bv 25 bt (.int .u64 to) w' ∧ Bv 31 bs (.pointer (some ⟨p, 0, none⟩)) w' ∧ But w.heap.size p w w')
    w l0 l1 (fun _ _ => rfl) ?_ ?_ ⟨hS.ext (trimR_none hI (by omega)), hT, hP, But.refl _ _ _⟩
  · rintro i w' hi ⟨h1, h2, h3, h4⟩
    refine ⟨_, h1, fun hp => ?_, fun hp => ?_⟩
    · refine (trim1_any bt bs p low _ to (low + 1 + i) (by omega) w' h2 h3 h1).mono ?_
      rintro e w2 ⟨rfl, k1, k2⟩
      have k3 := h4.trans (k2.mono h4.size)
      by_cases a : low + 1 + (i : Int) ≤ to
      · rw [if_pos a] at k1
        have k1 := k1.ext (trim_step2 hI a)
        by_cases b : low + 1 + (i : Int) < to
        · rw [decide_eq_true b]
          exact Or.inl ⟨rfl, k1, h2.but k2 hpt, h3.but k2 hps, k3⟩
        · rw [decide_eq_false b]
          rw [show min to (low + ((i + 1 : Nat) : Int)) = to by omega] at k1
          exact Or.inr ⟨rfl, k1, h2.but k2 hpt, h3.but k2 hps, k3⟩
      · rw [if_neg a] at k1
        rw [decide_eq_false (by omega)]
        rw [show min to (low + (i : Int)) = to by omega] at k1
        exact Or.inr ⟨rfl, k1, h2.but k2 hpt, h3.but k2 hps, k3⟩
    · have hp := trim_has_not (show min to (low + (i : Int)) < low + 1 + i by omega) hp
      exact ⟨h1.ext (trim_step hI l0 hp), h2, h3, h4⟩
  · rintro w' ⟨h1, h2, h3, h4⟩
    rw [show min to (low + ((64 : Nat) : Int)) = to by omega] at h1
    exact ⟨h1, h2, h3, h4⟩

set_option maxRecDepth 100000 in
set_option maxHeartbeats 4000000 in
theorem strim_yes (p : Nat) (low : Int) (R : Rng) (to : Int) (l0 : 0 ≤ low) (l1 : low ≤ 1000000) (hI : RI low R) (ht : to ≤ reachR low R) (w : World) (hS : Sf p low R w) :
    Calls Try.prog 28 #[.pointer (some ⟨p, 0, none⟩), .int .u64 to] w fun e w' => e = .returned (.int .i64 0) ∧ Sf p (max low to) (trimR R to) w' ∧ But w.heap.size p w w' := by
  have h64 := reachR_le low R
  have a1 := below_alloc w (.cells #[.pointer (some ⟨p, 0, none⟩)] 31)
  have a2 := below_alloc (w.alloc (.cells #[.pointer (some ⟨p, 0, none⟩)] 31)) (.cells #[.int .u64 to] 25)
  have hz : (w.alloc (.cells #[.pointer (some ⟨p, 0, none⟩)] 31)).heap.size = w.heap.size + 1 := by simp
  have hs := (Bv.new 31 (.pointer (some ⟨p, 0, none⟩)) w).below a2
  have hv := Bv.new 25 (.int .u64 to) (w.alloc (.cells #[.pointer (some ⟨p, 0, none⟩)] 31))
  rw [hz] at hv
  have hS2 := (hS.below a1).below a2
  have hb2 := a1.trans (a2.mono a1.size)
  have cs := hs.c
  have ct := hv.c
  have hr := sreach_any p low R l0 l1 _ hS2.drew
  have hbd := hb2.drew
  have cs3' := fun w' (h : Below _ _ w') => cell_below (cell_below cs (Below.refl _ _).drew) h
  have ct3' := fun w' (h : Below _ _ w') => cell_below (cell_below ct (Below.refl _ _).drew) h
  have hS3' := fun w' (h : Below _ _ w') => (hS2.drew).below (w' := w') h
  have hs3' := fun w' (h : Below _ _ w') => (hs.below (Below.refl _ _).drew).below (w' := w') h
  have hv3' := fun w' (h : Below _ _ w') => (hv.below (Below.refl _ _).drew).below (w' := w') h
  have z1 : decide (reachR low R < to) = false := decide_eq_false (by omega)
  have hto : to ≤ low + 64 := by omega
  have hend : ∀ w', Sf p low (trimR R to) w' → Sf p (max low to) (trimR R to) (w'.setCell ⟨p, 256, none⟩ (.int .u64 (max low to))) := fun w' h => h.setlow _
  have he := trim_each p (w.heap.size + 1) w.heap.size low R to l0 l1 hI hto
  generalize reachR low R = r at *
  clear a1 a2 hz h64 ht
  go_enter Try.func28, Try.ntmps28
  go_wp2_with fail
  go_region_with (go_at_call 45; refine hr.mono ?_; rintro e w3 ⟨rfl, hb3⟩; have cs3 := cs3' _ hb3; have ct3 := ct3' _ hb3; have hB3 := hbd.trans (hb3.mono hbd.size); have hE := he _ (hS3' _ hb3) (hv3' _ hb3) (hs3' _ hb3))
  all_goals
    clear cs3' ct3' hS3' hs3' hv3' hr hbd
    go_wp2_with fail
    refine hE.mono ?_
    rintro e w4 ⟨rfl, k1, k2, k3, k4⟩
    have c1 := k1.clow
    have c2 := k2.c
    have c3 := k3.c
    have y := k1.free 256
    have hpt : p ≠ w.heap.size + 1 := (k2.ne k1).symm
    have hps : p ≠ w.heap.size := (k3.ne k1).symm
    have hfin := hend _ k1
    have hB4 := (But.of (p := p) hB3).trans (k4.mono hB3.size)
    have hB5 := hB4.setCell (r := ⟨p, 256, none⟩) (Or.inl rfl) (.int .u64 (max low to))
    clear hE he hend
    by_cases hm : low < to
    · have em : max low to = to := by omega
      rw [em] at hfin hB5
      go_wp2_with fail
      go_region
      go_wp2_with fail
      go_ret
      exact ⟨rfl, by first | exact hfin.drew | (rw [em]; exact hfin.drew), hB5.drew⟩
    · have em : max low to = low := by omega
      rw [em] at hfin hB5
      go_wp2_with fail
      go_region
      go_wp2_with fail
      go_ret
      exact ⟨rfl, by first | exact hfin.drew | (rw [em]; exact hfin.drew), hB5.drew⟩
end Go.Proofs.Ytlbeincgknmijaa
