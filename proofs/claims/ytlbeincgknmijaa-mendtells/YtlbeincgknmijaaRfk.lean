/-
  The reference's shelf: Reach, Trim.
-/
import Derived.Test.YtlbeincgknmijaaRfj
namespace Go.Proofs.Ytlbeincgknmijaa
open Go.RowKit

theorem rreach_any (B q : Nat) (und : Int) (L : List Pl) (hL : L.length ≤ 1000) (hN : Nm L) (u0 : 0 ≤ und) (u1 : und ≤ 1000000) (w : World) (hR : Rf B q und L w) :
    Calls Try.prog 47 #[.pointer (some ⟨q, 0, none⟩)] w fun e w' => e = .returned (.int .u64 (reachM (haveL und L) 0)) ∧ Below w.heap.size w w' := by
  have hh := fhave_any B q und L hL hN u0 u1 w hR
  have hl := (haveL_ok u0 u1 hN).2.1
  go_enter Try.func47, Try.ntmps47
  go_wp2_with fail
  refine hh.mono ?_
  rintro e w2 ⟨⟨v, rfl, hv⟩, hb2⟩
  go_wp2_with fail
  refine (freach_any v _ 0 w2 hv (by omega) (by decide) (by decide)).mono ?_
  rintro e w3 ⟨rfl, hb3⟩
  go_wp2_with fail
  go_ret
  exact ⟨rfl, hb2.trans (hb3.mono hb2.size)⟩

section
variable {B q : Nat} {und : Int} {L : List Pl} {w : World}
theorem Rf.under (h : Rf B q und L w) (up : Int) : Rf B q up L (w.setCell ⟨q, 1, none⟩ (.int .u64 up)) := by
  obtain ⟨v, h1, h2⟩ := h.is
  refine ⟨h.lt_, v, by simp [World.setCell, Array.getElem?_modify, h1], h2.keep fun b hb _ => Below.heap_setCell _ _ _ _ ?_⟩
  have := (h2.lt b hb).1
  have := h.lt_
  simp
  omega
theorem Rf.row (h : Rf B q und L w) {C : Nat} {v : Value} {M : List Pl} (hv : OwE EI 67 C v M w) (hC : B ≤ C) : Rf B q und M (w.setCell ⟨q, 0, none⟩ v) := by
  obtain ⟨v0, h1, _⟩ := h.is
  refine ⟨h.lt_, v, by simp [World.setCell, Array.getElem?_modify, h1], (hv.mono hC).keep fun b hb _ => Below.heap_setCell _ _ _ _ ?_⟩
  have := (hv.lt b hb).1
  have := h.lt_
  simp
  omega
end
def trimL (L : List Pl) (up : Int) : List Pl := L.filter fun x => decide (up < x.n)
theorem trimL_take {L : List Pl} {up : Int} {k : Nat} (h : k < L.length) : trimL (L.take (k + 1)) up = if up < L[k].n then trimL (L.take k) up ++ [L[k]] else trimL (L.take k) up := by
  unfold trimL
  rw [List.take_add_one, List.getElem?_eq_getElem h, Option.toList_some, List.filter_append]
  by_cases a : up < L[k].n
  · rw [if_pos a]; simp [a]
  · rw [if_neg a]; simp [a]
theorem trimL_len (L : List Pl) (up : Int) : (trimL L up).length ≤ L.length := List.length_filter_le _ _

set_option maxRecDepth 100000 in
set_option maxHeartbeats 4000000 in
theorem ftrim_no (B q : Nat) (und : Int) (L : List Pl) (up : Int) (hL : L.length ≤ 1000) (hN : Nm L) (u0 : 0 ≤ und) (u1 : und ≤ 1000000) (w : World) (hR : Rf B q und L w) (ht : reachM (haveL und L) 0 < up ∨ up ≤ und) :
    Calls Try.prog 29 #[.pointer (some ⟨q, 0, none⟩), .int .u64 up] w fun e w' => e = .returned (.int .i64 (if reachM (haveL und L) 0 < up then 1 else 0)) ∧ Below w.heap.size w w' := by
  have hr := rreach_any B q und L hL hN u0 u1 w hR
  generalize reachM (haveL und L) 0 = r at *
  by_cases h1 : r < up
  · rw [if_pos h1]
    have z1 : decide (r < up) = true := decide_eq_true h1
    go_enter Try.func29, Try.ntmps29
    go_wp2_with fail
    refine hr.mono ?_
    rintro e w2 ⟨rfl, hb2⟩
    go_wp2_with fail
    go_ret
    exact ⟨rfl, hb2⟩
  · rw [if_neg h1]
    have z1 : decide (r < up) = false := decide_eq_false h1
    have z2 : decide (up ≤ und) = true := decide_eq_true (by omega)
    go_enter Try.func29, Try.ntmps29
    go_wp2_with fail
    refine hr.mono ?_
    rintro e w2 ⟨rfl, hb2⟩
    obtain ⟨a, cap, c0, c1, hfz, hcap, hcm, hsh, hOI, hcell⟩ := (hR.below hb2).cells
    go_wp2_with fail
    go_ret
    exact ⟨rfl, hb2⟩

set_option maxRecDepth 100000 in
set_option maxHeartbeats 4000000 in
theorem ftrim_yes (B q : Nat) (und : Int) (L : List Pl) (up : Int) (hL : L.length ≤ 1000) (hN : Nm L) (u0 : 0 ≤ und) (u1 : und ≤ 1000000) (w : World) (hB : B ≤ w.heap.size) (hR : Rf B q und L w) (ht : up ≤ reachM (haveL und L) 0) (hu : und < up) :
    Calls Try.prog 29 #[.pointer (some ⟨q, 0, none⟩), .int .u64 up] w fun e w' => e = .returned (.int .i64 0) ∧ Rf B q up (trimL L up) w' ∧ But B q w w' := by
  have hr := rreach_any B q und L hL hN u0 u1 w hR
  generalize reachM (haveL und L) 0 = r at *
  have z1 : decide (r < up) = false := decide_eq_false (by omega)
  have z2 : decide (up ≤ und) = false := decide_eq_false (by omega)
  have hlen : (L.length : Int) ≤ 1000 := by omega
  obtain ⟨M, HM⟩ : ∃ M, Hid (trimL L up = M) := ⟨_, rfl⟩
  rw [HM.out]
  go_enter Try.func29, Try.ntmps29
  go_wp2_with fail
  refine hr.mono ?_
  rintro e w2 ⟨rfl, hb2⟩
  have hR2 := hR.below hb2
  have bb2 := But.of (p := q) (hb2.mono hB)
  have hB2 := Nat.le_trans hB hb2.size
  obtain ⟨a, cap, c0, c1, hfz, hcap, hcm, hsh, hOI, hcell⟩ := hR2.cells
  have y1 := hfz 1
  have hR3 := hR2.under up
  have bb3 := bb2.setCell (r := ⟨q, 1, none⟩) (Or.inl rfl) (.int .u64 up)
  have hB3 : B ≤ (w2.setCell ⟨q, 1, none⟩ (.int .u64 up)).heap.size := by simpa [World.setCell] using hB2
  obtain ⟨w3, hw3⟩ : ∃ w3, Hid (w3 = w2.setCell ⟨q, 1, none⟩ (.int .u64 up)) := ⟨_, rfl⟩
  have b4 := below_alloc w3 (.cells #[] 67)
  have hO4 : OwE EI 67 w3.heap.size (.slice (some ⟨w3.heap.size, 0, none⟩) 0 0) [] (w3.alloc (.cells #[] 67)) := World.ownsRow_made w3 #[] 0 (Nat.le_refl _) (Nat.zero_le _) rfl
  rw [← hw3.out] at hR3 bb3 hB3
  clear hfz hcap hcm hsh hOI hcell hR hr hR2 bb2
  go_upto_region 6 with fail
  rw [← hw3.out]
  go_wp2_with fail
  go_loopg [5, 6] L.length (fun gk t5 t6 wr => ∃ k : Nat, k + gk = L.length ∧ t6 = .int .i64 k ∧ OwE EI 67 w3.heap.size t5 (trimL (L.take k) up) wr ∧ Below w3.heap.size w3 wr)
  case atStart => exact ⟨0, by omega, rfl, hO4, b4⟩
  case round =>
    obtain ⟨k, hk, rfl, hO, hBr⟩ := hrel
    have k0 : (0 : Int) ≤ k := by omega
    have hRk := hR3.below hBr
    obtain ⟨a, cap, c0, c1, hfz, hcap, hcm, hsh, hOI, hcell⟩ := hRk.cells
    by_cases hlt : (k : Int) < L.length
    · have hkl : k < L.length := by omega
      obtain ⟨gb, rfl, d0, d1, d2, d3⟩ := hcell k hkl
      have hst := trimL_take (up := up) hkl
      have hl := trimL_len (L.take k) up
      rw [List.length_take] at hl
      clear hfz hsh hOI hcell
      generalize L[k] = x at *
      by_cases hx : up < x.n
      · rw [if_pos hx] at hst
        have hst : Hid (trimL (L.take (k + 1)) up = trimL (L.take k) up ++ [x]) := hst
        have z3 : decide (up < x.n) = true := decide_eq_true hx
        have b5 := below_alloc wr (.cells #[.int .u64 x.n, .int .i64 x.g.s, .int .u64 x.g.m, .string x.g.x] 67)
        have hO5 := hO.below b5
        have hY : RdE EI (.slice (some ⟨wr.heap.size, 0, none⟩) 1 1) [x] (wr.alloc (.cells #[.int .u64 x.n, .int .i64 x.g.s, .int .u64 x.g.m, .string x.g.x] 67)) := RdE.one (heap_alloc_new wr _)
        have hz5 := Nat.le_trans hBr.size b5.size
        have hB5 := hBr.trans (b5.mono hBr.size)
        clear hx
        go_wp2_with (at_builtin; refine wpList_appE Try.undI Try.infoI (by decide) (by decide) _ rfl (.tmp 41) (.tmp 49) rfl w3.heap.size _ (trimL (L.take k) up) rfl hO5 hz5 wr.heap.size 0 1 [x] 1 rfl rfl hY (by simp; omega) ?_; intro v7 w7 hO7 hg7 hn7)
        have hB7 : Below w3.heap.size w3 w7 := hB5.trans ⟨hg7.os, hg7.tape, hg7.output, hg7.size, fun j hj => hg7.block j (by omega) (fun e => by have := (hO5.lt j e.symm).1; omega)⟩
        clear hg7 hn7 hO5 hY
        go_roundg (gk - 1)
        case rel => exact ⟨k + 1, by omega, by go_num, by rw [hst.out]; exact hO7, hB7⟩
        case measure => omega
      · rw [if_neg hx] at hst
        have hst : Hid (trimL (L.take (k + 1)) up = trimL (L.take k) up) := hst
        have z3 : decide (up < x.n) = false := decide_eq_false hx
        clear hx
        go_wp2_with fail
        go_roundg (gk - 1)
        case rel => exact ⟨k + 1, by omega, by go_num, by rw [hst.out]; exact hO, hBr⟩
        case measure => omega
    · obtain rfl : k = L.length := by omega
      rw [List.take_length, HM.out] at hO
      obtain ⟨a5, c5, rfl, _, _⟩ := hO.len
      have y0 := hfz 0
      have hfin := hRk.row hO hB3
      have bfin := (bb3.trans (But.of (p := q) (hBr.mono hB3))).setCell (r := ⟨q, 0, none⟩) (Or.inl rfl) (.slice a5 M.length c5)
      clear hfz hcap hcm hsh hOI hcell
      go_wp2_with fail
      go_ret
      exact ⟨rfl, hfin, bfin⟩
end Go.Proofs.Ytlbeincgknmijaa
