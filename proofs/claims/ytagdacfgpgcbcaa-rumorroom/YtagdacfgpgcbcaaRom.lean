/-
  RumorRoom.
-/
import Derived.Test.YtagdacfgpgcbcaaNew
namespace Go.Proofs.Ytagdacfgpgcbcaa
open Go.RowKit Go.Maps

def rowQ (n : Nat) : List Itm := (List.range n).map fun j : Nat => ((j : Int), 1, 0, 0)
theorem room_put : ∀ i, i < 32 → putE (rowQ i) ((i : Int), 1, 0) = 0 ∧ putQ (rowQ i) ((i : Int), 1, 0) = rowQ (i + 1) := by decide +kernel
theorem rowQ_length (n : Nat) : (rowQ n).length = n := by simp [rowQ]
def goneS (k : Int) : Int := if k = 0 then 40 else k - 1
theorem room_gone : ∀ k, k < 33 → putE (takeQ (rowQ 32) (k : Nat) 21) (40, 1, 0) = 0 ∧ (putQ (takeQ (rowQ 32) (k : Nat) 21) (40, 1, 0)).length = 32 ∧ (putQ (takeQ (rowQ 32) (k : Nat) 21) (40, 1, 0)).all (fun x => !(x.1 == goneS k)) = true := by decide +kernel

set_option maxHeartbeats 2000000 in
set_option maxRecDepth 100000 in
theorem room_core (takes : Int) (h0 : 0 ≤ takes) (h1 : takes ≤ 255) (w : World) :
    Calls Try.prog 6 #[.int .u8 takes] w fun e w' => e = .returned (.bool true) ∧ Below w.heap.size w w' := by
  have hQ := Qu.new w
  have ba := below_alloc w (.cells #[.map none] 27)
  obtain ⟨w0, HW0⟩ : ∃ w0, Hid (w0 = w.alloc (.cells #[.map none] 27)) := ⟨_, rfl⟩
  rw [← HW0.out] at hQ ba
  obtain ⟨k, hk, hk1⟩ : ∃ k : Nat, takes % 33 = k ∧ k < 33 := ⟨(takes % 33).toNat, by omega, by omega⟩
  obtain ⟨e1, e2, e3⟩ := room_gone k hk1
  have hk2 : (k : Int) < 33 := by omega
  have hk3 : (0 : Int) ≤ k := by omega
  go_enter Try.func6, Try.ntmps6
  go_upto_region 2 with fail
  rw [← HW0.out]
  go_wp2_with fail
  go_loopg [4] 32 (fun gk t4 wr => ∃ (i : Nat) (m : Option Nat), i + gk = 32 ∧ t4 = .int .i64 i ∧ Qu w.heap.size m (rowQ i) wr ∧ Mv w.heap.size none m w0 wr)
  case atStart => exact ⟨0, none, by omega, rfl, hQ, Mv.refl _ _ _⟩
  case round =>
    obtain ⟨i, m, hi, rfl, hQi, hmv⟩ := hrel
    by_cases hlt : (i : Int) < 32
    · have hput := put_any w.heap.size m (rowQ i) (by rw [rowQ_length]; omega) i 1 0 (by omega) wr hQi
      obtain ⟨p1, p2⟩ := room_put i (by omega)
      rw [p1, p2] at hput
      clear p1 p2 e1 e2 e3
      go_wp2_with fail
      refine hput.mono ?_
      rintro e w1 ⟨rfl, m1, hQ1, hmv1⟩
      have hmv2 := hmv.trans hmv1
      clear hput hQi hmv hmv1
      go_wp2_with fail
      go_roundg (gk - 1)
      case rel => exact ⟨i + 1, m1, by omega, by go_num, hQ1, hmv2⟩
      case measure => omega
    · obtain rfl : i = 32 := by omega
      have htk := take_any w.heap.size m (rowQ 32) (by rw [rowQ_length]; omega) k 64 (by decide) wr hQi
      rw [cap64] at htk
      have hlen : (takeQ (rowQ 32) k 21).length ≤ 32 := Nat.le_trans (takeQ_length hQi.qi _ (by decide)) (by rw [rowQ_length]; omega)
      have hput := fun w m hQ => put_any w.heap.size m (takeQ (rowQ 32) k 21) hlen 40 1 0 (by decide) w hQ
      have HG : Hid (List.all (putQ (takeQ (rowQ 32) k 21) (40, 1, 0)) (fun x => !(x.1 == goneS k)) = true) := e3
      have HL : Hid ((putQ (takeQ (rowQ 32) k 21) (40, 1, 0)).length = 32) := e2
      have hput := fun (p : Nat) (m : Option Nat) (w : World) (hQ : Qu p m (takeQ (rowQ 32) k 21) w) => put_any p m (takeQ (rowQ 32) k 21) hlen 40 1 0 (by decide) w hQ
      rw [e1] at hput
      clear e1 e2 e3 hlen
      generalize putQ (takeQ (rowQ 32) k 21) (40, 1, 0) = R at *
      generalize takeQ (rowQ 32) k 21 = T at *
      go_wp2_with fail
      refine htk.mono ?_
      rintro e w1 ⟨⟨v, rfl, _⟩, hQ1, hmv1⟩
      have hmv2 := hmv.trans hmv1
      clear htk hmv hmv1 hQi
      have hput := hput _ _ _ hQ1
      go_wp2_with fail
      refine hput.mono ?_
      rintro e w2 ⟨rfl, m2, hQ2, hmv3⟩
      have hmv4 := hmv2.trans hmv3
      clear hput hmv2 hmv3 hQ1
      have hit := items_any w.heap.size m2 R (by rw [HL.out]; omega) w2 hQ2
      go_wp2_with fail
      refine hit.mono ?_
      rintro e w3 ⟨⟨v, rfl, hR, _⟩, hb3⟩
      have hmv5 := hmv4.be hb3
      clear hit hmv4 hb3 hQ2
      obtain ⟨a, cap, rfl, h3, h4, h5⟩ := id hR
      rw [HL.out]
      rw [HL.out] at h3
      clear h5
      go_wp2_with fail
      refine (shown_any _).mono ?_
      rintro e w4 ⟨rfl, hb4⟩
      have hmv6 := hmv5.be hb4
      have hR4 := hR.below hb4
      have hB6 : Below w.heap.size w w4 := ba.trans (hmv6.to ba.size (Nat.le_refl _) (fun b hb => by cases hb))
      clear hR hmv5 hmv6 hb4
      obtain ⟨gn, HGN⟩ : ∃ gn, Hid (goneS k = gn) := ⟨_, rfl⟩
      have hall : ∀ j (hj : j < R.length), (R[j].1 == gn) = false := fun j hj => by
        have := List.all_eq_true.1 HG.out _ (List.getElem_mem hj)
        rw [HGN.out] at this
        simpa using this
      obtain ⟨_, _, e', _, _, h5⟩ := hR4
      cases e'
      obtain ⟨g, off, rfl, h6⟩ : ∃ g off, a = some ⟨g, off, none⟩ ∧ ∀ j (hj : j < R.length), w4.cell? ⟨g, off + j * 4, none⟩ = some (.int .i64 R[j].1) := by
        rcases h5 with h5 | ⟨g, off, rfl, h5⟩
        · have := HL.out; omega
        · exact ⟨g, off, rfl, fun j hj => (h5 j hj).1⟩
      have hlen := HL.out
      have HL2 : Hid (R.length = 32) := hlen
      clear hlen
      cases hk0 : ((k : Int) == 0)
      all_goals
        have hgn : Hid (gn = if ((k : Int) == 0) = true then 40 else (k : Int) - 1) := by rw [← HGN.out]; unfold goneS; simp only [beq_iff_eq]; exact trivial
        rw [hk0] at hgn
        simp only [Bool.false_eq_true, if_false, if_true] at hgn
        have HK0 := hk0
        go_wp2_with fail
        rw [← hgn.out]
        go_loopg [9] 32 (fun gk t9 wr => ∃ j : Nat, j + gk = 32 ∧ t9 = .int .i64 j ∧ wr = w4)
        case atStart => exact ⟨0, by omega, rfl, rfl⟩
        case round =>
          obtain ⟨j, hj, rfl, rfl⟩ := hrel
          by_cases hlt : (j : Int) < 32
          · have hj2 : j < R.length := by rw [HL2.out]; omega
            have c0 := h6 j hj2
            have c1 := hall j hj2
            have j0 : (0 : Int) ≤ j := by omega
            generalize R[j] = x at *
            go_wp2_with fail
            go_roundg (gk - 1)
            case rel => exact ⟨j + 1, by omega, by go_num, rfl⟩
            case measure => omega
          · go_wp2_with fail
            go_ret
            exact ⟨rfl, hB6⟩

theorem room_walk (takes : Int) (h : (Lit.int .u8 takes).wf = true) (w : World) :
    Calls Try.prog 6 #[.int .u8 takes] w fun e w' => e = .returned (.bool true) ∧ Below w.heap.size w w' := room_core takes (u8_of h).1 (u8_of h).2 w
end Go.Proofs.Ytagdacfgpgcbcaa
