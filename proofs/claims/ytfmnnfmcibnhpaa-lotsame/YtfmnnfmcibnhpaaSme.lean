/-
  The walk of LotSame.
-/
import Derived.Test.YtfmnnfmcibnhpaaSom
import Derived.Test.YtfmnnfmcibnhpaaOpn
namespace Go.Proofs.Ytfmnnfmcibnhpaa
open Go.RowKit

theorem Rd.later {k : IntKind} {v : Value} {l : List Int} {w w' : World} (h : Rd k v l w) (hb : Below w.heap.size w w') : Rd k v l w' := h.below hb
/-- The number at place i. -/
theorem Rd.at {k : IntKind} {a : Option Addr} {len cap : Nat} {l : List Int} {w : World} (h : Rd k (.slice a len cap) l w) (i : Nat) (hi : i < l.length) : ∃ g off, a = some ⟨g, off, none⟩ ∧ w.cell? ⟨g, off + i, none⟩ = some (.int k l[i]) := by
  obtain ⟨a', cap', e, _, _, _, h3⟩ := h
  cases e
  rcases h3 with h3 | ⟨g, off, rfl, h3⟩
  · omega
  · exact ⟨g, off, rfl, h3 i hi⟩
theorem Rd.len {k : IntKind} {a : Option Addr} {len cap : Nat} {l : List Int} {w : World} (h : Rd k (.slice a len cap) l w) : len = l.length := by
  obtain ⟨a', cap', e, _⟩ := h
  cases e
  rfl
theorem headD_drop (l : List Int) (i : Nat) (hi : i < l.length) : (l.drop i).headD 0 = l[i] := by
  rw [List.drop_eq_getElem_cons hi]; rfl
theorem headD_end (l : List Int) (i : Nat) (hi : l.length ≤ i) : (l.drop i).headD 0 = 0 := by
  rw [List.drop_eq_nil_of_le hi]; rfl
theorem tail_drop' (l : List Int) (i : Nat) : (l.drop i).tail = l.drop (i + 1) := by simp

set_option maxHeartbeats 1000000 in
theorem same_walk (a : Option Addr) (len cap : Nat) (l : List Int) (n : Int) (wn : (Lit.int .u8 n).wf = true) (w : World) (h : Lots w a len cap l) :
    Calls Try.prog 7 #[.slice a len cap, .int .u8 n] w fun e w' => e = .returned (.bool true) ∧ Below w.heap.size w w' := by
  obtain ⟨n0, n1⟩ := bounds_u8 wn
  clear wn
  obtain ⟨hR, hok⟩ := h
  obtain rfl := hR.len
  obtain ⟨N, rfl⟩ : ∃ N : Nat, n = N := ⟨n.toNat, by omega⟩
  by_cases hl : (300 : Int) < l.length
  · go_enter Try.func7, Try.ntmps7
    go_wp2_with (go_at_call 9; refine (shown_any _).mono ?_; rintro e w1 ⟨rfl, hb1⟩)
    go_ret
    exact ⟨rfl, hb1⟩
  · go_enter Try.func7, Try.ntmps7
    go_wp2_with fail
    refine (shown_any _).mono ?_
    rintro e w1 ⟨rfl, hb1⟩
    go_wp2_with fail
    refine (new_any _ l _ (by omega) (hR.below hb1)).mono ?_
    rintro e w2 ⟨⟨p, rfl, hL2⟩, hb2⟩
    have z1 := hb1.size
    have z2 := hb2.size
    have b2 : Below w.heap.size w w2 := hb1.trans (hb2.mono z1)
    go_wp2_with fail
    refine (new_any _ l _ (by omega) (hR.below b2)).mono ?_
    rintro e w3 ⟨⟨q, rfl, hL3⟩, hb3⟩
    have z3 := hb3.size
    have b3 : Below w.heap.size w w3 := b2.trans (hb3.mono (by omega))
    have hP := hL2.below hb3
    have hpz := hL2.lt
    have hp1 := hL2.le
    have hq1 := hL3.le
    clear hL2 hb1 hb2 hb3 b2
    go_wp2_with fail
    go_loopg [7] N (fun gk t7 wr => ∃ i : Nat, i + gk = N ∧ t7 = .int .i64 i ∧ Lt w1.heap.size p (l.drop i) wr ∧ Lt w2.heap.size q l wr ∧ Below w.heap.size w wr ∧ w3.heap.size ≤ wr.heap.size)
    case atStart => exact ⟨0, by omega, rfl, hP, hL3, b3, Nat.le_refl _⟩
    case round =>
      clear hP hL3 b3
      obtain ⟨i, hi, rfl, hP, hQ, hB, hZ⟩ := hrel
      by_cases hlt : (i : Int) < N
      · go_wp2_with fail
        refine (next_any _ p _ _ hP).mono ?_
        rw [tail_drop']
        rintro e w4 ⟨rfl, hP4, hb4⟩
        go_wp2_with fail
        go_roundg (gk - 1)
        case rel => exact ⟨i + 1, by omega, by go_num, hP4, hQ.but hb4 (by omega), hB.trans (hb4.belowAt (by omega) hB.size), by have := hb4.size; omega⟩
        case measure => omega
      · obtain rfl : i = N := by omega
        go_wp2_with fail
        go_loopg [8] i (fun gk t8 wr => ∃ j : Nat, j + gk = i ∧ t8 = .int .i64 j ∧ Lt w1.heap.size p (l.drop i) wr ∧ Lt w2.heap.size q (l.drop j) wr ∧ Below w.heap.size w wr ∧ w3.heap.size ≤ wr.heap.size)
        case atStart => exact ⟨0, by omega, rfl, hP, hQ, hB, hZ⟩
        case round =>
          clear hP hQ hB hZ
          obtain ⟨j, hj, rfl, hP, hQ, hB, hZ⟩ := hrel
          by_cases hjt : (j : Int) < i
          · go_wp2_with fail
            refine (next_any _ q _ _ hQ).mono ?_
            rw [tail_drop']
            rintro e w5 ⟨rfl, hQ5, hb5⟩
            have hB5 : Below w.heap.size w w5 := hB.trans (hb5.belowAt (by omega) hB.size)
            have hP5 := hP.but hb5 (by omega)
            have hZ5 := hb5.size
            by_cases hjl : (j : Int) < l.length
            · have hjn : j < l.length := by omega
              obtain ⟨g, off, rfl, hc⟩ := (hR.below hB5).at j hjn
              rw [headD_drop l j hjn]
              generalize l[j] = x at hc
              have j0 : (0 : Int) ≤ j := by omega
              go_wp2_with fail
              go_roundg (i - j - 1)
              case rel => exact ⟨j + 1, by omega, by go_num, hP5, hQ5, hB5, by omega⟩
              case measure => omega
            · rw [headD_end l j (by omega)]
              go_wp2_with fail
              go_roundg (i - j - 1)
              case rel => exact ⟨j + 1, by omega, by go_num, hP5, hQ5, hB5, by omega⟩
              case measure => omega
          · obtain rfl : j = i := by omega
            obtain ⟨D, hD⟩ : ∃ D : Nat, (l.drop j).length = D := ⟨_, rfl⟩
            have hD' := hD
            rw [List.length_drop] at hD'
            have HD : Hid _ := hD
            clear hD
            by_cases hlj : (0 : Int) ≤ (l.length : Int) - j
            · have hs : (l.length : Int) - j = D := by omega
              clear hD'
              go_wp2_with fail
              refine (left_any _ p _ _ hP).mono ?_
              rw [HD.out]
              rintro e w' ⟨rfl, rfl⟩
              go_wp2_with fail
              refine (left_any _ q _ _ hQ).mono ?_
              rw [HD.out]
              rintro e w' ⟨rfl, rfl⟩
              go_wp2_with fail
              refine (left_any _ p _ _ hP).mono ?_
              rw [HD.out]
              rintro e w' ⟨rfl, rfl⟩
              go_wp2_with fail
              go_ret
              exact ⟨rfl, hB⟩
            · obtain rfl : D = 0 := by omega
              clear hD'
              go_wp2_with fail
              refine (left_any _ p _ _ hP).mono ?_
              rw [HD.out]
              rintro e w' ⟨rfl, rfl⟩
              go_wp2_with fail
              refine (left_any _ q _ _ hQ).mono ?_
              rw [HD.out]
              rintro e w' ⟨rfl, rfl⟩
              go_wp2_with fail
              refine (left_any _ p _ _ hP).mono ?_
              rw [HD.out]
              rintro e w' ⟨rfl, rfl⟩
              go_wp2_with fail
              go_ret
              exact ⟨rfl, hB⟩
end Go.Proofs.Ytfmnnfmcibnhpaa
