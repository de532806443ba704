/-
  The walk of OctetWrites.
-/
import Derived.Test.YtglpdchdkabajaaRef
import Derived.Test.YtglpdchdkabajaaOpn
import Derived.Deep.RegionWith
import Derived.BigRegion
namespace Go.Proofs.Ytglpdchdkabajaa
open Go.RowKit

/-- An item's cells, in a later world. -/
structure ItmAt (w : World) (b o : Nat) (I : Itm) : Prop where
  c0 : w.cell? ⟨b, o, none⟩ = some (.int .i64 I.kind)
  c1 : w.cell? ⟨b, o + 1, none⟩ = some (.int .i64 I.width)
  c2 : w.cell? ⟨b, o + 2, none⟩ = some (.int .i64 I.most)
  c3 : w.cell? ⟨b, o + 3, none⟩ = some (.int .u64 I.n)
  c4 : w.cell? ⟨b, o + 4, none⟩ = some (.float .f64 I.x)
  c5 : w.cell? ⟨b, o + 5, none⟩ = some (.string I.s)

theorem ItmAt.below {w w' : World} {b o : Nat} {I : Itm} {B : Nat} (h : ItmAt w b o I) (hb : Below B w w') (hB : b < B) : ItmAt w' b o I :=
  ⟨(hb.cell (p := ⟨b, o, none⟩) hB).trans h.c0, (hb.cell (p := ⟨b, o + 1, none⟩) hB).trans h.c1, (hb.cell (p := ⟨b, o + 2, none⟩) hB).trans h.c2, (hb.cell (p := ⟨b, o + 3, none⟩) hB).trans h.c3, (hb.cell (p := ⟨b, o + 4, none⟩) hB).trans h.c4, (hb.cell (p := ⟨b, o + 5, none⟩) hB).trans h.c5⟩

set_option maxRecDepth 100000 in
set_option maxHeartbeats 2000000 in
theorem writes_core (b off len cap : Nat) (I : Nat → Itm) (w : World) (hlen : len ≤ 60) (hb : b < w.heap.size) (hok : Hid (∀ i, i < len → ItmOk (I i))) (hat : Hid (∀ i, i < len → ItmAt w b (off + i * 6) (I i))) :
    Calls Try.prog 3 #[.slice (some ⟨b, off, none⟩) len cap] w fun e w' => e = .returned (.bool true) ∧ Below w.heap.size w w' := by
  go_enter Try.func3, Try.ntmps3
  go_wp2_with (go_at_call 9; refine (shown_any _).mono ?_; rintro e w1 ⟨rfl, hB1⟩)
  have hz1 := hB1.size
  go_loopg [4, 5] len (fun gk all i wr => ∃ k : Nat, k + gk = len ∧ i = .int .i64 k ∧ ∃ l v, all = .string (strOfNums l) ∧ W27 (w1.heap.size + 1) w1.heap.size v l wr ∧ l.length ≤ 400 * k ∧ Below w.heap.size w wr)
  case atStart => exact ⟨0, by omega, rfl, [], .slice none 0 0, rfl, Wr.new 27 5 w1, by simp, hB1.alloc hz1 _⟩
  case round =>
    obtain ⟨k, hk, rfl, l, v, rfl, hW, hl, hB⟩ := hrel
    by_cases hlt : k < len
    · have hI := (hat.out k hlt).below hB hb
      have hO := hok.out k hlt
      generalize I k = J at hI hO
      have c0 := hI.c0
      have c1 := hI.c1
      have c2 := hI.c2
      have c3 := hI.c3
      have c4 := hI.c4
      have c5 := hI.c5
      have hAs : (strOfNums l).size ≤ 24000 := by rw [strOfNums_size]; omega
      have hla : l.length ≤ 1000000000 := by omega
      have HBy : Hid (∀ w' v' l', Wr 27 5 (w1.heap.size + 1) w1.heap.size v' (l ++ l') w' → Calls Try.prog 16 #[.pointer (some ⟨w1.heap.size, 0, none⟩)] w' fun e w'' => e = .returned (.string (strOfNums l ++ strOfNums l')) ∧ w'' = w') := fun w' v' l' h => by
        have := bytes_any _ _ _ _ _ h
        rwa [strOfNums_append] at this
      have HAp : Hid (∀ l', strOfNums (l ++ l') = strOfNums l ++ strOfNums l') := strOfNums_append l
      generalize strOfNums l = A at hAs HBy HAp
      by_cases hS : 300 < J.s.size
      · go_wp2_with (go_at_call 9; refine (shown_any _).mono ?_; rintro e w2 ⟨rfl, hB2⟩)
        go_ret
        exact ⟨rfl, hB.trans (hB2.mono hB.size)⟩
      · by_cases hk0 : J.kind = 0
        · have hk0' : (J.kind == 0) = true := by simp [hk0]
          clear hk0 c2 c4
          obtain ⟨hn0, hn1⟩ := bounds_u64 hO.n
          have HN1 : Hid _ := hn1
          clear hn1
          have hwn := wnumS_cases J.n J.width
          generalize hWN : wnumS J.n J.width = WN at hwn
          obtain ⟨e1, l1⟩ := WN
          have HW : Hid (wnumS J.n J.width = (e1, l1)) := hWN
          clear hWN
          have hl1 : l1.length ≤ 8 := by rcases hwn with h | h; exact h.2.2; have h2 : l1 = [] := h.2; rw [h2]; decide
          have hBs : (strOfNums l1).size ≤ 8 := by rw [strOfNums_size]; exact hl1
          clear hwn
          go_wp2_with fail
          go_region_with (go_at_call 10; refine (wnum_all (w1.heap.size + 1) w1.heap.size v l J.n J.width _ hW.drew hla).mono ?_; rw [HW.out]; rintro e w2 ⟨rfl, ⟨v2, hW2⟩, hB2⟩)
          all_goals
            have hI2 := (hI.below (Below.refl w.heap.size wr).drew hb).below (hB2.belowAt (B' := w.heap.size) hz1 (by omega)) hb
            have d0 := hI2.c0
            have d1 := hI2.c1
            have d3 := hI2.c3
            clear c0 c1 c3 c5
            go_wp2_with fail
          all_goals
            go_region_with (go_at_call 11; refine (fnum_any J.n J.width _ hn0 HN1.out).mono ?_; rw [HW.out]; rintro e w3 ⟨rfl, hB3⟩)
          all_goals
            have hB3' : Below w2.heap.size w2 w3 := (Below.refl _ w2).drew.trans hB3
            have hW3 : Wr 27 5 (w1.heap.size + 1) w1.heap.size v2 (l ++ l1) w3 := hW2.keptBelow hB3'
            generalize hSB : strOfNums l1 = SB at hBs
            have HSB : Hid (strOfNums l1 = SB) := hSB
            clear hSB
            go_wp2_with (go_at_call 16; refine (HBy.out _ _ _ hW3).mono ?_; rintro e w4 ⟨rfl, rfl⟩; rw [HSB.out])
            go_roundg (gk - 1)
            case measure => omega
            case rel =>
              refine ⟨k + 1, by omega, by go_num, l ++ l1, v2, ?_, hW3, by rw [List.length_append]; omega, ?_⟩
              · rw [HAp.out, HSB.out]
              · exact (hB.drew.trans (hB2.belowAt hz1 (by omega))).trans (hB3'.mono (Nat.le_trans hB.size hB2.size))
        · have hk0' : (J.kind == 0) = false := by simp [hk0]
          clear hk0
          by_cases hk1 : J.kind = 1
          · have hk1' : (J.kind == 1) = true := by simp [hk1]
            clear hk1 c1 c2 c3
            have HX : Hid (J.x < 2 ^ 64) := by show J.x < 2 ^ 64; simpa [Lit.wf] using hO.x
            have hBs : (strOfNums (le 8 (bitsOf J.x))).size ≤ 8 := by rw [strOfNums_size, le_length]; decide
            generalize hL1 : le 8 (bitsOf J.x) = l1 at hBs
            have HL1 : Hid (le 8 (bitsOf J.x) = l1) := hL1
            have hl1 : l1.length = 8 := by rw [← hL1, le_length]
            clear hL1
            go_wp2_with fail
            refine (wreal_any (w1.heap.size + 1) w1.heap.size v l J.x _ HX hW hla).mono ?_
            rw [HL1.out]
            rintro e w2 ⟨rfl, ⟨v2, hW2⟩, hB2⟩
            have hI2 := hI.below (hB2.belowAt (B' := w.heap.size) hz1 (by omega)) hb
            have d0 := hI2.c0
            have d4 := hI2.c4
            clear c0 c4 c5
            go_wp2_with fail
            refine (freal_any J.x _ HX).mono ?_
            rw [HL1.out]
            rintro e w3 ⟨rfl, hB3⟩
            have hW3 : Wr 27 5 (w1.heap.size + 1) w1.heap.size v2 (l ++ l1) w3 := hW2.keptBelow hB3
            generalize hSB : strOfNums l1 = SB at hBs
            have HSB : Hid (strOfNums l1 = SB) := hSB
            clear hSB
            go_wp2_with (go_at_call 16; refine (HBy.out _ _ _ hW3).mono ?_; rintro e w4 ⟨rfl, rfl⟩; rw [HSB.out])
            go_roundg (gk - 1)
            case measure => omega
            case rel =>
              refine ⟨k + 1, by omega, by go_num, l ++ l1, v2, ?_, hW3, by rw [List.length_append]; omega, ?_⟩
              · rw [HAp.out, HSB.out]
              · exact (hB.trans (hB2.belowAt hz1 (by omega))).trans (hB3.mono (Nat.le_trans hB.size hB2.size))
          · have hk1' : (J.kind == 1) = false := by simp [hk1]
            clear hk1
            by_cases hk2 : J.kind = 2
            · have hk2' : (J.kind == 2) = true := by simp [hk2]
              clear hk2 c1 c2 c3 c4
              have hBs : (strOfNums (le 2 J.s.size ++ ints J.s)).size ≤ 302 := by rw [strOfNums_size, List.length_append, le_length, ints_length]; omega
              generalize hL1 : le 2 J.s.size ++ ints J.s = l1 at hBs
              have HL1 : Hid (le 2 J.s.size ++ ints J.s = l1) := hL1
              have hl1 : l1.length ≤ 302 := by rw [← hL1, List.length_append, le_length, ints_length]; omega
              clear hL1
              go_wp2_with fail
              refine (wtext_any (w1.heap.size + 1) w1.heap.size v l J.s _ (by omega) hW hla).mono ?_
              rw [HL1.out]
              rintro e w2 ⟨rfl, ⟨v2, hW2⟩, hB2⟩
              have hI2 := hI.below (hB2.belowAt (B' := w.heap.size) hz1 (by omega)) hb
              have d0 := hI2.c0
              have d5 := hI2.c5
              clear c0 c5
              go_wp2_with fail
              refine (ftext_any J.s _ (by omega)).mono ?_
              rw [HL1.out]
              rintro e w3 ⟨rfl, hB3⟩
              have hW3 : Wr 27 5 (w1.heap.size + 1) w1.heap.size v2 (l ++ l1) w3 := hW2.keptBelow hB3
              generalize hSB : strOfNums l1 = SB at hBs
              have HSB : Hid (strOfNums l1 = SB) := hSB
              clear hSB
              go_wp2_with (go_at_call 16; refine (HBy.out _ _ _ hW3).mono ?_; rintro e w4 ⟨rfl, rfl⟩; rw [HSB.out])
              go_roundg (gk - 1)
              case measure => omega
              case rel =>
                refine ⟨k + 1, by omega, by go_num, l ++ l1, v2, ?_, hW3, by rw [List.length_append]; omega, ?_⟩
                · rw [HAp.out, HSB.out]
                · exact (hB.trans (hB2.belowAt hz1 (by omega))).trans (hB3.mono (Nat.le_trans hB.size hB2.size))
            · have hk2' : (J.kind == 2) = false := by simp [hk2]
              clear hk2 c1 c2 c3 c4
              have hW3 : Wr 27 5 (w1.heap.size + 1) w1.heap.size v (l ++ []) wr := by simpa using hW
              go_wp2_with (go_at_call 16; refine (HBy.out _ _ _ hW3).mono ?_; rintro e w4 ⟨rfl, rfl⟩; rw [show strOfNums [] = ⟨#[]⟩ from rfl])
              go_roundg (gk - 1)
              case measure => omega
              case rel =>
                refine ⟨k + 1, by omega, by go_num, l ++ [], v, ?_, hW3, by simp; omega, hB⟩
                rw [HAp.out]; rfl
    · go_wp2_with (go_at_call 16; refine (bytes_any _ _ _ _ _ hW).mono ?_; rintro e w4 ⟨rfl, rfl⟩)
      go_ret
      exact ⟨rfl, hB⟩

set_option maxHeartbeats 400000 in
theorem writes_long (a : Option Addr) (len cap : Nat) (w : World) (hlen : 60 < len) :
    Calls Try.prog 3 #[.slice a len cap] w fun e w' => e = .returned (.bool true) ∧ Below w.heap.size w w' := by
  go_enter Try.func3, Try.ntmps3
  go_wp2_with (go_at_call 9; refine (shown_any _).mono ?_; rintro e w1 ⟨rfl, hB1⟩)
  go_ret
  exact ⟨rfl, hB1⟩
set_option maxRecDepth 100000 in
set_option maxHeartbeats 1000000 in
theorem writes_none (a : Option Addr) (cap : Nat) (w : World) :
    Calls Try.prog 3 #[.slice a 0 cap] w fun e w' => e = .returned (.bool true) ∧ Below w.heap.size w w' := by
  go_enter Try.func3, Try.ntmps3
  go_wp2_with (go_at_call 9; refine (shown_any _).mono ?_; rintro e w1 ⟨rfl, hB1⟩)
  have hz1 := hB1.size
  refine wp_loop_rounds 1 ?_
  rw [rounds_succ]
  go_wp2_with (go_at_call 16; refine (bytes_any _ _ _ _ _ (Wr.new 27 5 w1)).mono ?_; rintro e w4 ⟨rfl, rfl⟩; rw [show strOfNums [] = ⟨#[]⟩ from rfl])
  go_ret
  exact ⟨rfl, hB1.alloc hz1 _⟩

theorem writes_walk (a : Option Addr) (len cap : Nat) (I : Nat → Itm) (w : World) (h : IsItems w a len cap I) :
    Calls Try.prog 3 #[.slice a len cap] w fun e w' => e = .returned (.bool true) ∧ Below w.heap.size w w' := by
  obtain ⟨_, _, h3, h4⟩ := h
  by_cases hl : 60 < len
  · exact writes_long a len cap w hl
  · rcases h4 with rfl | ⟨b, off, rfl, hb, hc⟩
    · exact writes_none a cap w
    · refine writes_core b off len cap I w (by omega) hb h3 (fun i hi => ?_)
      obtain ⟨c0, c1, c2, c3, c4, c5⟩ := hc i hi
      exact ⟨by simpa using c0, by simpa [Nat.add_assoc] using c1, by simpa [Nat.add_assoc] using c2, by simpa [Nat.add_assoc] using c3, by simpa [Nat.add_assoc] using c4, by simpa [Nat.add_assoc] using c5⟩
end Go.Proofs.Ytglpdchdkabajaa
