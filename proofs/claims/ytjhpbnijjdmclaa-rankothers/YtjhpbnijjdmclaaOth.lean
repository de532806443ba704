/-
  The walk of RankOthers.
-/
import Derived.Test.YtjhpbnijjdmclaaRfu
import Derived.OpenShut
namespace Go.Proofs.Ytjhpbnijjdmclaa
open Go.RowKit

theorem refS_not {me inc n i s : Int} (h : denS me inc n i s = false) : refS me inc n i s = .tuple #[.int .u64 inc, .bool false, .int .i64 0] := by
  unfold refS; rw [h]; rfl
theorem refS_form (me inc n i s : Int) : ∃ x y z, refS me inc n i s = .tuple #[.int .u64 x, .bool y, .int .i64 z] := by
  unfold refS; split
  · split
    · exact ⟨_, _, _, rfl⟩
    · exact ⟨_, _, _, rfl⟩
  · exact ⟨_, _, _, rfl⟩

set_option maxRecDepth 100000 in
set_option maxHeartbeats 1000000 in
theorem others_core (me inc n i s : Int) (h0 : (Lit.int .u8 me).wf = true) (h1 : (Lit.int .u64 inc).wf = true) (h2 : (Lit.int .u64 i).wf = true) (w : World) :
    Calls Try.prog 8 #[.int .u8 me, .int .u64 inc, .agg #[.int .i64 n, .int .u64 i, .int .i64 s]] w fun e w' => e = .returned (.bool true) ∧ Below w.heap.size w w' := by
  have k0 := bounds_u8 h0
  have k1 := bounds_u64 h1
  have k2 := bounds_u64 h2
  go_enter Try.func8, Try.ntmps8
  go_wp2_with fail
  have hB := Bx.new 24 n i s w
  have b1 : Below w.heap.size w (w.alloc (.cells #[.int .i64 n, .int .u64 i, .int .i64 s] 24)) := (Below.refl _ _).alloc (Nat.le_refl _) _
  generalize w.alloc _ = w1 at *
  refine (refute_any _ _ _ _ _ k2.1 k2.2 _).mono ?_
  obtain ⟨x, y, z, hr⟩ := refS_form (me % 64) inc n i s
  have hnot : Hid (denS (me % 64) inc n i s = false → x = inc ∧ y = false ∧ z = 0) := by
    intro hd
    have := refS_not hd
    rw [hr] at this
    simpa using this
  rw [hr]
  clear hr
  rintro e w2 ⟨rfl, hb2⟩
  have hB := hB.below hb2
  have b2 := b1.trans (hb2.mono b1.size)
  clear b1 hb2
  have c0 := hB.c0
  have c1 := hB.c1
  have c2 := hB.c2
  cases hn : (n != me % 64)
  case true =>
    obtain ⟨rfl, rfl, rfl⟩ := hnot.out (by have : (n == me % 64) = false := by simpa using hn
                                           simp [denS, this])
    go_wp2_with (go_at_call 9; refine (shown_any _).mono ?_; rintro e w3 ⟨rfl, hb3⟩)
    go_ret
    exact ⟨rfl, b2.trans (hb3.mono b2.size)⟩
  case false =>
    go_wp2_with fail
    refine (fmay_any _ _ _ _).mono ?_
    cases hm : mayS n s
    case false =>
      obtain ⟨rfl, rfl, rfl⟩ := hnot.out (by simp [denS, hm])
      rintro e w4 ⟨rfl, hb4⟩
      have b4 := b2.trans (hb4.mono b2.size)
      go_wp2_with (go_at_call 9; refine (shown_any _).mono ?_; rintro e w3 ⟨rfl, hb3⟩)
      go_ret
      exact ⟨rfl, b4.trans (hb3.mono b4.size)⟩
    case true =>
      rintro e w4 ⟨rfl, hb4⟩
      have hB := hB.below hb4
      have b4 := b2.trans (hb4.mono b2.size)
      clear b2 hb4 c0 c1 c2
      have c0 := hB.c0
      have c1 := hB.c1
      have c2 := hB.c2
      by_cases hi : i < inc
      · obtain ⟨rfl, rfl, rfl⟩ := hnot.out (by have : newerS i s inc 0 = false := by simp [newerS]; omega
                                               simp [denS, this])
        go_wp2_with (go_at_call 9; refine (shown_any _).mono ?_; rintro e w3 ⟨rfl, hb3⟩)
        go_ret
        exact ⟨rfl, b4.trans (hb3.mono b4.size)⟩
      · clear hnot
        go_wp2_with fail
        refine (refute_any _ _ _ _ _ k1.1 k1.2 _).mono ?_
        rw [refS_not (by simp [denS, newerS])]
        rintro e w5 ⟨rfl, hb5⟩
        have b5 := b4.trans (hb5.mono b4.size)
        go_wp2_with (go_at_call 9; refine (shown_any _).mono ?_; rintro e w3 ⟨rfl, hb3⟩)
        go_ret
        exact ⟨rfl, b5.trans (hb3.mono b5.size)⟩
end Go.Proofs.Ytjhpbnijjdmclaa
