/-
  SpanMay, walked.
-/
import Derived.Test.YtipoppnoflhpiaaMad
import Derived.Test.YtipoppnoflhpiaaDmn
import Derived.Test.YtipoppnoflhpiaaDfi
namespace Go.Proofs.Ytipoppnoflhpiaa
open Go.RowKit

theorem may_two (p q : Sn) (h : 0 ≤ p.f) : mayS [p, q] = true ↔ p.f ≤ p.t ∧ q.f ≤ q.t ∧ q.t < 18446744073709551615 ∧ p.t < 18446744073709551614 ∧ p.t + 1 < q.f := by
  rw [mayS_iff]
  constructor
  · rintro ⟨_, h2, h3, h4, h5, h6, _⟩
    refine ⟨h2, h5, h6, ?_, ?_⟩ <;> omega
  · rintro ⟨h1, h2, h3, h4, h5⟩
    exact ⟨h, h1, by omega, by omega, h2, h3, trivial⟩

/-- What is told of two spans that may not be. -/
theorem two_not {p q : Sn} (h : mayS [p, q] = false) (n : Int) : hasM [p, q] n = false ∧ manyM [p, q] = 0 ∧ joinS [p, q] [] = [] ∧ minusS [p, q] [] = [] ∧ reachM [p, q] n = 0 ∧ firstM [p, q] n = [] := by
  refine ⟨?_, ?_, ?_, ?_, ?_, ?_⟩
  · unfold hasM; rw [h]; rfl
  · unfold manyM; rw [h]; rfl
  · unfold joinS; rw [h]; rfl
  · unfold minusS; rw [h]; rfl
  · unfold reachM; rw [h]; rfl
  · unfold firstM; rw [h]; rfl

/-- Two boxes and a list, in a world that has grown. -/
structure Sy (w0 : World) (gx gy : Nat) (p q : Sn) (v : Value) (l : List Sn) (w : World) : Prop where
  b : Below w0.heap.size w0 w
  x : Bx 40 gx p.f p.t w
  y : Bx 40 gy q.f q.t w
  r : Rs v l w
theorem Sy.below {w0 : World} {gx gy : Nat} {p q : Sn} {v : Value} {l : List Sn} {w w' : World} (h : Sy w0 gx gy p q v l w) (hb : Below w.heap.size w w') : Sy w0 gx gy p q v l w' := ⟨h.b.trans (hb.mono h.b.size), h.x.below hb, h.y.below hb, h.r.below hb⟩

set_option maxRecDepth 100000 in
set_option maxHeartbeats 8000000 in
theorem may_core (af at' bf bt : Int) (a0 : 0 ≤ af) (a1 : af ≤ 18446744073709551615) (a2 : 0 ≤ at') (a3 : at' ≤ 18446744073709551615) (b0 : 0 ≤ bf) (b1 : bf ≤ 18446744073709551615) (b2 : 0 ≤ bt) (b3 : bt ≤ 18446744073709551615) (w : World) :
    Calls Try.prog 7 #[.agg #[.int .u64 af, .int .u64 at'], .agg #[.int .u64 bf, .int .u64 bt]] w fun e w' => e = .returned (.bool true) ∧ Below w.heap.size w w' := by
  have hmay := may_two ⟨af, at'⟩ ⟨bf, bt⟩ a0
  have hnot := fun h n => two_not (p := ⟨af, at'⟩) (q := ⟨bf, bt⟩) h n
  have hok : ∀ s ∈ [(⟨af, at'⟩ : Sn), ⟨bf, bt⟩], SnOk s := by
    intro s hs
    simp at hs
    rcases hs with rfl | rfl
    · exact ⟨a0, a1, a2, a3⟩
    · exact ⟨b0, b1, b2, b3⟩
  obtain ⟨w1, HW1⟩ : ∃ w1, Hid (w1 = w.alloc (.cells #[.int .u64 af, .int .u64 at'] 40)) := ⟨_, rfl⟩
  have e1 := below_alloc w (.cells #[.int .u64 af, .int .u64 at'] 40)
  have hX := Bx.new 40 af at' w
  rw [← HW1.out] at e1 hX
  have hs1 : w1.heap.size = w.heap.size + 1 := by rw [HW1.out]; simp
  obtain ⟨w2, HW2⟩ : ∃ w2, Hid (w2 = w1.alloc (.cells #[.int .u64 bf, .int .u64 bt] 40)) := ⟨_, rfl⟩
  have e2 := below_alloc w1 (.cells #[.int .u64 bf, .int .u64 bt] 40)
  have hY := Bx.new 40 bf bt w1
  rw [← HW2.out] at e2 hY
  rw [hs1] at hY
  have hX2 := hX.below e2
  have hB2 := e1.trans (e2.mono e1.size)
  have hs2 : w2.heap.size = w.heap.size + 1 + 1 := by rw [HW2.out]; simp [hs1]
  obtain ⟨w3, HW3⟩ : ∃ w3, Hid (w3 = w2.alloc (.cells #[.int .u64 af, .int .u64 at', .int .u64 bf, .int .u64 bt] 40)) := ⟨_, rfl⟩
  have e3 := below_alloc w2 (.cells #[.int .u64 af, .int .u64 at', .int .u64 bf, .int .u64 bt] 40)
  have hR3 : Rs (.slice (some ⟨w2.heap.size, 0, none⟩) 2 2) [⟨af, at'⟩, ⟨bf, bt⟩] (w2.alloc (.cells #[.int .u64 af, .int .u64 at', .int .u64 bf, .int .u64 bt] 40)) := by
    have hO : Ow 0 (.slice (some ⟨w2.heap.size, 0, none⟩) 2 2) [⟨af, at'⟩, ⟨bf, bt⟩] (w2.alloc (.cells #[.int .u64 af, .int .u64 at', .int .u64 bf, .int .u64 bt] 40)) :=
      ⟨rfl, Or.inr ⟨w2.heap.size, 2, _, rfl, Nat.zero_le _, heap_alloc_new w2 _, Nat.le_refl _, by unfold maxLen; omega, rfl, rfl⟩⟩
    exact hO.rs hok
  have hB3 := hB2.trans (e3.mono hB2.size)
  have hX3 := hX2.below e3
  have hY3 := hY.below e3
  rw [← HW3.out] at hR3 hB3 hX3 hY3
  have x0 := hX2.c0
  have x1 := hX2.c1
  have y0 := hY.c0
  have y1 := hY.c1
  clear e1 e2 e3 hs1 hs2 hX
  obtain ⟨S, HS⟩ : ∃ S, Hid ([(⟨af, at'⟩ : Sn), ⟨bf, bt⟩] = S) := ⟨_, rfl⟩
  have hSl : S.length = 2 := by rw [← HS.out]; rfl
  rw [HS.out] at hR3 hmay hnot hok
  dsimp only at hmay
  have hS3 : Sy w w.heap.size (w.heap.size + 1) ⟨af, at'⟩ ⟨bf, bt⟩ (.slice (some ⟨w2.heap.size, 0, none⟩) 2 2) S w3 := ⟨hB3, hX3, hY3, hR3⟩
  clear hB3 hX3 hY3 hR3 hX2 hY hB2
  have hmv := fun w' h => may_any (.slice (some ⟨w2.heap.size, 0, none⟩) 2 2) S w' h (by omega)
  have hhv := fun n w' h => has_any (.slice (some ⟨w2.heap.size, 0, none⟩) 2 2) S n w' h (by omega)
  cases hm : mayS S
  case true =>
    obtain ⟨q1, q2, q3, q4, q5⟩ := hmay.1 hm
    have hh1 : hasM S af = true := by unfold hasM; rw [hm, ← HS.out]; simp [hasS]; omega
    have hh2 : hasM S bt = true := by unfold hasM; rw [hm, ← HS.out]; simp [hasS]; omega
    have hh3 : hasM S (at' + 1) = false := by unfold hasM; rw [hm, ← HS.out]; simp [hasS]; omega
    have z1 : decide (af ≤ at') = true := decide_eq_true q1
    have z2 : decide (bf ≤ bt) = true := decide_eq_true q2
    have z3 : decide (bt < 18446744073709551615) = true := decide_eq_true q3
    have z4 : decide (at' < 18446744073709551614) = true := decide_eq_true q4
    have z5 : decide (at' + 1 < bf) = true := decide_eq_true q5
    have q6 : at' + 1 ≤ 18446744073709551615 := by omega
    clear hmay hnot
    go_enter Try.func7, Try.ntmps7
    go_upto_region 1 with fail
    rw [← HW1.out, ← HW2.out]
    clear HW1 HW2
    go_upto_region 2 with fail
    rw [← HW3.out]
    clear HW3 x0 x1 y0 y1
    have x0 := hS3.x.c0
    have x1 := hS3.x.c1
    have y0 := hS3.y.c0
    have y1 := hS3.y.c1
    go_wp2_with fail
    refine (hmv _ hS3.r).mono ?_
    rw [hm]
    rintro e v4 ⟨rfl, hb4⟩
    have hS4 := hS3.below hb4
    clear x0 x1 y0 y1
    have x0 := hS4.x.c0
    have x1 := hS4.x.c1
    have y0 := hS4.y.c0
    have y1 := hS4.y.c1
    go_wp2_with fail
    refine (shown_any _).mono ?_
    rintro e v5 ⟨rfl, hb5⟩
    have hS5 := hS4.below hb5
    clear x0 x1 y0 y1
    have x0 := hS5.x.c0
    have x1 := hS5.x.c1
    have y0 := hS5.y.c0
    have y1 := hS5.y.c1
    go_wp2_with fail
    refine (hhv _ _ hS5.r).mono ?_
    rw [hh1]
    rintro e v6 ⟨rfl, hb6⟩
    have hS6 := hS5.below hb6
    clear x0 x1 y0 y1
    have x0 := hS6.x.c0
    have x1 := hS6.x.c1
    have y0 := hS6.y.c0
    have y1 := hS6.y.c1
    go_wp2_with fail
    refine (hhv _ _ hS6.r).mono ?_
    rw [hh2]
    rintro e v7 ⟨rfl, hb7⟩
    have hS7 := hS6.below hb7
    clear x0 x1 y0 y1
    have x0 := hS7.x.c0
    have x1 := hS7.x.c1
    have y0 := hS7.y.c0
    have y1 := hS7.y.c1
    go_wp2_with fail
    refine (hhv _ _ hS7.r).mono ?_
    rw [hh3]
    rintro e v8 ⟨rfl, hb8⟩
    have hS8 := hS7.below hb8
    go_wp2_with fail
    go_ret
    exact ⟨rfl, hS8.b⟩
  case false =>
    obtain ⟨h1, h2, h3, h4, h5, _⟩ := hnot hm af
    have h6 := (hnot hm 9).2.2.2.2.2
    have hq : ¬ (af ≤ at' ∧ bf ≤ bt ∧ bt < 18446744073709551615 ∧ at' < 18446744073709551614 ∧ at' + 1 < bf) := fun h => by
      have := hmay.2 h
      rw [hm] at this
      cases this
    clear hmay hnot
    go_enter Try.func7, Try.ntmps7
    go_upto_region 1 with fail
    rw [← HW1.out, ← HW2.out]
    clear HW1 HW2
    go_upto_region 2 with fail
    rw [← HW3.out]
    clear HW3 x0 x1 y0 y1
    have x0 := hS3.x.c0
    have x1 := hS3.x.c1
    have y0 := hS3.y.c0
    have y1 := hS3.y.c1
    by_cases q1 : af ≤ at'
    · have z1 : decide (af ≤ at') = true := decide_eq_true q1
      by_cases q2 : bf ≤ bt
      · have z2 : decide (bf ≤ bt) = true := decide_eq_true q2
        by_cases q3 : bt < 18446744073709551615
        · have z3 : decide (bt < 18446744073709551615) = true := decide_eq_true q3
          by_cases q4 : at' < 18446744073709551614
          · have z4 : decide (at' < 18446744073709551614) = true := decide_eq_true q4
            have z5 : decide (at' + 1 < bf) = false := decide_eq_false fun q5 => hq ⟨q1, q2, q3, q4, q5⟩
            have q6 : at' + 1 ≤ 18446744073709551615 := by omega
            clear hq
            go_wp2_with fail
            refine (hmv _ hS3.r).mono ?_
            rw [hm]
            rintro e v4 ⟨rfl, hb4⟩
            have hS4 := hS3.below hb4
            clear x0 x1 y0 y1
            have x0 := hS4.x.c0
            have x1 := hS4.x.c1
            have y0 := hS4.y.c0
            have y1 := hS4.y.c1
            go_wp2_with fail
            refine (shown_any _).mono ?_
            rintro e v5 ⟨rfl, hb5⟩
            have hS5 := hS4.below hb5
            clear x0 x1 y0 y1
            have x0 := hS5.x.c0
            have x1 := hS5.x.c1
            have y0 := hS5.y.c0
            have y1 := hS5.y.c1
            go_wp2_with fail
            refine (hhv _ _ hS5.r).mono ?_
            rw [h1]
            rintro e v6 ⟨rfl, hb6⟩
            have hS6 := hS5.below hb6
            clear x0 x1 y0 y1
            go_wp2_with fail
            refine (many_any _ S _ hS6.r (by omega)).mono ?_
            rw [h2]
            rintro e v7 ⟨rfl, hb7⟩
            have hS7 := hS6.below hb7
            go_wp2_with fail
            refine (join_any _ _ S [] _ hS7.r (Rs.nil _) (by omega) (by simp)).mono ?_
            rw [h3]
            rintro e v8 ⟨⟨u8, rfl, hO8⟩, hb8⟩
            have hS8 := hS7.below hb8
            obtain ⟨a8, c8, rfl⟩ := hO8.len
            go_wp2_with fail
            refine (minus_any _ _ S [] _ hS8.r (Rs.nil _) (by omega) (by simp)).mono ?_
            rw [h4]
            rintro e v9 ⟨⟨u9, rfl, hO9⟩, hb9⟩
            have hS9 := hS8.below hb9
            obtain ⟨a9, c9, rfl⟩ := hO9.len
            have x0 := hS9.x.c0
            have x1 := hS9.x.c1
            have y0 := hS9.y.c0
            have y1 := hS9.y.c1
            go_wp2_with fail
            refine (reach_any _ S af _ hS9.r (by omega) a0 a1).mono ?_
            rw [h5]
            rintro e v10 ⟨rfl, hb10⟩
            have hS10 := hS9.below hb10
            go_wp2_with fail
            refine (first_any _ S 9 _ hS10.r (by omega) (by decide) (by decide)).mono ?_
            rw [h6]
            rintro e v11 ⟨⟨u11, rfl, hO11⟩, hb11⟩
            have hS11 := hS10.below hb11
            obtain ⟨a11, c11, rfl⟩ := hO11.len
            go_wp2_with fail
            go_ret
            exact ⟨rfl, hS11.b⟩
          · have z4 : decide (at' < 18446744073709551614) = false := decide_eq_false q4
            clear hq
            go_wp2_with fail
            refine (hmv _ hS3.r).mono ?_
            rw [hm]
            rintro e v4 ⟨rfl, hb4⟩
            have hS4 := hS3.below hb4
            clear x0 x1 y0 y1
            have x0 := hS4.x.c0
            have x1 := hS4.x.c1
            have y0 := hS4.y.c0
            have y1 := hS4.y.c1
            go_wp2_with fail
            refine (shown_any _).mono ?_
            rintro e v5 ⟨rfl, hb5⟩
            have hS5 := hS4.below hb5
            clear x0 x1 y0 y1
            have x0 := hS5.x.c0
            have x1 := hS5.x.c1
            have y0 := hS5.y.c0
            have y1 := hS5.y.c1
            go_wp2_with fail
            refine (hhv _ _ hS5.r).mono ?_
            rw [h1]
            rintro e v6 ⟨rfl, hb6⟩
            have hS6 := hS5.below hb6
            clear x0 x1 y0 y1
            go_wp2_with fail
            refine (many_any _ S _ hS6.r (by omega)).mono ?_
            rw [h2]
            rintro e v7 ⟨rfl, hb7⟩
            have hS7 := hS6.below hb7
            go_wp2_with fail
            refine (join_any _ _ S [] _ hS7.r (Rs.nil _) (by omega) (by simp)).mono ?_
            rw [h3]
            rintro e v8 ⟨⟨u8, rfl, hO8⟩, hb8⟩
            have hS8 := hS7.below hb8
            obtain ⟨a8, c8, rfl⟩ := hO8.len
            go_wp2_with fail
            refine (minus_any _ _ S [] _ hS8.r (Rs.nil _) (by omega) (by simp)).mono ?_
            rw [h4]
            rintro e v9 ⟨⟨u9, rfl, hO9⟩, hb9⟩
            have hS9 := hS8.below hb9
            obtain ⟨a9, c9, rfl⟩ := hO9.len
            have x0 := hS9.x.c0
            have x1 := hS9.x.c1
            have y0 := hS9.y.c0
            have y1 := hS9.y.c1
            go_wp2_with fail
            refine (reach_any _ S af _ hS9.r (by omega) a0 a1).mono ?_
            rw [h5]
            rintro e v10 ⟨rfl, hb10⟩
            have hS10 := hS9.below hb10
            go_wp2_with fail
            refine (first_any _ S 9 _ hS10.r (by omega) (by decide) (by decide)).mono ?_
            rw [h6]
            rintro e v11 ⟨⟨u11, rfl, hO11⟩, hb11⟩
            have hS11 := hS10.below hb11
            obtain ⟨a11, c11, rfl⟩ := hO11.len
            go_wp2_with fail
            go_ret
            exact ⟨rfl, hS11.b⟩
        · have z3 : decide (bt < 18446744073709551615) = false := decide_eq_false q3
          clear hq
          go_wp2_with fail
          refine (hmv _ hS3.r).mono ?_
          rw [hm]
          rintro e v4 ⟨rfl, hb4⟩
          have hS4 := hS3.below hb4
          clear x0 x1 y0 y1
          have x0 := hS4.x.c0
          have x1 := hS4.x.c1
          have y0 := hS4.y.c0
          have y1 := hS4.y.c1
          go_wp2_with fail
          refine (shown_any _).mono ?_
          rintro e v5 ⟨rfl, hb5⟩
          have hS5 := hS4.below hb5
          clear x0 x1 y0 y1
          have x0 := hS5.x.c0
          have x1 := hS5.x.c1
          have y0 := hS5.y.c0
          have y1 := hS5.y.c1
          go_wp2_with fail
          refine (hhv _ _ hS5.r).mono ?_
          rw [h1]
          rintro e v6 ⟨rfl, hb6⟩
          have hS6 := hS5.below hb6
          clear x0 x1 y0 y1
          go_wp2_with fail
          refine (many_any _ S _ hS6.r (by omega)).mono ?_
          rw [h2]
          rintro e v7 ⟨rfl, hb7⟩
          have hS7 := hS6.below hb7
          go_wp2_with fail
          refine (join_any _ _ S [] _ hS7.r (Rs.nil _) (by omega) (by simp)).mono ?_
          rw [h3]
          rintro e v8 ⟨⟨u8, rfl, hO8⟩, hb8⟩
          have hS8 := hS7.below hb8
          obtain ⟨a8, c8, rfl⟩ := hO8.len
          go_wp2_with fail
          refine (minus_any _ _ S [] _ hS8.r (Rs.nil _) (by omega) (by simp)).mono ?_
          rw [h4]
          rintro e v9 ⟨⟨u9, rfl, hO9⟩, hb9⟩
          have hS9 := hS8.below hb9
          obtain ⟨a9, c9, rfl⟩ := hO9.len
          have x0 := hS9.x.c0
          have x1 := hS9.x.c1
          have y0 := hS9.y.c0
          have y1 := hS9.y.c1
          go_wp2_with fail
          refine (reach_any _ S af _ hS9.r (by omega) a0 a1).mono ?_
          rw [h5]
          rintro e v10 ⟨rfl, hb10⟩
          have hS10 := hS9.below hb10
          go_wp2_with fail
          refine (first_any _ S 9 _ hS10.r (by omega) (by decide) (by decide)).mono ?_
          rw [h6]
          rintro e v11 ⟨⟨u11, rfl, hO11⟩, hb11⟩
          have hS11 := hS10.below hb11
          obtain ⟨a11, c11, rfl⟩ := hO11.len
          go_wp2_with fail
          go_ret
          exact ⟨rfl, hS11.b⟩
      · have z2 : decide (bf ≤ bt) = false := decide_eq_false q2
        clear hq
        go_wp2_with fail
        refine (hmv _ hS3.r).mono ?_
        rw [hm]
        rintro e v4 ⟨rfl, hb4⟩
        have hS4 := hS3.below hb4
        clear x0 x1 y0 y1
        have x0 := hS4.x.c0
        have x1 := hS4.x.c1
        have y0 := hS4.y.c0
        have y1 := hS4.y.c1
        go_wp2_with fail
        refine (shown_any _).mono ?_
        rintro e v5 ⟨rfl, hb5⟩
        have hS5 := hS4.below hb5
        clear x0 x1 y0 y1
        have x0 := hS5.x.c0
        have x1 := hS5.x.c1
        have y0 := hS5.y.c0
        have y1 := hS5.y.c1
        go_wp2_with fail
        refine (hhv _ _ hS5.r).mono ?_
        rw [h1]
        rintro e v6 ⟨rfl, hb6⟩
        have hS6 := hS5.below hb6
        clear x0 x1 y0 y1
        go_wp2_with fail
        refine (many_any _ S _ hS6.r (by omega)).mono ?_
        rw [h2]
        rintro e v7 ⟨rfl, hb7⟩
        have hS7 := hS6.below hb7
        go_wp2_with fail
        refine (join_any _ _ S [] _ hS7.r (Rs.nil _) (by omega) (by simp)).mono ?_
        rw [h3]
        rintro e v8 ⟨⟨u8, rfl, hO8⟩, hb8⟩
        have hS8 := hS7.below hb8
        obtain ⟨a8, c8, rfl⟩ := hO8.len
        go_wp2_with fail
        refine (minus_any _ _ S [] _ hS8.r (Rs.nil _) (by omega) (by simp)).mono ?_
        rw [h4]
        rintro e v9 ⟨⟨u9, rfl, hO9⟩, hb9⟩
        have hS9 := hS8.below hb9
        obtain ⟨a9, c9, rfl⟩ := hO9.len
        have x0 := hS9.x.c0
        have x1 := hS9.x.c1
        have y0 := hS9.y.c0
        have y1 := hS9.y.c1
        go_wp2_with fail
        refine (reach_any _ S af _ hS9.r (by omega) a0 a1).mono ?_
        rw [h5]
        rintro e v10 ⟨rfl, hb10⟩
        have hS10 := hS9.below hb10
        go_wp2_with fail
        refine (first_any _ S 9 _ hS10.r (by omega) (by decide) (by decide)).mono ?_
        rw [h6]
        rintro e v11 ⟨⟨u11, rfl, hO11⟩, hb11⟩
        have hS11 := hS10.below hb11
        obtain ⟨a11, c11, rfl⟩ := hO11.len
        go_wp2_with fail
        go_ret
        exact ⟨rfl, hS11.b⟩
    · have z1 : decide (af ≤ at') = false := decide_eq_false q1
      clear hq
      go_wp2_with fail
      refine (hmv _ hS3.r).mono ?_
      rw [hm]
      rintro e v4 ⟨rfl, hb4⟩
      have hS4 := hS3.below hb4
      clear x0 x1 y0 y1
      have x0 := hS4.x.c0
      have x1 := hS4.x.c1
      have y0 := hS4.y.c0
      have y1 := hS4.y.c1
      go_wp2_with fail
      refine (shown_any _).mono ?_
      rintro e v5 ⟨rfl, hb5⟩
      have hS5 := hS4.below hb5
      clear x0 x1 y0 y1
      have x0 := hS5.x.c0
      have x1 := hS5.x.c1
      have y0 := hS5.y.c0
      have y1 := hS5.y.c1
      go_wp2_with fail
      refine (hhv _ _ hS5.r).mono ?_
      rw [h1]
      rintro e v6 ⟨rfl, hb6⟩
      have hS6 := hS5.below hb6
      clear x0 x1 y0 y1
      go_wp2_with fail
      refine (many_any _ S _ hS6.r (by omega)).mono ?_
      rw [h2]
      rintro e v7 ⟨rfl, hb7⟩
      have hS7 := hS6.below hb7
      go_wp2_with fail
      refine (join_any _ _ S [] _ hS7.r (Rs.nil _) (by omega) (by simp)).mono ?_
      rw [h3]
      rintro e v8 ⟨⟨u8, rfl, hO8⟩, hb8⟩
      have hS8 := hS7.below hb8
      obtain ⟨a8, c8, rfl⟩ := hO8.len
      go_wp2_with fail
      refine (minus_any _ _ S [] _ hS8.r (Rs.nil _) (by omega) (by simp)).mono ?_
      rw [h4]
      rintro e v9 ⟨⟨u9, rfl, hO9⟩, hb9⟩
      have hS9 := hS8.below hb9
      obtain ⟨a9, c9, rfl⟩ := hO9.len
      have x0 := hS9.x.c0
      have x1 := hS9.x.c1
      have y0 := hS9.y.c0
      have y1 := hS9.y.c1
      go_wp2_with fail
      refine (reach_any _ S af _ hS9.r (by omega) a0 a1).mono ?_
      rw [h5]
      rintro e v10 ⟨rfl, hb10⟩
      have hS10 := hS9.below hb10
      go_wp2_with fail
      refine (first_any _ S 9 _ hS10.r (by omega) (by decide) (by decide)).mono ?_
      rw [h6]
      rintro e v11 ⟨⟨u11, rfl, hO11⟩, hb11⟩
      have hS11 := hS10.below hb11
      obtain ⟨a11, c11, rfl⟩ := hO11.len
      go_wp2_with fail
      go_ret
      exact ⟨rfl, hS11.b⟩

theorem spanMay_walk (af at' bf bt : Int) (h0 : (Lit.int .u64 af).wf = true) (h1 : (Lit.int .u64 at').wf = true) (h2 : (Lit.int .u64 bf).wf = true) (h3 : (Lit.int .u64 bt).wf = true) (w : World) :
    Calls Try.prog 7 #[.agg #[.int .u64 af, .int .u64 at'], .agg #[.int .u64 bf, .int .u64 bt]] w fun e w' => e = .returned (.bool true) ∧ Below w.heap.size w w' :=
  may_core af at' bf bt (u64_of h0).1 (u64_of h0).2 (u64_of h1).1 (u64_of h1).2 (u64_of h2).1 (u64_of h2).2 (u64_of h3).1 (u64_of h3).2 w
end Go.Proofs.Ytipoppnoflhpiaa
