/-
  The reference's cut; a row of spans of which one is written; clones.
-/
import Derived.Test.YtlbeincgknmijaaDma
import Derived.Deep.CutRange
namespace Go.Proofs.Ytlbeincgknmijaa
open Go.RowKit

theorem made_os {B : Nat} {w : World} (hB : B ≤ w.heap.size) : Ow B (.slice (some ⟨w.heap.size, 0, none⟩) 0 0) [] (w.alloc (.cells #[] 51)) := World.ownsRow_made w #[] 0 hB (Nat.zero_le _) rfl
/-- A row of one span that was made. -/
theorem one_os {B g : Nat} {f t : Int} {w : World} (h : Bx 51 g f t w) (hB : B ≤ g) : Ow B (.slice (some ⟨g, 0, none⟩) 1 1) [⟨f, t⟩] w :=
  ⟨rfl, Or.inr ⟨g, 1, #[.int .u64 f, .int .u64 t], rfl, hB, h.heap, Nat.le_refl _, by unfold maxLen; omega, rfl, rfl⟩⟩
/-- An owned row that has a place. -/
theorem Ow.place {B : Nat} {v : Value} {l : List Sn} {w : World} (h : Ow B v l w) (hv : 0 < l.length) : ∃ g cap, v = .slice (some ⟨g, 0, none⟩) l.length cap ∧ B ≤ g ∧ g < w.heap.size := by
  rcases h.2 with ⟨_, e⟩ | ⟨g, cap, cur, rfl, hb, hg, h1, h2, _⟩
  · omega
  · exact ⟨g, cap, rfl, hb, (Array.getElem?_eq_some_iff.1 hg).1⟩

theorem SnOk.pred {f t : Int} (f0 : 0 ≤ f) (h : f < t) (h1 : t ≤ 18446744073709551615) : SnOk ⟨f, t - 1⟩ := ⟨f0, by show f ≤ _; omega, by show 0 ≤ t - 1; omega, by show t - 1 ≤ _; omega⟩

/-- The post of what tells a row that has a place. -/
def Told (B : Nat) (l : List Sn) (e : Ending) (w : World) : Prop := ∃ g cap, e = .returned (.slice (some ⟨g, 0, none⟩) l.length cap) ∧ Ow B (.slice (some ⟨g, 0, none⟩) l.length cap) l w

set_option maxRecDepth 100000 in
set_option maxHeartbeats 2000000 in
theorem cut_any (x y : Sn) (w : World) (hx : SnOk x) (hy : SnOk y) :
    Calls Try.prog 51 #[.agg #[.int .u64 x.f, .int .u64 x.t], .agg #[.int .u64 y.f, .int .u64 y.t]] w fun e w' => Told w.heap.size (cutS x y) e w' ∧ Below w.heap.size w w' := by
  obtain ⟨w1, HW1⟩ : ∃ w1, Hid (w1 = w.alloc (.cells #[.int .u64 x.f, .int .u64 x.t] 51)) := ⟨_, rfl⟩
  have b1 := below_alloc w (.cells #[.int .u64 x.f, .int .u64 x.t] 51)
  have hX := Bx.new 51 x.f x.t w
  rw [← HW1.out] at b1 hX
  have hs1 : w1.heap.size = w.heap.size + 1 := by rw [HW1.out]; simp
  obtain ⟨w2, HW2⟩ : ∃ w2, Hid (w2 = w1.alloc (.cells #[.int .u64 y.f, .int .u64 y.t] 51)) := ⟨_, rfl⟩
  have b2 := below_alloc w1 (.cells #[.int .u64 y.f, .int .u64 y.t] 51)
  have hY := Bx.new 51 y.f y.t w1
  rw [← HW2.out] at b2 hY
  have hX2 := hX.below b2
  have hB2 := b1.trans (b2.mono b1.size)
  have hs2 : w2.heap.size = w.heap.size + 1 + 1 := by rw [HW2.out]; simp [hs1]
  rw [hs1] at hY
  clear b1 b2 hX
  obtain ⟨xf, xt⟩ := x
  obtain ⟨yf, yt⟩ := y
  obtain ⟨x0, x1, x2, x3⟩ := hx
  obtain ⟨y0, y1, y2, y3⟩ := hy
  dsimp only at *
  have c0 := hX2.c0
  have c1 := hX2.c1
  have d0 := hY.c0
  have d1 := hY.c1
  have hone : ∀ (f t : Int), Bx 51 w2.heap.size f t (w2.alloc (.cells #[.int .u64 f, .int .u64 t] 51)) := fun f t => Bx.new _ f t w2
  have hz2 := hB2.size
  have hBa := fun o => hB2.trans ((below_alloc w2 o).mono hz2)
  by_cases q1 : yt < xf
  · have z1 : decide (yt < xf) = true := decide_eq_true q1
    have hO := one_os (hone xf xt) hz2
    have hB := hBa (.cells #[.int .u64 xf, .int .u64 xt] 51)
    rw [show cutS ⟨xf, xt⟩ ⟨yf, yt⟩ = [⟨xf, xt⟩] from if_pos (Or.inl q1)]
    rw [hs2] at hO
    go_enter Try.func51, Try.ntmps51
    go_upto_region 1 with fail
    rw [← HW1.out, ← HW2.out]
    go_wp2_with fail
    go_ret
    rw [← hs2]
    exact ⟨⟨_, _, rfl, by rw [hs2]; exact hO⟩, hB⟩
  · have z1 : decide (yt < xf) = false := decide_eq_false q1
    by_cases q2 : xt < yf
    · have z2 : decide (xt < yf) = true := decide_eq_true q2
      have hO := one_os (hone xf xt) hz2
      have hB := hBa (.cells #[.int .u64 xf, .int .u64 xt] 51)
      rw [show cutS ⟨xf, xt⟩ ⟨yf, yt⟩ = [⟨xf, xt⟩] from if_pos (Or.inr q2)]
      rw [hs2] at hO
      go_enter Try.func51, Try.ntmps51
      go_upto_region 1 with fail
      rw [← HW1.out, ← HW2.out]
      go_wp2_with fail
      go_ret
      rw [← hs2]
      exact ⟨⟨_, _, rfl, by rw [hs2]; exact hO⟩, hB⟩
    · have z2 : decide (xt < yf) = false := decide_eq_false q2
      rw [show cutS ⟨xf, xt⟩ ⟨yf, yt⟩ = (if xf < yf then [⟨xf, yf - 1⟩] else []) ++ (if yt < xt then [⟨yt + 1, xt⟩] else []) from if_neg (fun h => by rcases h with h | h; exact q1 h; exact q2 h)]
      clear hone
      obtain ⟨LL, HL⟩ : ∃ LL, Hid ((if xf < yf then [(⟨xf, yf - 1⟩ : Sn)] else []) ++ (if yt < xt then [(⟨yt + 1, xt⟩ : Sn)] else []) = LL) := ⟨_, rfl⟩
      rw [HL.out]
      obtain ⟨w3, HW3⟩ : ∃ w3, Hid (w3 = w2.alloc (.cells #[] 51)) := ⟨_, rfl⟩
      have hB3 := hBa (.cells #[] 51)
      have hO3 := made_os hz2
      have hX3 := hX2.below (below_alloc w2 (.cells #[] 51))
      have hY3 := hY.below (below_alloc w2 (.cells #[] 51))
      rw [← HW3.out] at hB3 hO3 hX3 hY3
      rw [hs2] at hO3
      have hs3 : w3.heap.size = w.heap.size + 1 + 1 + 1 := by rw [HW3.out]; simp [hs2]
      clear hBa
      have e0 := hX3.c0
      have e1 := hX3.c1
      have f0 := hY3.c0
      have f1 := hY3.c1
      have hz3 := hB3.size
      by_cases q3 : xf < yf
      · have z3 : decide (xf < yf) = true := decide_eq_true q3
        have y4 : 0 ≤ yf - 1 := by omega
        have b4 := below_alloc w3 (.cells #[.int .u64 xf, .int .u64 (yf - 1)] 51)
        have hU := Rs.one (Bx.new 51 xf (yf - 1) w3) (SnOk.pred x0 q3 y1)
        have hO4 := hO3.below b4
        have hB4 := hB3.trans (b4.mono hz3)
        have hX4 := hX3.below b4
        have hY4 := hY3.below b4
        have hz4 := hB4.size
        rw [hs3] at hU
        clear b4 hO3
        go_enter Try.func51, Try.ntmps51
        go_upto_region 1 with fail
        rw [← HW1.out, ← HW2.out]
        clear HW1 HW2
        go_upto_region 4 with fail
        rw [← HW3.out]
        clear HW3 c0 c1 d0 d1
        go_upto_region 6 with (at_builtin; refine wpList_appS rfl (.tmp 26) (.tmp 33) rfl _ w.heap.size [] rfl hO4 hz4 (w.heap.size + 1 + 1 + 1) 0 1 1 [⟨xf, yf - 1⟩] rfl rfl hU (by simp) ?_; intro v5 w5 hO5 h3)
        have hB5 := below_grown hB4 hO4 h3 hz4
        have hX5 : Bx 51 w.heap.size xf xt w5 := hX4.keep (h3.block _ hX4.lt (fun e => by have e' : _ = w.heap.size + 1 + 1 := Option.some.inj e; omega))
        have hY5 : Bx 51 (w.heap.size + 1) yf yt w5 := hY4.keep (h3.block _ hY4.lt (fun e => by have e' : _ = w.heap.size + 1 + 1 := Option.some.inj e; omega))
        have g0 := hX5.c0
        have g1 := hX5.c1
        have k0 := hY5.c0
        have k1 := hY5.c1
        obtain ⟨gv, cv, rfl, hgv, _⟩ := hO5.place (by simp)
        simp only [List.nil_append, List.length_singleton] at hO5
        clear h3 hO4 hB4 hX4 hY4 hU hX3 hY3 hz4
        have hz5 := hB5.size
        by_cases q4 : yt < xt
        · have z4 : decide (yt < xt) = true := decide_eq_true q4
          obtain rfl : LL = [⟨xf, yf - 1⟩] ++ [⟨yt + 1, xt⟩] := by rw [← HL.out, if_pos q3, if_pos q4]
          clear HL
          have y5 : yt + 1 ≤ 18446744073709551615 := by omega
          have b6 := below_alloc w5 (.cells #[.int .u64 (yt + 1), .int .u64 xt] 51)
          have hU := Rs.one (Bx.new 51 (yt + 1) xt w5) ⟨by show 0 ≤ yt + 1; omega, y5, x2, x3⟩
          have hO6 := hO5.below b6
          have hB6 := hB5.trans (b6.mono hz5)
          have hz6 := hB6.size
          clear b6 hO5
          go_wp2_with (at_builtin; refine wpList_appS rfl (.tmp 40) (.tmp 47) rfl _ w.heap.size [⟨xf, yf - 1⟩] rfl hO6 hz6 w5.heap.size 0 1 1 [⟨yt + 1, xt⟩] rfl rfl hU (by simp) ?_; intro v7 w7 hO7 h7; obtain ⟨gw, cw, rfl, hgw, _⟩ := hO7.place (by simp))
          go_ret
          exact ⟨⟨_, _, rfl, hO7⟩, below_grown hB6 hO6 h7 hz6⟩
        · have z4 : decide (yt < xt) = false := decide_eq_false q4
          obtain rfl : LL = [⟨xf, yf - 1⟩] := by rw [← HL.out, if_pos q3, if_neg q4]; rfl
          clear HL
          go_wp2_with fail
          go_ret
          exact ⟨⟨_, _, rfl, hO5⟩, hB5⟩
      · have z3 : decide (xf < yf) = false := decide_eq_false q3
        by_cases q4 : yt < xt
        · have z4 : decide (yt < xt) = true := decide_eq_true q4
          obtain rfl : LL = [] ++ [⟨yt + 1, xt⟩] := by rw [← HL.out, if_neg q3, if_pos q4]
          clear HL
          have y5 : yt + 1 ≤ 18446744073709551615 := by omega
          have b6 := below_alloc w3 (.cells #[.int .u64 (yt + 1), .int .u64 xt] 51)
          have hU := Rs.one (Bx.new 51 (yt + 1) xt w3) ⟨by show 0 ≤ yt + 1; omega, y5, x2, x3⟩
          have hO6 := hO3.below b6
          have hB6 := hB3.trans (b6.mono hz3)
          have hz6 := hB6.size
          rw [hs3] at hU
          clear b6 hO3
          go_enter Try.func51, Try.ntmps51
          go_upto_region 1 with fail
          rw [← HW1.out, ← HW2.out]
          clear HW1 HW2
          go_upto_region 4 with fail
          rw [← HW3.out]
          clear HW3 c0 c1 d0 d1
          go_wp2_with (at_builtin; refine wpList_appS rfl (.tmp 40) (.tmp 47) rfl _ w.heap.size [] rfl hO6 hz6 (w.heap.size + 1 + 1 + 1) 0 1 1 [⟨yt + 1, xt⟩] rfl rfl hU (by simp) ?_; intro v7 w7 hO7 h7; obtain ⟨gw, cw, rfl, hgw, _⟩ := hO7.place (by simp))
          go_ret
          exact ⟨⟨_, _, rfl, hO7⟩, below_grown hB6 hO6 h7 hz6⟩
        · have z4 : decide (yt < xt) = false := decide_eq_false q4
          obtain rfl : LL = [] := by rw [← HL.out, if_neg q3, if_neg q4]; rfl
          clear HL
          go_enter Try.func51, Try.ntmps51
          go_upto_region 1 with fail
          rw [← HW1.out, ← HW2.out]
          clear HW1 HW2
          go_upto_region 4 with fail
          rw [← HW3.out]
          clear HW3 c0 c1 d0 d1
          go_wp2_with fail
          go_ret
          exact ⟨⟨_, _, rfl, hO3⟩, hB3⟩
end Go.Proofs.Ytlbeincgknmijaa
