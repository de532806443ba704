/-
  Same, where both are the same; the reference's Add; what is shown.
-/
import Derived.Test.YtlbeincgknmijaaDad
import Derived.Test.YtlbeincgknmijaaDjo
import Derived.Laws.StructEq
namespace Go.Proofs.Ytlbeincgknmijaa
open Go.RowKit

def eqS (u v : Sn) : Bool := (u.f == v.f) && (u.t == v.t)
theorem eqS_refl (u : Sn) : eqS u u = true := by simp [eqS]
theorem run_eqS_in (d : Nat) (u v : Sn) (w : World) : (Op.equalIn (d + 1 + 1) 51 (.agg #[.int .u64 u.f, .int .u64 u.t]) (.agg #[.int .u64 v.f, .int .u64 v.t])).run Try.prog w = .ok (eqS u v) w := by
  rw [run_equalIn_struct w (d + 1) 51 _ _ (by kernel_rfl) (by kernel_rfl)]
  unfold eqS
  cases h1 : (u.f == v.f) <;> cases h2 : (u.t == v.t) <;> simp [Program.fieldsOf, go_sem, h1, h2]
theorem run_neqS (u v : Sn) (w : World) : (binOp .neq 51 (.agg #[.int .u64 u.f, .int .u64 u.t]) (.agg #[.int .u64 v.f, .int .u64 v.t])).run Try.prog w = .ok (.bool (!eqS u v)) w := by
  have h := run_eqS_in 9998 u v w
  simp [binOp, Op.equal, Op.maxDepth, h]

set_option maxRecDepth 100000 in
set_option maxHeartbeats 1000000 in
theorem same_any (v u : Value) (l : List Sn) (w : World) (hlen : l.length ≤ 1000000) (h1 : Rs v l w) (h2 : Rs u l w) :
    Calls Try.prog 9 #[v, u] w fun e w' => e = .returned (.bool true) ∧ Below w.heap.size w w' := by
  obtain ⟨⟨a1, cap1, rfl, m1, n1, k1⟩, _⟩ := id h1
  obtain ⟨⟨a2, cap2, rfl, m2, n2, k2⟩, _⟩ := id h2
  have hl : (l.length : Int) ≤ 1000000 := by omega
  go_enter Try.func9, Try.ntmps9
  go_wp2_with fail
  go_loopg [5] l.length (fun gk t5 wr => ∃ i : Nat, i + gk = l.length ∧ t5 = .int .i64 i ∧ Below w.heap.size w wr)
  case atStart => exact ⟨0, by omega, rfl, Below.refl _ _⟩
  case round =>
    obtain ⟨i, hi, rfl, hB⟩ := hrel
    by_cases hlt : (i : Int) < l.length
    · have i0 : (0 : Int) ≤ i := by omega
      have hil : i < l.length := by omega
      rcases k1 with k1 | ⟨g1, o1, rfl, k1⟩
      · omega
      rcases k2 with k2 | ⟨g2, o2, rfl, k2⟩
      · omega
      obtain ⟨x0, x1⟩ := (h1.below hB).at hil
      obtain ⟨y0, y1⟩ := (h2.below hB).at hil
      have hq := run_neqS (el l i) (el l i)
      rw [eqS_refl] at hq
      generalize (el l i) = x at *
      clear k1 k2
      go_wp2_with fail
      go_quiet (fail)
      go_wp2_with fail
      go_roundg (gk - 1)
      case rel => exact ⟨i + 1, by omega, by go_num, hB.trans (below_drewN _ _ _)⟩
      case measure => omega
    · go_wp2_with fail
      go_ret
      exact ⟨rfl, hB⟩

theorem join_one_same {l : List Sn} {n : Int} (h : Up 0 l) (n0 : 0 ≤ n) (n1 : n < 18446744073709551615) (hs : hasS l n = true) : joinS l [⟨n, n⟩] = l := by
  refine uniq _ _ 0 (joinS_up h (one_up n0 n1)) h fun m => ?_
  rw [joinS_has h (one_up n0 n1), one_has]
  by_cases e : n = m
  · subst e; simp [hs]
  · simp [e]

set_option maxRecDepth 100000 in
set_option maxHeartbeats 1000000 in
theorem fadd_any (v : Value) (l : List Sn) (n : Int) (w : World) (hR : Rs v l w) (hl : l.length ≤ 100000) (n0 : 0 ≤ n) (n1 : n ≤ 18446744073709551615) :
    Calls Try.prog 40 #[v, .int .u64 n] w fun e w' => (∃ v', e = .returned (.tuple #[v', .bool (addS l n).2]) ∧ Rs v' (addS l n).1 w') ∧ Below w.heap.size w w' := by
  have b3 := fun w' => below_alloc w' (.cells #[.int .u64 n, .int .u64 n] 51)
  have hO1 : SnOk ⟨n, n⟩ := ⟨n0, n1, n0, n1⟩
  cases hm : mayS l
  case false =>
    have e : addS l n = if n = 18446744073709551615 then ([], false) else (walkS orB [] [⟨n, n⟩], true) := by
      unfold addS; rw [hm]; simp
    rw [e]
    clear e
    cases hn : (n == 18446744073709551615)
    case true =>
      have hn' : n = 18446744073709551615 := by simpa using hn
      rw [if_pos hn']
      clear hn' b3
      go_enter Try.func40, Try.ntmps40
      go_wp2_with fail
      refine (fmay_any _ l _ hR (by omega)).mono ?_
      rw [hm]
      rintro e w2 ⟨rfl, hb⟩
      go_wp2_with fail
      go_ret2
      exact ⟨⟨_, rfl, Rs.nil _⟩, hb⟩
    case false =>
      have hn' : n ≠ 18446744073709551615 := by simpa using hn
      have hn1 : n < 18446744073709551615 := by omega
      have hj : walkS orB [] [⟨n, n⟩] = [⟨n, n⟩] := by
        refine uniq _ _ 0 (walkS_up rfl (by trivial) (one_up n0 hn1)) (one_up n0 hn1) fun m => ?_
        rw [walkS_has rfl (by trivial) (one_up n0 hn1)]
        simp [hasS_nil, orB]
      rw [if_neg hn', hj]
      have hU := Rs.one (Bx.new 51 n n w) hO1
      have b := b3 w
      have hR1 := hR.below b
      clear hn' b3
      go_enter Try.func40, Try.ntmps40
      go_wp2_with fail
      refine (fmay_any _ l _ hR1 (by omega)).mono ?_
      rw [hm]
      rintro e w2 ⟨rfl, hb⟩
      have hU2 := hU.below hb
      have hB2 := b.trans (hb.mono b.size)
      go_wp2_with fail
      go_ret2
      exact ⟨⟨_, rfl, hU2⟩, hB2⟩
  case true =>
    have hu := (mayS_iff l).1 hm
    have e : addS l n = if n = 18446744073709551615 ∨ hasS l n = true then (l, false) else (walkS orB l [⟨n, n⟩], true) := by
      unfold addS; rw [hm]; simp
    have hh : hasM l n = hasS l n := by unfold hasM; rw [hm]; rfl
    rw [e]
    clear e
    cases hn : (n == 18446744073709551615)
    case true =>
      have hn' : n = 18446744073709551615 := by simpa using hn
      rw [if_pos (Or.inl hn')]
      clear hn' b3
      go_enter Try.func40, Try.ntmps40
      go_wp2_with fail
      refine (fmay_any _ l _ hR (by omega)).mono ?_
      rw [hm]
      rintro e w2 ⟨rfl, hb⟩
      have hR2 := hR.below hb
      go_wp2_with fail
      go_ret2
      exact ⟨⟨_, rfl, hR2⟩, hb⟩
    case false =>
      have hn' : n ≠ 18446744073709551615 := by simpa using hn
      have hn1 : n < 18446744073709551615 := by omega
      have hw : (if n = 18446744073709551615 ∨ hasS l n = true then (l, false) else (walkS orB l [⟨n, n⟩], true)) = (joinS l [⟨n, n⟩], !hasS l n) := by
        by_cases hs : hasS l n = true
        · rw [if_pos (Or.inr hs), join_one_same hu n0 hn1 hs, hs]; rfl
        · rw [if_neg (by rintro (h | h); exact hn' h; exact hs h), joinS_of hu (one_up n0 hn1)]
          simp only [Bool.not_eq_true] at hs
          rw [hs]; rfl
      rw [hw]
      have hU := Rs.one (Bx.new 51 n n w) hO1
      have b := b3 w
      have hR1 := hR.below b
      clear hn' b3 hw
      go_enter Try.func40, Try.ntmps40
      go_wp2_with fail
      refine (fmay_any _ l _ hR1 (by omega)).mono ?_
      rw [hm]
      rintro e w2 ⟨rfl, hb⟩
      have hU2 := hU.below hb
      have hB2 := b.trans (hb.mono b.size)
      have hR2 := hR1.below hb
      go_wp2_with fail
      refine (fjoin_any _ _ l [⟨n, n⟩] _ hR2 hU2 (by omega) (by simp)).mono ?_
      rintro e w3 ⟨⟨v3, rfl, hO3⟩, hb3⟩
      have hR3 := hO3.rs (joinS_up hu (one_up n0 hn1)).ok
      have hB3 := hB2.trans (hb3.mono hB2.size)
      go_wp2_with fail
      refine (fhas_any _ l n w3 (hR2.below hb3) (by omega)).mono ?_
      rw [hh]
      rintro e w4 ⟨rfl, hb4⟩
      have hR4 := hR3.below hb4
      go_wp2_with fail
      go_ret2
      exact ⟨⟨_, rfl, hR4⟩, hB3.trans (hb4.mono hB3.size)⟩

theorem shown_add : addS [⟨1, 3⟩, ⟨5, 6⟩] 4 = ([⟨1, 6⟩], true) := by kernel_rfl

end Go.Proofs.Ytlbeincgknmijaa
