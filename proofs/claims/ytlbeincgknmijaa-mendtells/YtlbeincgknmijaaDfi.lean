/-
  First, of the code and of the reference.
-/
import Derived.Test.YtlbeincgknmijaaDma
namespace Go.Proofs.Ytlbeincgknmijaa
open Go.RowKit

def firstM (l : List Sn) (n : Int) : List Sn := if mayS l then firstS l n else []
theorem first_step {l : List Sn} {k : Nat} {n : Int} (hk : k < l.length) (hn : ¬ n ≤ 0) :
    firstS (l.drop k) n = ⟨(el l k).f, (el l k).f + min (n - 1) ((el l k).t - (el l k).f)⟩ :: firstS (l.drop (k + 1)) (n - (min (n - 1) ((el l k).t - (el l k).f) + 1)) := by
  rw [drop_el hk]; simp only [firstS]; rw [if_neg hn]

set_option maxRecDepth 100000 in
set_option maxHeartbeats 2000000 in
theorem first_any (v : Value) (l : List Sn) (n : Int) (w : World) (hR : Rs v l w) (hl : l.length ≤ 100000) (n0 : 0 ≤ n) (n1 : n ≤ 18446744073709551615) :
    Calls Try.prog 30 #[v, .int .u64 n] w fun e w' => (∃ v', e = .returned v' ∧ Ow w.heap.size v' (firstM l n) w') ∧ Below w.heap.size w w' := by
  obtain ⟨⟨a, cap, rfl, h1, h2, h3⟩, hok⟩ := id hR
  have hlen : (l.length : Int) ≤ 100000 := by omega
  unfold firstM
  cases hm : mayS l
  case false =>
    go_enter Try.func30, Try.ntmps30
    go_wp2_with fail
    refine (may_any _ l _ hR (by omega)).mono ?_
    rw [hm]
    rintro e w2 ⟨rfl, hb⟩
    go_wp2_with fail
    go_ret
    exact ⟨⟨_, rfl, Ow.nil _ _⟩, hb⟩
  case true =>
    have hu := (mayS_iff l).1 hm
    obtain ⟨R, HR⟩ : ∃ R, Hid (firstS l n = R) := ⟨_, rfl⟩
    rw [if_pos rfl, HR.out]
    go_enter Try.func30, Try.ntmps30
    go_wp2_with fail
    refine (may_any _ l _ hR (by omega)).mono ?_
    rw [hm]
    rintro e w2 ⟨rfl, hb2⟩
    clear hm
    go_wp2_with fail
    go_loopg [1, 5, 13] l.length (fun gk t1 t5 t13 wr => ∃ (k : Nat) (m : Int) (M : List Sn), k + gk = l.length ∧ t13 = .int .i64 k ∧ t1 = .int .u64 m ∧ 0 ≤ m ∧ m ≤ 18446744073709551615 ∧ M.length ≤ k ∧ Ow w.heap.size t5 M wr ∧ Hid (M ++ firstS (l.drop k) m = R) ∧ Below w.heap.size w wr)
    case atStart => exact ⟨0, n, [], by omega, rfl, rfl, n0, n1, by simp, Ow.nil _ _, HR, hb2⟩
    case round =>
      obtain ⟨k, m, M, hk, rfl, rfl, m0, m1, hM, hO, hI, hB⟩ := hrel
      clear hb2 n0 n1
      have hz := hB.size
      by_cases hlt : (k : Int) < l.length
      · have hk' : k < l.length := by omega
        have k0 : (0 : Int) ≤ k := by omega
        rcases h3 with h3 | ⟨g, off, rfl, h3⟩
        · omega
        obtain ⟨c0, c1⟩ := (hR.below hB).at hk'
        obtain ⟨v1, v2, v3⟩ := hu.at hk'
        have b1 := below_alloc wr (.cells #[.int .u64 (el l k).f, .int .u64 (el l k).t] 51)
        have hB1 := hB.trans (b1.mono hB.size)
        have hO1 := hO.below b1
        have hbx := Bx.new 51 (el l k).f (el l k).t wr
        have hI := hI.out
        cases hm0 : (m == 0)
        case true =>
          have hm0' : m = 0 := by simpa using hm0
          rw [firstS_zero _ (by omega : m ≤ 0), List.append_nil] at hI
          subst hI
          clear hm0'
          generalize (el l k).f = f at *
          generalize (el l k).t = t at *
          clear h3
          go_wp2_with fail
          go_ret
          exact ⟨⟨_, rfl, hO1⟩, hB1⟩
        case false =>
          have hm0' : m ≠ 0 := by simpa using hm0
          rw [first_step hk' (by omega : ¬ m ≤ 0)] at hI
          generalize (el l k).f = f at *
          generalize (el l k).t = t at *
          have m2 : 0 ≤ m - 1 := by omega
          have t2 : 0 ≤ t - f := by omega
          clear h3 b1 hB1 hO1 hbx
          by_cases q : m - 1 ≤ t - f
          · have hx : min (m - 1) (t - f) = m - 1 := by omega
            rw [hx] at hI
            have q2 : f + (m - 1) ≤ t := by omega
            have b1 := below_alloc wr (.cells #[.int .u64 f, .int .u64 (f + (m - 1))] 51)
            have hB1 := hB.trans (b1.mono hB.size)
            have hO1 := hO.below b1
            obtain ⟨w4, HW4⟩ : ∃ w4, Hid (w4 = wr.alloc (.cells #[.int .u64 f, .int .u64 (f + (m - 1))] 51)) := ⟨_, rfl⟩
            rw [← HW4.out] at hO1 hB1
            have b2 := below_alloc w4 (.cells #[.int .u64 f, .int .u64 (f + (m - 1))] 51)
            have hz1 := hB1.size
            have hB2 := hB1.trans (b2.mono hB1.size)
            have hO2 := hO1.below b2
            have hz2 := hB2.size
            have hU := Rs.one (Bx.new 51 f (f + (m - 1)) w4) ⟨v1, by show f ≤ _; omega, by show 0 ≤ f + (m - 1); omega, by show f + (m - 1) ≤ _; omega⟩
            have hsz : w4.heap.size = wr.heap.size + 1 := by rw [HW4.out]; simp
            rw [hsz] at hU
            clear b1 b2 hB1 hO1 hO hB hz1
            rw [HW4.out] at hO2 hB2 hU hz2
            go_wp2_with (at_builtin; refine wpList_appS rfl (.tmp 39) (.tmp 41) rfl _ w.heap.size M rfl hO2 hz2 (wr.heap.size + 1) 0 1 1 [⟨f, f + (m - 1)⟩] rfl rfl hU (by simp; omega) ?_; intro v' w' h1 h3)
            have hB3 := below_grown hB2 hO2 h3 hz2
            go_roundg (gk - 1)
            case rel => exact ⟨k + 1, m - (f + (m - 1) - f + 1), M ++ [⟨f, f + (m - 1)⟩], by omega, by go_num, rfl, by omega, by omega, by simp; omega, h1, by rw [List.append_assoc, ← hI]; rw [show m - (f + (m - 1) - f + 1) = m - (m - 1 + 1) by omega]; rfl, hB3⟩
            case measure => omega
          · have hx : min (m - 1) (t - f) = t - f := by omega
            rw [hx] at hI
            have b1 := below_alloc wr (.cells #[.int .u64 f, .int .u64 (f + (t - f))] 51)
            have hB1 := hB.trans (b1.mono hB.size)
            have hO1 := hO.below b1
            obtain ⟨w4, HW4⟩ : ∃ w4, Hid (w4 = wr.alloc (.cells #[.int .u64 f, .int .u64 (f + (t - f))] 51)) := ⟨_, rfl⟩
            rw [← HW4.out] at hO1 hB1
            have b2 := below_alloc w4 (.cells #[.int .u64 f, .int .u64 (f + (t - f))] 51)
            have hz1 := hB1.size
            have hB2 := hB1.trans (b2.mono hB1.size)
            have hO2 := hO1.below b2
            have hz2 := hB2.size
            have hU := Rs.one (Bx.new 51 f (f + (t - f)) w4) ⟨v1, by show f ≤ _; omega, by show 0 ≤ f + (t - f); omega, by show f + (t - f) ≤ _; omega⟩
            have hsz : w4.heap.size = wr.heap.size + 1 := by rw [HW4.out]; simp
            rw [hsz] at hU
            clear b1 b2 hB1 hO1 hO hB hz1
            rw [HW4.out] at hO2 hB2 hU hz2
            go_wp2_with (at_builtin; refine wpList_appS rfl (.tmp 39) (.tmp 41) rfl _ w.heap.size M rfl hO2 hz2 (wr.heap.size + 1) 0 1 1 [⟨f, f + (t - f)⟩] rfl rfl hU (by simp; omega) ?_; intro v' w' h1 h3)
            have hB3 := below_grown hB2 hO2 h3 hz2
            go_roundg (gk - 1)
            case rel => exact ⟨k + 1, m - (f + (t - f) - f + 1), M ++ [⟨f, f + (t - f)⟩], by omega, by go_num, rfl, by omega, by omega, by simp; omega, h1, by rw [List.append_assoc, ← hI]; rw [show m - (f + (t - f) - f + 1) = m - (t - f + 1) by omega]; rfl, hB3⟩
            case measure => omega
      · have ek : l.length ≤ k := by omega
        have hI' := hI.out
        rw [List.drop_eq_nil_of_le ek] at hI'
        have hI' : M ++ [] = R := hI'
        rw [List.append_nil] at hI'
        subst hI'
        clear hI
        go_wp2_with fail
        go_ret
        exact ⟨⟨_, rfl, hO⟩, hB⟩

set_option maxRecDepth 100000 in
set_option maxHeartbeats 2000000 in
theorem ffirst_any (v : Value) (l : List Sn) (n : Int) (w : World) (hR : Rs v l w) (hl : l.length ≤ 100000) (n0 : 0 ≤ n) (n1 : n ≤ 18446744073709551615) :
    Calls Try.prog 32 #[v, .int .u64 n] w fun e w' => (∃ v', e = .returned v' ∧ Ow w.heap.size v' (firstM l n) w') ∧ Below w.heap.size w w' := by
  obtain ⟨⟨a, cap, rfl, h1, h2, h3⟩, hok⟩ := id hR
  have hlen : (l.length : Int) ≤ 100000 := by omega
  unfold firstM
  cases hm : mayS l
  case false =>
    go_enter Try.func32, Try.ntmps32
    go_wp2_with fail
    refine (fmay_any _ l _ hR (by omega)).mono ?_
    rw [hm]
    rintro e w2 ⟨rfl, hb⟩
    go_wp2_with fail
    go_ret
    exact ⟨⟨_, rfl, Ow.nil _ _⟩, hb⟩
  case true =>
    have hu := (mayS_iff l).1 hm
    obtain ⟨R, HR⟩ : ∃ R, Hid (firstS l n = R) := ⟨_, rfl⟩
    rw [if_pos rfl, HR.out]
    go_enter Try.func32, Try.ntmps32
    go_wp2_with fail
    refine (fmay_any _ l _ hR (by omega)).mono ?_
    rw [hm]
    rintro e w2 ⟨rfl, hb2⟩
    clear hm
    have bE := below_alloc w2 (.cells #[] 51)
    have hBE := hb2.trans (bE.mono hb2.size)
    have hOE : Ow w.heap.size (.slice (some ⟨w2.heap.size, 0, none⟩) 0 0) [] (w2.alloc (.cells #[] 51)) := World.ownsRow_made w2 #[] 0 hb2.size (Nat.zero_le _) rfl
    clear hb2 bE
    go_wp2_with fail
    go_loopg [1, 5, 6] l.length (fun gk t1 t5 t13 wr => ∃ (k : Nat) (m : Int) (M : List Sn), k + gk = l.length ∧ t13 = .int .i64 k ∧ t1 = .int .u64 m ∧ 0 ≤ m ∧ m ≤ 18446744073709551615 ∧ M.length ≤ k ∧ Ow w.heap.size t5 M wr ∧ Hid (M ++ firstS (l.drop k) m = R) ∧ Below w.heap.size w wr)
    case atStart => exact ⟨0, n, [], by omega, rfl, rfl, n0, n1, by simp, hOE, HR, hBE⟩
    case round =>
      obtain ⟨k, m, M, hk, rfl, rfl, m0, m1, hM, hO, hI, hB⟩ := hrel
      clear hBE hOE n0 n1
      have hz := hB.size
      by_cases hlt : (k : Int) < l.length
      · have hk' : k < l.length := by omega
        have k0 : (0 : Int) ≤ k := by omega
        rcases h3 with h3 | ⟨g, off, rfl, h3⟩
        · omega
        obtain ⟨c0, c1⟩ := (hR.below hB).at hk'
        obtain ⟨v1, v2, v3⟩ := hu.at hk'
        have b1 := below_alloc wr (.cells #[.int .u64 (el l k).f, .int .u64 (el l k).t] 51)
        have hB1 := hB.trans (b1.mono hB.size)
        have hO1 := hO.below b1
        have hbx := Bx.new 51 (el l k).f (el l k).t wr
        have hI := hI.out
        by_cases hm0 : 0 < m
        case neg =>
          have zm : decide (0 < m) = false := decide_eq_false hm0
          rw [firstS_zero _ (by omega : m ≤ 0), List.append_nil] at hI
          subst hI
          generalize (el l k).f = f at *
          generalize (el l k).t = t at *
          clear h3
          go_wp2_with fail
          go_ret
          exact ⟨⟨_, rfl, hO⟩, hB⟩
        case pos =>
          have zm : decide (0 < m) = true := decide_eq_true hm0
          have hm0' : m ≠ 0 := by omega
          rw [first_step hk' (by omega : ¬ m ≤ 0)] at hI
          generalize (el l k).f = f at *
          generalize (el l k).t = t at *
          have m2 : 0 ≤ m - 1 := by omega
          have t2 : 0 ≤ t - f := by omega
          clear h3 b1 hB1 hO1 hbx
          by_cases q : m ≤ t - f
          · have hx : min (m - 1) (t - f) = m - 1 := by omega
            rw [hx, show f + (m - 1) = f + m - 1 by omega] at hI
            have q2 : f + m ≤ t := by omega
            have q3 : 0 ≤ f + m - 1 := by omega
            have zq : decide (m ≤ t - f) = true := decide_eq_true q
            have b1 := below_alloc wr (.cells #[.int .u64 f, .int .u64 (f + m - 1)] 51)
            have hB1 := hB.trans (b1.mono hB.size)
            have hO1 := hO.below b1
            obtain ⟨w4, HW4⟩ : ∃ w4, Hid (w4 = wr.alloc (.cells #[.int .u64 f, .int .u64 (f + m - 1)] 51)) := ⟨_, rfl⟩
            rw [← HW4.out] at hO1 hB1
            have b2 := below_alloc w4 (.cells #[.int .u64 f, .int .u64 (f + m - 1)] 51)
            have hz1 := hB1.size
            have hB2 := hB1.trans (b2.mono hB1.size)
            have hO2 := hO1.below b2
            have hz2 := hB2.size
            have hU := Rs.one (Bx.new 51 f (f + m - 1) w4) ⟨v1, by show f ≤ _; omega, by show 0 ≤ f + m - 1; omega, by show f + m - 1 ≤ _; omega⟩
            have hsz : w4.heap.size = wr.heap.size + 1 := by rw [HW4.out]; simp
            rw [hsz] at hU
            clear b1 b2 hB1 hO1 hO hB hz1
            rw [HW4.out] at hO2 hB2 hU hz2
            go_wp2_with (at_builtin; refine wpList_appS rfl (.tmp 47) (.tmp 49) rfl _ w.heap.size M rfl hO2 hz2 (wr.heap.size + 1) 0 1 1 [⟨f, f + m - 1⟩] rfl rfl hU (by simp; omega) ?_; intro v' w' h1 h3)
            have hB3 := below_grown hB2 hO2 h3 hz2
            go_roundg (gk - 1)
            case rel => exact ⟨k + 1, m - (f + m - 1 - f + 1), M ++ [⟨f, f + m - 1⟩], by omega, by go_num, rfl, by omega, by omega, by simp; omega, h1, by rw [List.append_assoc, ← hI]; rw [show m - (f + m - 1 - f + 1) = m - (m - 1 + 1) by omega]; rfl, hB3⟩
            case measure => omega
          · have hx : min (m - 1) (t - f) = t - f := by omega
            rw [hx, show f + (t - f) = t by omega] at hI
            have zq : decide (m ≤ t - f) = false := decide_eq_false q
            have b1 := below_alloc wr (.cells #[.int .u64 f, .int .u64 (t)] 51)
            have hB1 := hB.trans (b1.mono hB.size)
            have hO1 := hO.below b1
            obtain ⟨w4, HW4⟩ : ∃ w4, Hid (w4 = wr.alloc (.cells #[.int .u64 f, .int .u64 (t)] 51)) := ⟨_, rfl⟩
            rw [← HW4.out] at hO1 hB1
            have b2 := below_alloc w4 (.cells #[.int .u64 f, .int .u64 (t)] 51)
            have hz1 := hB1.size
            have hB2 := hB1.trans (b2.mono hB1.size)
            have hO2 := hO1.below b2
            have hz2 := hB2.size
            have hU := Rs.one (Bx.new 51 f (t) w4) ⟨v1, by show f ≤ _; omega, by show 0 ≤ t; omega, by show t ≤ _; omega⟩
            have hsz : w4.heap.size = wr.heap.size + 1 := by rw [HW4.out]; simp
            rw [hsz] at hU
            clear b1 b2 hB1 hO1 hO hB hz1
            rw [HW4.out] at hO2 hB2 hU hz2
            go_wp2_with (at_builtin; refine wpList_appS rfl (.tmp 47) (.tmp 49) rfl _ w.heap.size M rfl hO2 hz2 (wr.heap.size + 1) 0 1 1 [⟨f, t⟩] rfl rfl hU (by simp; omega) ?_; intro v' w' h1 h3)
            have hB3 := below_grown hB2 hO2 h3 hz2
            go_roundg (gk - 1)
            case rel => exact ⟨k + 1, m - (t - f + 1), M ++ [⟨f, t⟩], by omega, by go_num, rfl, by omega, by omega, by simp; omega, h1, (by show _ = R; rw [List.append_assoc, ← hI]; rfl), hB3⟩
            case measure => omega
      · have ek : l.length ≤ k := by omega
        have hI' := hI.out
        rw [List.drop_eq_nil_of_le ek] at hI'
        have hI' : M ++ [] = R := hI'
        rw [List.append_nil] at hI'
        subst hI'
        clear hI
        go_wp2_with fail
        go_ret
        exact ⟨⟨_, rfl, hO⟩, hB⟩
end Go.Proofs.Ytlbeincgknmijaa
