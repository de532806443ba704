/-
  Has, of the code and of the reference.
-/
import Derived.Test.YtlbeincgknmijaaDma
namespace Go.Proofs.Ytlbeincgknmijaa
open Go.RowKit

set_option maxRecDepth 100000 in
set_option maxHeartbeats 1000000 in
theorem has1_any (s : Sn) (n : Int) (gb : Nat) (w : World) (hn : w.cell? ⟨gb, 0, none⟩ = some (.int .u64 n)) :
    Calls Try.prog 61 #[.agg #[.int .u64 s.f, .int .u64 s.t], .pointer (some ⟨gb, 0, none⟩)] w fun e w' => e = .returned (.bool (decide (s.f ≤ n) && decide (n ≤ s.t))) ∧ Below w.heap.size w w' := by
  have b1 := below_alloc w (.cells #[.int .u64 s.f, .int .u64 s.t] 51)
  have c := cell_below hn b1
  obtain ⟨f, t⟩ := s
  dsimp only at *
  by_cases h1 : f ≤ n
  · have z1 : decide (f ≤ n) = true := decide_eq_true h1
    go_enter Try.func61, Try.ntmps61
    go_wp2_with fail
    go_ret
    exact ⟨by simp [h1], b1⟩
  · have z1 : decide (f ≤ n) = false := decide_eq_false h1
    go_enter Try.func61, Try.ntmps61
    go_wp2_with fail
    go_ret
    exact ⟨by simp, b1⟩

theorem hasS_take_succ {l : List Sn} {k : Nat} {n : Int} (hk : k < l.length) (h : hasS (l.take k) n = false) : hasS (l.take (k + 1)) n = (decide ((el l k).f ≤ n) && decide (n ≤ (el l k).t)) := by
  rw [take_snoc hk, hasS_append, h, hasS_cons, hasS_nil]
  simp
theorem hasS_at {l : List Sn} {k : Nat} {n : Int} (hk : k < l.length) (h : (decide ((el l k).f ≤ n) && decide (n ≤ (el l k).t)) = true) : hasS l n = true := by
  rw [Bool.and_eq_true, decide_eq_true_eq, decide_eq_true_eq] at h
  exact hasS_iff.2 ⟨_, el_mem hk, h.1, h.2⟩

set_option maxRecDepth 100000 in
set_option maxHeartbeats 1000000 in
theorem idx_any (v : Value) (l : List Sn) (n : Int) (gb : Nat) (w : World) (hR : Rs v l w) (hl : l.length ≤ 1000000) (hn : w.cell? ⟨gb, 0, none⟩ = some (.int .u64 n)) :
    Calls Try.prog 63 #[v, .func (.func 61) #[] #[.pointer (some ⟨gb, 0, none⟩)]] w fun e w' => (∃ i : Int, e = .returned (.int .i64 i) ∧ decide (0 ≤ i) = hasS l n) ∧ Below w.heap.size w w' := by
  obtain ⟨⟨a, cap, rfl, h1, h2, h3⟩, hok⟩ := id hR
  have hlen : (l.length : Int) ≤ 1000000 := by omega
  obtain ⟨R, HR⟩ : ∃ R, Hid (hasS l n = R) := ⟨_, rfl⟩
  rw [HR.out]
  go_enter Try.func63, Try.ntmps63
  go_wp2_with fail
  go_loopg [8] l.length (fun gk t8 wr => ∃ k : Nat, k + gk = l.length ∧ t8 = .int .i64 k ∧ Hid (hasS (l.take k) n = false) ∧ Below w.heap.size w wr)
  case atStart => exact ⟨0, by omega, rfl, rfl, Below.refl _ _⟩
  case round =>
    obtain ⟨k, hk, rfl, hI, hB⟩ := hrel
    by_cases hlt : (k : Int) < l.length
    · have hk' : k < l.length := by omega
      have k0 : (0 : Int) ≤ k := by omega
      rcases h3 with h3 | ⟨g, off, rfl, h3⟩
      · omega
      obtain ⟨c0, c1⟩ := (hR.below hB).at hk'
      have hc := has1_any (el l k) n gb wr (cell_below hn hB)
      have e1 := hasS_take_succ hk' hI.out
      have e2 := hasS_at (n := n) hk'
      obtain ⟨z, hz⟩ : ∃ z, (decide ((el l k).f ≤ n) && decide (n ≤ (el l k).t)) = z := ⟨_, rfl⟩
      rw [hz] at hc e1 e2
      clear hz
      generalize (el l k).f = f at *
      generalize (el l k).t = t at *
      clear h3
      cases z
      case false =>
        have e1 : Hid (hasS (l.take (k + 1)) n = false) := e1
        clear e2 hI
        go_wp2_with fail
        refine hc.mono ?_
        rintro e w1 ⟨rfl, hb⟩
        go_wp2_with fail
        go_roundg (gk - 1)
        case rel => exact ⟨k + 1, by omega, by go_num, e1, hB.trans (hb.mono hB.size)⟩
        case measure => omega
      case true =>
        obtain rfl : R = true := HR.out.symm.trans (e2 rfl)
        clear e1 e2 hI
        go_wp2_with fail
        refine hc.mono ?_
        rintro e w1 ⟨rfl, hb⟩
        go_wp2_with fail
        go_ret
        exact ⟨⟨_, rfl, decide_eq_true k0⟩, hB.trans (hb.mono hB.size)⟩
    · have ek : l.length ≤ k := by omega
      have hI' := hI.out
      rw [List.take_of_length_le ek] at hI'
      obtain rfl : R = false := HR.out.symm.trans hI'
      clear hI hI'
      go_wp2_with fail
      go_ret
      exact ⟨⟨-1, rfl, by decide⟩, hB⟩

set_option maxRecDepth 100000 in
theorem cont_any (v : Value) (l : List Sn) (n : Int) (gb : Nat) (w : World) (hR : Rs v l w) (hl : l.length ≤ 1000000) (hn : w.cell? ⟨gb, 0, none⟩ = some (.int .u64 n)) :
    Calls Try.prog 60 #[v, .func (.func 61) #[] #[.pointer (some ⟨gb, 0, none⟩)]] w fun e w' => e = .returned (.bool (hasS l n)) ∧ Below w.heap.size w w' := by
  go_enter Try.func60, Try.ntmps60
  go_wp2_with fail
  refine (idx_any v l n gb w hR hl hn).mono ?_
  rintro e w1 ⟨⟨i, rfl, hi⟩, hb⟩
  go_wp2_with fail
  go_ret
  exact ⟨by first | rfl | rw [hi], hb⟩

def hasM (l : List Sn) (n : Int) : Bool := mayS l && hasS l n

set_option maxRecDepth 100000 in
set_option maxHeartbeats 1000000 in
theorem has_any (v : Value) (l : List Sn) (n : Int) (w : World) (hR : Rs v l w) (hl : l.length ≤ 1000000) :
    Calls Try.prog 54 #[v, .int .u64 n] w fun e w' => e = .returned (.bool (hasM l n)) ∧ Below w.heap.size w w' := by
  have b1 := below_alloc w (.cells #[.int .u64 n] 25)
  have hn : (w.alloc (.cells #[.int .u64 n] 25)).cell? ⟨w.heap.size, 0, none⟩ = some (.int .u64 n) := by unfold World.cell?; rw [heap_alloc_new]; rfl
  have hR1 := hR.below b1
  unfold hasM
  cases hm : mayS l
  case false =>
    go_enter Try.func54, Try.ntmps54
    go_wp2_with fail
    refine (may_any v l _ hR1 hl).mono ?_
    rw [hm]
    rintro e w2 ⟨rfl, hb⟩
    go_wp2_with fail
    go_ret
    exact ⟨rfl, b1.trans (hb.mono b1.size)⟩
  case true =>
    go_enter Try.func54, Try.ntmps54
    go_wp2_with fail
    refine (may_any v l _ hR1 hl).mono ?_
    rw [hm]
    rintro e w2 ⟨rfl, hb⟩
    have hB2 := b1.trans (hb.mono b1.size)
    have hn2 := cell_below hn hb
    have hR2 := hR1.below hb
    go_wp2_with fail
    refine (cont_any v l n _ w2 hR2 hl hn2).mono ?_
    rintro e w3 ⟨rfl, hb3⟩
    go_wp2_with fail
    go_ret
    exact ⟨by simp, hB2.trans (hb3.mono hB2.size)⟩

set_option maxRecDepth 100000 in
set_option maxHeartbeats 1000000 in
theorem fhas_any (v : Value) (l : List Sn) (n : Int) (w : World) (hR : Rs v l w) (hl : l.length ≤ 1000000) :
    Calls Try.prog 24 #[v, .int .u64 n] w fun e w' => e = .returned (.bool (hasM l n)) ∧ Below w.heap.size w w' := by
  obtain ⟨⟨a, cap, rfl, h1, h2, h3⟩, hok⟩ := id hR
  have hlen : (l.length : Int) ≤ 1000000 := by omega
  unfold hasM
  cases hm : mayS l
  case false =>
    go_enter Try.func24, Try.ntmps24
    go_wp2_with fail
    refine (fmay_any _ l _ hR hl).mono ?_
    rw [hm]
    rintro e w2 ⟨rfl, hb⟩
    go_wp2_with fail
    go_ret
    exact ⟨rfl, hb⟩
  case true =>
    obtain ⟨R, HR⟩ : ∃ R, Hid (hasS l n = R) := ⟨_, rfl⟩
    rw [HR.out]
    go_enter Try.func24, Try.ntmps24
    go_wp2_with fail
    refine (fmay_any _ l _ hR hl).mono ?_
    rw [hm]
    rintro e w2 ⟨rfl, hb2⟩
    go_wp2_with fail
    go_loopg [5] l.length (fun gk t8 wr => ∃ k : Nat, k + gk = l.length ∧ t8 = .int .i64 k ∧ Hid (hasS (l.take k) n = false) ∧ Below w.heap.size w wr)
    case atStart => exact ⟨0, by omega, rfl, rfl, hb2⟩
    case round =>
      obtain ⟨k, hk, rfl, hI, hB⟩ := hrel
      by_cases hlt : (k : Int) < l.length
      · have hk' : k < l.length := by omega
        have k0 : (0 : Int) ≤ k := by omega
        rcases h3 with h3 | ⟨g, off, rfl, h3⟩
        · omega
        obtain ⟨c0, c1⟩ := (hR.below hB).at hk'
        have e1 := hasS_take_succ hk' hI.out
        have e2 := hasS_at (n := n) hk'
        clear h3 hm
        by_cases q1 : (el l k).f ≤ n
        · have z1 : decide ((el l k).f ≤ n) = true := decide_eq_true q1
          by_cases q2 : n ≤ (el l k).t
          · have z2 : decide (n ≤ (el l k).t) = true := decide_eq_true q2
            obtain rfl : R = true := HR.out.symm.trans (e2 (by rw [z1, z2]; rfl))
            clear e1 e2 hI
            generalize (el l k).f = f at *
            generalize (el l k).t = t at *
            go_wp2_with fail
            go_ret
            exact ⟨rfl, hB⟩
          · have z2 : decide (n ≤ (el l k).t) = false := decide_eq_false q2
            rw [z1, z2] at e1
            have e1 : Hid (hasS (l.take (k + 1)) n = false) := e1
            clear e2 hI
            generalize (el l k).f = f at *
            generalize (el l k).t = t at *
            go_wp2_with fail
            go_roundg (gk - 1)
            case rel => exact ⟨k + 1, by omega, by go_num, e1, hB⟩
            case measure => omega
        · have z1 : decide ((el l k).f ≤ n) = false := decide_eq_false q1
          rw [z1] at e1
          have e1 : Hid (hasS (l.take (k + 1)) n = false) := e1
          clear e2 hI
          generalize (el l k).f = f at *
          generalize (el l k).t = t at *
          go_wp2_with fail
          go_roundg (gk - 1)
          case rel => exact ⟨k + 1, by omega, by go_num, e1, hB⟩
          case measure => omega
      · have ek : l.length ≤ k := by omega
        have hI' := hI.out
        rw [List.take_of_length_le ek] at hI'
        obtain rfl : R = false := HR.out.symm.trans hI'
        clear hI hI'
        go_wp2_with fail
        go_ret
        exact ⟨rfl, hB⟩
end Go.Proofs.Ytlbeincgknmijaa
