/-
  The reference's List, Many, Both, Of.
-/
import Derived.Test.YtnhpkpodeojldaaBra
import Derived.Test.YtnhpkpodeojldaaLcl
namespace Go.Proofs.Ytnhpkpodeojldaa
open Go.RowKit

/-! ## List -/

/-- The nodes of b below i. -/
def lstTo (b i : Nat) : List Int := ((List.range i).filter (fun j => b.testBit j)).map (fun (j : Nat) => (j : Int))
theorem lstTo_succ (b i : Nat) : lstTo b (i + 1) = if b.testBit i then lstTo b i ++ [(i : Int)] else lstTo b i := by
  unfold lstTo
  rw [List.range_succ, List.filter_append, List.map_append]
  cases h : b.testBit i <;> simp [h]
theorem lstTo_le (b i : Nat) : (lstTo b i).length ≤ i := by
  have := List.length_filter_le (fun j => b.testBit j) (List.range i)
  simpa [lstTo] using this
theorem hasS_nat (b : Nat) {i : Nat} (hi : i < 64) : hasS b (i : Int) = b.testBit i := by
  have : nodeS (i : Int) = true := (nodeS_iff _).2 ⟨by omega, by omega⟩
  unfold hasS; rw [this]; simp

set_option maxHeartbeats 1000000 in
theorem rlist_any (b : Nat) (hb : b < lim) (w : World) :
    Calls Try.prog 10 #[.int .u64 b] w fun e w' => ∃ v, e = .returned v ∧ w'.ownsRow w.heap.size 3 1 v (lst b).length ((lst b).map (Value.int .i64)) ∧ Below w.heap.size w w' := by
  obtain ⟨i0, hi, hz0, hz1, hz2⟩ := info_parts Try.infoInt
  go_enter Try.func10, Try.ntmps10
  go_wp2_with fail
  go_loopg [3, 4] 64 (fun gk t3 t4 wr => ∃ i : Nat, i + gk = 64 ∧ t4 = .int .i64 i ∧ wr.ownsRow w.heap.size 3 1 t3 (lstTo b i).length ((lstTo b i).map (Value.int .i64)) ∧ Below w.heap.size w wr)
  case atStart => exact ⟨0, by omega, rfl, World.ownsRow_made w #[] 0 (Nat.le_refl _) (Nat.zero_le _) rfl, (Below.refl _ _).alloc (Nat.le_refl _) _⟩
  case round =>
    obtain ⟨i, hg, rfl, hrow, hB⟩ := hrel
    by_cases hlt : (i : Int) < 64
    · have hs := lstTo_succ b i
      have hle := lstTo_le b i
      have hh := hasS_nat b (i := i) (by omega)
      have hcall := rhas_any b hb (i : Int) wr
      rw [hh] at hcall
      cases ht : b.testBit i
      · rw [ht] at hs hcall
        simp only [Bool.false_eq_true, if_false] at hs
        go_wp2_with fail
        refine hcall.mono ?_
        rintro e w1 ⟨rfl, hw1⟩
        subst hw1
        go_wp2_with fail
        go_roundg (gk - 1)
        case rel => exact ⟨i + 1, by omega, by go_num, by rw [hs]; exact hrow, hB⟩
        case measure => omega
      · rw [ht] at hs hcall
        simp only [if_true] at hs
        go_wp2_with fail
        refine hcall.mono ?_
        rintro e w1 ⟨rfl, hw1⟩
        subst hw1
        go_wp2_with (at_builtin; refine wpList_append_own _ rfl _ _ 26 rfl w.heap.size 3 i0 (.int .i64 0) 1 8 Try.underlying26 hi hz0 hz1 hz2 rfl (by decide) _ _ _ rfl (hrow.alloc _) ⟨w1.heap.size, 0, none⟩ 1 1 [.int .i64 (i : Int)] rfl rfl (cell_one_new _ _ _) (by simp [Value.oneCell']) (by unfold maxLen; omega) (by omega) (by have := hB.size; simp; omega) ?_; intro v' w2 hown' hgrow _)
        go_roundg (gk - 1)
        case rel =>
          refine ⟨i + 1, by omega, by go_num, ?_, ?_⟩
          · rw [hs]; simpa using hown'
          · refine (hB.alloc hB.size _).grown hgrow (by have := hB.size; simp; omega) (fun k hk => ?_)
            exact (hrow.lt k hk).1
        case measure => omega
    · obtain rfl : i = 64 := by omega
      go_wp2_with fail
      go_ret
      exact ⟨_, rfl, hrow, hB⟩

set_option maxHeartbeats 1000000 in
theorem rmany_any (b : Nat) (hb : b < lim) (w : World) :
    Calls Try.prog 24 #[.int .u64 b] w fun e w' => e = .returned (.int .i64 (manyS b)) ∧ Below w.heap.size w w' := by
  have hl := lst_length b
  go_enter Try.func24, Try.ntmps24
  go_wp2_with fail
  refine (rlist_any b hb w).mono ?_
  rintro e w1 ⟨v, rfl, hown, hB⟩
  obtain ⟨a, cap, rfl, _⟩ := Rd.of hown
  rw [hl]
  go_wp2_with fail
  go_ret
  exact ⟨rfl, hB⟩

set_option maxHeartbeats 1000000 in
theorem both_any (a b : Nat) (ha : a < lim) (hb : b < lim) (w : World) :
    Calls Try.prog 25 #[.int .u64 a, .int .u64 b] w fun e w' => e = .returned (.int .u64 ((a &&& b : Nat) : Int)) ∧ w' = w := by
  go_enter Try.func25, Try.ntmps25
  go_wp2_with fail
  go_loopg [5, 6] 64 (fun gk t5 t6 wr => ∃ i c : Nat, i + gk = 64 ∧ t6 = .int .i64 i ∧ t5 = .int .u64 c ∧ c < lim ∧ (∀ j, c.testBit j = (decide (j < i) && (a.testBit j && b.testBit j))) ∧ wr = w)
  case atStart => exact ⟨0, 0, by omega, rfl, rfl, by decide, by simp, rfl⟩
  case round =>
    obtain ⟨i, c, hi, rfl, rfl, hc, hbits, rfl⟩ := hrel
    by_cases hlt : (i : Int) < 64
    · have h1 := rhas_any a ha (i : Int) wr
      have h2 := rhas_any b hb (i : Int) wr
      have hn : nodeS (i : Int) = true := (nodeS_iff _).2 ⟨by omega, by omega⟩
      rw [hasS_nat _ (by omega)] at h1 h2
      have step0 : (a.testBit i && b.testBit i) = false → ∀ j, c.testBit j = (decide (j < i + 1) && (a.testBit j && b.testBit j)) := by
        intro h j
        rw [hbits j]
        by_cases hj : j = i
        · subst hj; rw [h]; simp
        · have : (j < i + 1) = (j < i) := by apply propext; omega
          simp [this]
      have step1 : (a.testBit i && b.testBit i) = true → ∀ j, (withS c (i : Int)).testBit j = (decide (j < i + 1) && (a.testBit j && b.testBit j)) := by
        intro h j
        rw [testBit_withS, hn, hbits j]
        by_cases hj : j = i
        · subst hj; rw [h]; simp
        · have : (j < i + 1) = (j < i) := by apply propext; omega
          have h3 : ¬ (i = j) := fun e => hj e.symm
          simp [this, h3]
      cases t1 : a.testBit i
      · rw [t1] at h1 step0
        go_wp2_with fail
        refine h1.mono ?_
        rintro e w1 ⟨rfl, hw1⟩
        subst hw1
        go_wp2_with fail
        go_roundg (gk - 1)
        case rel => exact ⟨i + 1, c, by omega, by go_num, rfl, hc, step0 rfl, rfl⟩
        case measure => omega
      · cases t2 : b.testBit i
        · rw [t1] at h1 step0
          rw [t2] at h2 step0
          go_wp2_with fail
          refine h1.mono ?_
          rintro e w1 ⟨rfl, hw1⟩
          subst hw1
          go_wp2_with fail
          refine h2.mono ?_
          rintro e w1 ⟨rfl, hw1⟩
          subst hw1
          go_wp2_with fail
          go_roundg (gk - 1)
          case rel => exact ⟨i + 1, c, by omega, by go_num, rfl, hc, step0 rfl, rfl⟩
          case measure => omega
        · rw [t1] at h1 step1
          rw [t2] at h2 step1
          have h3 := rwith_any c hc (i : Int) wr
          have hwl := withS_lt hc (i : Int)
          generalize withS c (i : Int) = d at h3 hwl step1
          go_wp2_with fail
          refine h1.mono ?_
          rintro e w1 ⟨rfl, hw1⟩
          subst hw1
          go_wp2_with fail
          refine h2.mono ?_
          rintro e w1 ⟨rfl, hw1⟩
          subst hw1
          go_wp2_with fail
          refine h3.mono ?_
          rintro e w1 ⟨rfl, hw1⟩
          subst hw1
          go_wp2_with fail
          go_roundg (gk - 1)
          case rel => exact ⟨i + 1, d, by omega, by go_num, rfl, hwl, step1 rfl, rfl⟩
          case measure => omega
    · obtain rfl : i = 64 := by omega
      have e : c = a &&& b := eq_of_bits hc (and_lt ha) fun j hj => by rw [hbits j, Nat.testBit_and]; simp [hj]
      subst e
      go_wp2_with fail
      go_ret
      exact ⟨rfl, rfl⟩

theorem ofS_take {l : List Int} {i : Nat} (hi : i < l.length) : ofS (l.take (i + 1)) = withS (ofS (l.take i)) l[i] := by
  unfold ofS
  rw [← List.take_append_getElem hi, List.foldl_append]
  rfl

set_option maxHeartbeats 1000000 in
theorem rof_any (v : Value) (l : List Int) (w : World) (hlen : l.length ≤ 1000000) (hR : Rd .i64 v l w) :
    Calls Try.prog 22 #[v] w fun e w' => e = .returned (.int .u64 (ofS l)) ∧ w' = w := by
  obtain ⟨a, cap, rfl, _, _, _, hl⟩ := hR
  go_enter Try.func22, Try.ntmps22
  go_wp2_with fail
  go_loopg [3, 4] l.length (fun gk t3 t4 wr => ∃ i : Nat, i + gk = l.length ∧ t4 = .int .i64 i ∧ t3 = .int .u64 (ofS (l.take i)) ∧ wr = w)
  case atStart => exact ⟨0, by omega, rfl, by rw [List.take_zero]; rfl, rfl⟩
  case round =>
    obtain ⟨i, hi, rfl, rfl, rfl⟩ := hrel
    have hlt' := ofS_lt (l.take i)
    by_cases hlt : (i : Int) < l.length
    · have hil : i < l.length := by omega
      have hs := ofS_take hil
      rcases hl with hl | ⟨g, o, rfl, hl⟩
      · omega
      have c := hl i hil
      clear hl
      generalize l[i] = x at c hs
      have hw := rwith_any (ofS (l.take i)) hlt' x wr
      rw [← hs] at hw
      clear hs
      generalize ofS (l.take i) = c0 at *
      generalize hc1 : ofS (l.take (i + 1)) = c1 at *
      go_wp2_with fail
      refine hw.mono ?_
      rintro e w1 ⟨rfl, hw1⟩
      subst hw1
      go_wp2_with fail
      go_roundg (gk - 1)
      case rel => exact ⟨i + 1, by omega, by go_num, by rw [hc1], rfl⟩
      case measure => omega
    · obtain rfl : i = l.length := by omega
      rw [List.take_length]
      go_wp2_with fail
      go_ret
      exact ⟨rfl, rfl⟩

end Go.Proofs.Ytnhpkpodeojldaa
