/-
  The reference's List, Many, First, Next, Place, Both, Major, Of; band's Of; Same and shown.
-/
import Derived.Test.YtclhmocdeiebbaaDoorLst
namespace Go.Proofs.YtclhmocdeiebbaaDoor
open Go.RowKit

/-- The slice v reads as the numbers l. -/
def Rd (v : Value) (l : List Int) (w : World) : Prop :=
  ∃ a cap, v = .slice a l.length cap ∧ (l.length = 0 ∨ ∃ g off, a = some ⟨g, off, none⟩ ∧ ∀ j (hj : j < l.length), w.cell? ⟨g, off + j, none⟩ = some (.int .i64 l[j]))
theorem Rd.keep {v : Value} {l : List Int} {w w' : World} (h : Rd v l w) (hw : ∀ g, g < w.heap.size → w'.heap[g]? = w.heap[g]?) : Rd v l w' := by
  obtain ⟨a, cap, rfl, h3⟩ := h
  refine ⟨a, cap, rfl, ?_⟩
  rcases h3 with h3 | ⟨g, off, rfl, h3⟩
  · exact Or.inl h3
  · refine Or.inr ⟨g, off, rfl, fun j hj => ?_⟩
    have hc := h3 j hj
    have hlt : g < w.heap.size := World.block_lt_of_cell? _ _ hc
    rw [← hc]
    exact World.cell?_of_block (w := w) (hw g hlt)
theorem Rd.below {v : Value} {l : List Int} {w w' : World} (h : Rd v l w) (hb : Below w.heap.size w w') : Rd v l w' := h.keep fun g hg => hb.block g hg
theorem Rd.of_row {B : Nat} {v : Value} {l : List Int} {w : World} (h : w.ownsRow B 3 1 v l.length (l.map (Value.int .i64))) : Rd v l w := by
  rcases h.2 with ⟨hv, hn⟩ | ⟨g, cap, cur, hv, hg, hh, h1, h2, h3, h4⟩
  · exact ⟨none, 0, by rw [hv, hn], Or.inl hn⟩
  · refine ⟨_, cap, hv, Or.inr ⟨g, 0, rfl, fun j hj => ?_⟩⟩
    have := World.ownsRow.cells h (g := g) (by rw [hv]; rfl) j (.int .i64 l[j]) (by simp [List.getElem?_eq_getElem hj])
    rw [← this]
    unfold Addr.add; split <;> simp_all
theorem Rd.lit (l : List Int) (w : World) : Rd (.slice (some ⟨w.heap.size, 0, none⟩) l.length l.length) l (w.alloc (.cells (l.map (Value.int .i64)).toArray 3)) := by
  refine ⟨_, _, rfl, Or.inr ⟨_, 0, rfl, fun j hj => ?_⟩⟩
  have : (w.alloc (.cells (l.map (Value.int .i64)).toArray 3)).heap[w.heap.size]? = some (.cells (l.map (Value.int .i64)).toArray 3 (0, 0)) := heap_alloc_new w _
  unfold World.cell?
  rw [this]
  simp [hj]

/-! ## List -/

/-- The nodes of b below i. -/
def lstTo (b i : Nat) : List Int := ((List.range i).filter (fun j => b.testBit j)).map (fun (j : Nat) => (j : Int))
theorem lstTo_succ (b i : Nat) : lstTo b (i + 1) = if b.testBit i then lstTo b i ++ [(i : Int)] else lstTo b i := by
  unfold lstTo
  rw [List.range_succ, List.filter_append, List.map_append]
  cases h : b.testBit i <;> simp [h]
theorem lstTo_le (b i : Nat) : (lstTo b i).length ≤ i := by
  have := List.length_filter_le (fun j => b.testBit j) (List.range i)
  simpa [lstTo] using this
theorem hasS_nat (b : Nat) {i : Nat} (hi : i < 64) : hasS b (i : Int) = b.testBit i := by
  have : nodeS (i : Int) = true := (nodeS_iff _).2 ⟨by omega, by omega⟩
  unfold hasS; rw [this]; simp

set_option maxHeartbeats 1000000 in
theorem rlist_any (b : Nat) (hb : b < lim) (w : World) :
    Calls Tryd.prog 19 #[.int .u64 b] w fun e w' => ∃ v, e = .returned v ∧ Rd v (lst b) w' ∧ Below w.heap.size w w' := by
  obtain ⟨i0, hi, hz0, hz1, hz2⟩ := info_parts Tryd.info3
  go_enter Tryd.func19, Tryd.ntmps19
  go_wp2_with fail
  go_loopg [3, 4] 64 (fun gk t3 t4 wr => ∃ i : Nat, i + gk = 64 ∧ t4 = .int .i64 i ∧ wr.ownsRow w.heap.size 3 1 t3 (lstTo b i).length ((lstTo b i).map (Value.int .i64)) ∧ Below w.heap.size w wr)
  case atStart => exact ⟨0, by omega, rfl, World.ownsRow_made w #[] 0 (Nat.le_refl _) (Nat.zero_le _) rfl, (Below.refl _ _).alloc (Nat.le_refl _) _⟩
  case round =>
    obtain ⟨i, hg, rfl, hrow, hB⟩ := hrel
    by_cases hlt : (i : Int) < 64
    · have hs := lstTo_succ b i
      have hle := lstTo_le b i
      have hh := hasS_nat b (i := i) (by omega)
      have hcall := rhas_any b hb (i : Int) wr
      rw [hh] at hcall
      cases ht : b.testBit i
      · rw [ht] at hs hcall
        simp only [Bool.false_eq_true, if_false] at hs
        go_wp2_with fail
        refine hcall.mono ?_
        rintro e w1 ⟨rfl, hw1⟩
        subst hw1
        go_wp2_with fail
        go_roundg (gk - 1)
        case rel => exact ⟨i + 1, by omega, by go_num, by rw [hs]; exact hrow, hB⟩
        case measure => omega
      · rw [ht] at hs hcall
        simp only [if_true] at hs
        go_wp2_with fail
        refine hcall.mono ?_
        rintro e w1 ⟨rfl, hw1⟩
        subst hw1
        go_wp2_with (at_builtin; refine wpList_append_own _ rfl _ _ 23 rfl w.heap.size 3 i0 (.int .i64 0) 1 8 Tryd.underlying23 hi hz0 hz1 hz2 rfl (by decide) _ _ _ rfl (hrow.alloc _) ⟨w1.heap.size, 0, none⟩ 1 1 [.int .i64 (i : Int)] rfl rfl (cell_one_new _ _ _) (by simp [Value.oneCell']) (by unfold maxLen; omega) (by omega) (by have := hB.size; simp; omega) ?_; intro v' w2 hown' hgrow _)
        go_roundg (gk - 1)
        case rel =>
          refine ⟨i + 1, by omega, by go_num, ?_, ?_⟩
          · rw [hs]; simpa using hown'
          · refine (hB.alloc hB.size _).grown hgrow (by have := hB.size; simp; omega) (fun k hk => ?_)
            exact (hrow.lt k hk).1
        case measure => omega
    · obtain rfl : i = 64 := by omega
      go_wp2_with fail
      go_ret
      exact ⟨_, rfl, Rd.of_row hrow, hB⟩

set_option maxHeartbeats 1000000 in
theorem rmany_any (b : Nat) (hb : b < lim) (w : World) :
    Calls Tryd.prog 27 #[.int .u64 b] w fun e w' => e = .returned (.int .i64 (manyS b)) ∧ Below w.heap.size w w' := by
  have hl := lst_length b
  go_enter Tryd.func27, Tryd.ntmps27
  go_wp2_with fail
  refine (rlist_any b hb w).mono ?_
  rintro e w1 ⟨v, rfl, ⟨a, cap, rfl, _⟩, hB⟩
  rw [hl]
  go_wp2_with fail
  go_ret
  exact ⟨rfl, hB⟩

set_option maxHeartbeats 1000000 in
theorem rfirst_any (b : Nat) (hb : b < lim) (w : World) :
    Calls Tryd.prog 12 #[.int .u64 b] w fun e w' => e = .returned (.tuple #[.int .i64 (firstS b).1, .bool (firstS b).2]) ∧ Below w.heap.size w w' := by
  have hc := rlist_any b hb w
  unfold firstS
  cases h : lst b with
  | nil =>
    rw [h] at hc
    go_enter Tryd.func12, Tryd.ntmps12
    go_wp2_with fail
    refine hc.mono ?_
    rintro e w1 ⟨v, rfl, ⟨a, cap, rfl, _⟩, hB⟩
    simp only [List.length_nil]
    go_wp2_with fail
    go_ret2
    exact ⟨rfl, hB⟩
  | cons x r =>
    rw [h] at hc
    go_enter Tryd.func12, Tryd.ntmps12
    go_wp2_with fail
    refine hc.mono ?_
    rintro e w1 ⟨v, rfl, ⟨a, cap, rfl, hl⟩, hB⟩
    rcases hl with hl | ⟨g, off, rfl, hl⟩
    · cases hl
    have c0 := hl 0 (by simp)
    simp only [Nat.add_zero, List.getElem_cons_zero] at c0
    clear hl
    have hp : (0 : Int) < ((x :: r).length : Int) := by simp
    have hq : (((x :: r).length : Int) == 0) = false := by simp; omega
    generalize (x :: r).length = m at *
    go_wp2_with fail
    go_ret2
    exact ⟨rfl, hB⟩

/-! ## Next, Place -/

theorem take_all {P : Int → Prop} {l : List Int} {i : Nat} (hi : i < l.length) (h : ∀ x ∈ l.take i, P x) (hx : P l[i]) : ∀ x ∈ l.take (i + 1), P x := by
  rw [← List.take_append_getElem hi]
  exact all_snoc h hx
theorem take_pre {l : List Int} {i : Nat} (hi : i < l.length) : l.take i ++ [l[i]] <+: l := by
  rw [List.take_append_getElem hi]
  exact List.take_prefix _ _

set_option maxHeartbeats 1000000 in
theorem rnext_any (b : Nat) (hb : b < lim) (n : Int) (w : World) :
    Calls Tryd.prog 14 #[.int .u64 b, .int .i64 n] w fun e w' => e = .returned (.tuple #[.int .i64 (nextS b n).1, .bool (nextS b n).2]) ∧ Below w.heap.size w w' := by
  have hlen : (lst b).length ≤ 64 := by rw [lst_length]; exact many_le b
  have hnone := fun h => nextS_none (b := b) (n := n) h
  have hpre := fun (i : Nat) (hi : i < (lst b).length) h hx => nextS_pre (b := b) (n := n) (pre := (lst b).take i) h hx (take_pre hi)
  go_enter Tryd.func14, Tryd.ntmps14
  go_wp2_with fail
  refine (rlist_any b hb w).mono ?_
  rintro e w1 ⟨v, rfl, hR, hB⟩
  obtain ⟨a, cap, rfl, hl⟩ := hR
  generalize lst b = l at *
  go_wp2_with fail
  go_loopg [7] l.length (fun gk t7 wr => ∃ i : Nat, i + gk = l.length ∧ t7 = .int .i64 i ∧ (∀ x ∈ l.take i, x ≤ n) ∧ wr = w1)
  case atStart => exact ⟨0, by omega, rfl, by simp, rfl⟩
  case round =>
    obtain ⟨i, hi, rfl, hall, rfl⟩ := hrel
    by_cases hlt : (i : Int) < l.length
    · have hil : i < l.length := by omega
      rcases hl with hl | ⟨g, o, rfl, hl⟩
      · omega
      have c := hl i hil
      have hp := hpre i hil hall
      have ht := take_all (P := fun x => x ≤ n) hil hall
      clear hl
      generalize l[i] = x at c hp ht
      by_cases hx : n < x
      · have hp := hp hx
        go_wp2_with fail
        go_ret2
        refine ⟨?_, hB⟩
        rw [hp]; rfl
      · go_wp2_with fail
        go_roundg (gk - 1)
        case rel => exact ⟨i + 1, by omega, by go_num, ht (by omega), rfl⟩
        case measure => omega
    · obtain rfl : i = l.length := by omega
      rw [List.take_length] at hall
      have hn := hnone hall
      go_wp2_with fail
      refine (rfirst_any b hb _).mono ?_
      rintro e w2 ⟨rfl, hB2⟩
      go_wp2_with fail
      go_ret2
      refine ⟨?_, hB.trans (hB2.mono hB.size)⟩
      rw [hn]; rfl

set_option maxHeartbeats 1000000 in
theorem rplace_any (b : Nat) (hb : b < lim) (n : Int) (w : World) :
    Calls Tryd.prog 31 #[.int .u64 b, .int .i64 n] w fun e w' => e = .returned (.int .i64 (placeS b n)) ∧ Below w.heap.size w w' := by
  have hlen : (lst b).length ≤ 64 := by rw [lst_length]; exact many_le b
  unfold placeS
  go_enter Tryd.func31, Tryd.ntmps31
  go_wp2_with fail
  refine (rlist_any b hb w).mono ?_
  rintro e w1 ⟨v, rfl, hR, hB⟩
  obtain ⟨a, cap, rfl, hl⟩ := hR
  generalize hlst : lst b = l at *
  go_wp2_with fail
  go_loopg [6, 7] l.length (fun gk t6 t7 wr => ∃ i k : Nat, i + gk = l.length ∧ t7 = .int .i64 i ∧ t6 = .int .i64 k ∧ ((l.take i).filter (fun k => decide (k < n))).length = k ∧ k ≤ i ∧ wr = w1)
  case atStart => exact ⟨0, 0, by omega, rfl, rfl, by simp, Nat.le_refl _, rfl⟩
  case round =>
    obtain ⟨i, k, hi, rfl, rfl, hk, hki, rfl⟩ := hrel
    by_cases hlt : (i : Int) < l.length
    · have hil : i < l.length := by omega
      rcases hl with hl | ⟨g, o, rfl, hl⟩
      · omega
      have c := hl i hil
      have hs : ((l.take (i + 1)).filter (fun k => decide (k < n))).length = k + if l[i] < n then 1 else 0 := by
        rw [← List.take_append_getElem hil, List.filter_append, List.length_append, hk]
        by_cases h : l[i] < n <;> simp [h]
      clear hl
      generalize l[i] = x at c hs
      by_cases hx : x < n
      · rw [if_pos hx] at hs
        go_wp2_with fail
        go_roundg (gk - 1)
        case rel => exact ⟨i + 1, k + 1, by omega, by go_num, by go_num, hs, by omega, rfl⟩
        case measure => omega
      · rw [if_neg hx] at hs
        go_wp2_with fail
        go_roundg (gk - 1)
        case rel => exact ⟨i + 1, k, by omega, by go_num, rfl, hs, by omega, rfl⟩
        case measure => omega
    · obtain rfl : i = l.length := by omega
      rw [List.take_length] at hk
      go_wp2_with fail
      go_ret
      exact ⟨rfl, hB⟩

/-! ## Both, Major -/

set_option maxHeartbeats 1000000 in
theorem both_any (a b : Nat) (ha : a < lim) (hb : b < lim) (w : World) :
    Calls Tryd.prog 32 #[.int .u64 a, .int .u64 b] w fun e w' => e = .returned (.int .u64 ((a &&& b : Nat) : Int)) ∧ w' = w := by
  go_enter Tryd.func32, Tryd.ntmps32
  go_wp2_with fail
  go_loopg [5, 6] 64 (fun gk t5 t6 wr => ∃ i c : Nat, i + gk = 64 ∧ t6 = .int .i64 i ∧ t5 = .int .u64 c ∧ c < lim ∧ (∀ j, c.testBit j = (decide (j < i) && (a.testBit j && b.testBit j))) ∧ wr = w)
  case atStart => exact ⟨0, 0, by omega, rfl, rfl, by decide, by simp, rfl⟩
  case round =>
    obtain ⟨i, c, hi, rfl, rfl, hc, hbits, rfl⟩ := hrel
    by_cases hlt : (i : Int) < 64
    · have h1 := rhas_any a ha (i : Int) wr
      have h2 := rhas_any b hb (i : Int) wr
      have hn : nodeS (i : Int) = true := (nodeS_iff _).2 ⟨by omega, by omega⟩
      rw [hasS_nat _ (by omega)] at h1 h2
      have step0 : (a.testBit i && b.testBit i) = false → ∀ j, c.testBit j = (decide (j < i + 1) && (a.testBit j && b.testBit j)) := by
        intro h j
        rw [hbits j]
        by_cases hj : j = i
        · subst hj; rw [h]; simp
        · have : (j < i + 1) = (j < i) := by apply propext; omega
          simp [this]
      have step1 : (a.testBit i && b.testBit i) = true → ∀ j, (withS c (i : Int)).testBit j = (decide (j < i + 1) && (a.testBit j && b.testBit j)) := by
        intro h j
        rw [testBit_withS, hn, hbits j]
        by_cases hj : j = i
        · subst hj; rw [h]; simp
        · have : (j < i + 1) = (j < i) := by apply propext; omega
          have h3 : ¬ (i = j) := fun e => hj e.symm
          simp [this, h3]
      cases t1 : a.testBit i
      · rw [t1] at h1 step0
        go_wp2_with fail
        refine h1.mono ?_
        rintro e w1 ⟨rfl, hw1⟩
        subst hw1
        go_wp2_with fail
        go_roundg (gk - 1)
        case rel => exact ⟨i + 1, c, by omega, by go_num, rfl, hc, step0 rfl, rfl⟩
        case measure => omega
      · cases t2 : b.testBit i
        · rw [t1] at h1 step0
          rw [t2] at h2 step0
          go_wp2_with fail
          refine h1.mono ?_
          rintro e w1 ⟨rfl, hw1⟩
          subst hw1
          go_wp2_with fail
          refine h2.mono ?_
          rintro e w1 ⟨rfl, hw1⟩
          subst hw1
          go_wp2_with fail
          go_roundg (gk - 1)
          case rel => exact ⟨i + 1, c, by omega, by go_num, rfl, hc, step0 rfl, rfl⟩
          case measure => omega
        · rw [t1] at h1 step1
          rw [t2] at h2 step1
          have h3 := rwith_any c hc (i : Int) wr
          have hwl := withS_lt hc (i : Int)
          generalize withS c (i : Int) = d at h3 hwl step1
          go_wp2_with fail
          refine h1.mono ?_
          rintro e w1 ⟨rfl, hw1⟩
          subst hw1
          go_wp2_with fail
          refine h2.mono ?_
          rintro e w1 ⟨rfl, hw1⟩
          subst hw1
          go_wp2_with fail
          refine h3.mono ?_
          rintro e w1 ⟨rfl, hw1⟩
          subst hw1
          go_wp2_with fail
          go_roundg (gk - 1)
          case rel => exact ⟨i + 1, d, by omega, by go_num, rfl, hwl, step1 rfl, rfl⟩
          case measure => omega
    · obtain rfl : i = 64 := by omega
      have e : c = a &&& b := eq_of_bits hc (and_lt ha) fun j hj => by rw [hbits j, Nat.testBit_and]; simp [hj]
      subst e
      go_wp2_with fail
      go_ret
      exact ⟨rfl, rfl⟩

set_option maxHeartbeats 1000000 in
theorem rmajor_any (b o : Nat) (hb : b < lim) (ho : o < lim) (w : World) : Calls Tryd.prog 29 #[.int .u64 b, .int .u64 o] w fun e w' => e = .returned (.bool (majorS b o)) ∧ Below w.heap.size w w' := by
  have l1 := many_le (b &&& o)
  have l2 := many_le o
  have hab := and_lt (b := o) hb
  have hbo := both_any b o hb ho w
  unfold majorS
  generalize hc : b &&& o = c at *
  have l3 : wrap64 (2 * (manyS c : Int)) = 2 * (manyS c : Int) := by unfold wrap64; omega
  go_enter Tryd.func29, Tryd.ntmps29
  go_wp2_with fail
  refine hbo.mono ?_
  rintro e w1 ⟨rfl, hw1⟩
  subst hw1
  go_wp2_with fail
  refine (rmany_any c hab _).mono ?_
  rintro e w2 ⟨rfl, hB2⟩
  go_wp2_with fail
  refine (rmany_any o ho _).mono ?_
  rintro e w3 ⟨rfl, hB3⟩
  go_wp2_with fail
  go_ret
  refine ⟨congrArg Ending.returned (congrArg Value.bool ?_), hB2.trans (hB3.mono hB2.size)⟩
  simp only [decide_eq_decide]
  omega

/-! ## Of -/

theorem ofS_take {l : List Int} {i : Nat} (hi : i < l.length) : ofS (l.take (i + 1)) = withS (ofS (l.take i)) l[i] := by
  unfold ofS
  rw [← List.take_append_getElem hi, List.foldl_append]
  rfl

set_option maxHeartbeats 1000000 in
theorem of_any (v : Value) (l : List Int) (w : World) (hlen : l.length ≤ 1000000) (hR : Rd v l w) :
    Calls Tryd.prog 15 #[v] w fun e w' => e = .returned (.int .u64 (ofS l)) ∧ w' = w := by
  obtain ⟨a, cap, rfl, hl⟩ := hR
  go_enter Tryd.func15, Tryd.ntmps15
  go_wp2_with fail
  go_loopg [3, 8] l.length (fun gk t3 t8 wr => ∃ i : Nat, i + gk = l.length ∧ t8 = .int .i64 i ∧ t3 = .int .u64 (ofS (l.take i)) ∧ wr = w)
  case atStart => exact ⟨0, by omega, rfl, by rw [List.take_zero]; rfl, rfl⟩
  case round =>
    obtain ⟨i, hi, rfl, rfl, rfl⟩ := hrel
    have hlt' := ofS_lt (l.take i)
    by_cases hlt : (i : Int) < l.length
    · have hil : i < l.length := by omega
      have hs := ofS_take hil
      rcases hl with hl | ⟨g, o, rfl, hl⟩
      · omega
      have c := hl i hil
      clear hl
      generalize l[i] = x at c hs
      have hw := with_any (ofS (l.take i)) hlt' x wr
      rw [← hs] at hw
      clear hs
      generalize ofS (l.take i) = c0 at *
      generalize hc1 : ofS (l.take (i + 1)) = c1 at *
      go_wp2_with fail
      refine hw.mono ?_
      rintro e w1 ⟨rfl, hw1⟩
      subst hw1
      go_wp2_with fail
      go_roundg (gk - 1)
      case rel => exact ⟨i + 1, by omega, by go_num, by rw [hc1], rfl⟩
      case measure => omega
    · obtain rfl : i = l.length := by omega
      rw [List.take_length]
      go_wp2_with fail
      go_ret
      exact ⟨rfl, rfl⟩

set_option maxHeartbeats 1000000 in
theorem rof_any (v : Value) (l : List Int) (w : World) (hlen : l.length ≤ 1000000) (hR : Rd v l w) :
    Calls Tryd.prog 16 #[v] w fun e w' => e = .returned (.int .u64 (ofS l)) ∧ w' = w := by
  obtain ⟨a, cap, rfl, hl⟩ := hR
  go_enter Tryd.func16, Tryd.ntmps16
  go_wp2_with fail
  go_loopg [3, 4] l.length (fun gk t3 t4 wr => ∃ i : Nat, i + gk = l.length ∧ t4 = .int .i64 i ∧ t3 = .int .u64 (ofS (l.take i)) ∧ wr = w)
  case atStart => exact ⟨0, by omega, rfl, by rw [List.take_zero]; rfl, rfl⟩
  case round =>
    obtain ⟨i, hi, rfl, rfl, rfl⟩ := hrel
    have hlt' := ofS_lt (l.take i)
    by_cases hlt : (i : Int) < l.length
    · have hil : i < l.length := by omega
      have hs := ofS_take hil
      rcases hl with hl | ⟨g, o, rfl, hl⟩
      · omega
      have c := hl i hil
      clear hl
      generalize l[i] = x at c hs
      have hw := rwith_any (ofS (l.take i)) hlt' x wr
      rw [← hs] at hw
      clear hs
      generalize ofS (l.take i) = c0 at *
      generalize hc1 : ofS (l.take (i + 1)) = c1 at *
      go_wp2_with fail
      refine hw.mono ?_
      rintro e w1 ⟨rfl, hw1⟩
      subst hw1
      go_wp2_with fail
      go_roundg (gk - 1)
      case rel => exact ⟨i + 1, by omega, by go_num, by rw [hc1], rfl⟩
      case measure => omega
    · obtain rfl : i = l.length := by omega
      rw [List.take_length]
      go_wp2_with fail
      go_ret
      exact ⟨rfl, rfl⟩

/-! ## Same, shown -/

set_option maxHeartbeats 1000000 in
theorem same_any (v u : Value) (l : List Int) (w : World) (hlen : l.length ≤ 1000000) (h1 : Rd v l w) (h2 : Rd u l w) :
    Calls Tryd.prog 17 #[v, u] w fun e w' => e = .returned (.bool true) ∧ Below w.heap.size w w' := by
  obtain ⟨a1, cap1, rfl, k1⟩ := h1
  obtain ⟨a2, cap2, rfl, k2⟩ := h2
  go_enter Tryd.func17, Tryd.ntmps17
  go_wp2_with fail
  go_loopg [5] l.length (fun gk t5 wr => ∃ i : Nat, i + gk = l.length ∧ t5 = .int .i64 i ∧ Below w.heap.size w wr)
  case atStart => exact ⟨0, by omega, rfl, Below.refl _ _⟩
  case round =>
    obtain ⟨i, hi, rfl, hB⟩ := hrel
    by_cases hlt : (i : Int) < l.length
    · have i0 : (0 : Int) ≤ i := by omega
      have hil : i < l.length := by omega
      rcases k1 with k1 | ⟨g1, o1, rfl, k1⟩
      · omega
      rcases k2 with k2 | ⟨g2, o2, rfl, k2⟩
      · omega
      have c1 := k1 i hil
      have c2 := k2 i hil
      have e1 := World.block_lt_of_cell? _ _ c1
      have e2 := World.block_lt_of_cell? _ _ c2
      rw [← World.cell?_of_block (w := w) (w' := wr) (hB.block g1 e1)] at c1
      rw [← World.cell?_of_block (w := w) (w' := wr) (hB.block g2 e2)] at c2
      clear k1 k2
      generalize l[i] = x at c1 c2
      go_wp2_with fail
      go_quiet (fail)
      go_wp2_with fail
      go_roundg (gk - 1)
      case rel => exact ⟨i + 1, by omega, by go_num, ⟨hB.os, hB.tape, hB.output, hB.size, hB.block⟩⟩
      case measure => omega
    · go_wp2_with fail
      go_ret
      exact ⟨rfl, hB⟩

theorem list_rd (b : Nat) (hb : b < lim) (w : World) (hT : Tab w) :
    Calls Tryd.prog 18 #[.int .u64 b] w fun e w' => ∃ v, e = .returned v ∧ Rd v (lst b) w' ∧ Below w.heap.size w w' :=
  (list_any b hb w hT).mono fun _ _ ⟨v, he, h1, h2⟩ => ⟨v, he, Rd.of_row h1, h2⟩

theorem lst5 : lst 5 = [0, 2] := by decide
theorem of5 : ofS [0, 2] = 5 := by decide
theorem has5 : hasS 5 2 = true := by decide

set_option maxHeartbeats 1000000 in
theorem shown_any (w : World) (hT : Tab w) : Calls Tryd.prog 10 #[] w fun e w' => e = .returned (.bool true) ∧ Below w.heap.size w w' := by
  go_enter Tryd.func10, Tryd.ntmps10
  go_wp2_with fail
  have hl := list_rd 5 (by decide) w hT
  rw [lst5] at hl
  refine hl.mono ?_
  rintro e w1 ⟨v, rfl, hR, hB1⟩
  go_wp2_with fail
  refine (same_any _ _ [0, 2] _ (by decide) (hR.below ((Below.refl _ _).alloc (Nat.le_refl _) _)) (Rd.lit [0, 2] w1)).mono ?_
  rintro e w2 ⟨rfl, hB2⟩
  go_wp2_with fail
  have ho := of_any _ [0, 2] _ (by decide) (Rd.lit [0, 2] w2)
  rw [of5] at ho
  refine ho.mono ?_
  rintro e w3 ⟨rfl, rfl⟩
  go_wp2_with fail
  have hh := has_any 5 (by decide) 2 (w2.alloc (.cells ([0, 2].map (Value.int .i64)).toArray 3))
  rw [has5] at hh
  refine hh.mono ?_
  rintro e w3 ⟨rfl, rfl⟩
  go_wp2_with fail
  go_ret
  refine ⟨rfl, ?_⟩
  have s1 := hB1.size
  have s2 := hB2.size
  simp at s2
  exact ((hB1.alloc s1 _).trans (hB2.mono (by simp; omega))).alloc (by omega) _

end Go.Proofs.YtclhmocdeiebbaaDoor
