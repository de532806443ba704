/-
  The reference's List, Many, First, Next, Place, Both, Major, Of; band's Of; Same and shown.
-/
import Derived.Test.YtlbeincgknmijaaDoorRBli
namespace Go.Proofs.YtlbeincgknmijaaDoor.Ro.Bnd
open Go.RowKit

/-- The slice v reads as the numbers l. -/
def Rd (v : Value) (l : List Int) (w : World) : Prop :=
  ∃ a cap, v = .slice a l.length cap ∧ (l.length = 0 ∨ ∃ g off, a = some ⟨g, off, none⟩ ∧ ∀ j (hj : j < l.length), w.cell? ⟨g, off + j, none⟩ = some (.int .i64 l[j]))
theorem Rd.keep {v : Value} {l : List Int} {w w' : World} (h : Rd v l w) (hw : ∀ g, g < w.heap.size → w'.heap[g]? = w.heap[g]?) : Rd v l w' := by
  obtain ⟨a, cap, rfl, h3⟩ := h
  refine ⟨a, cap, rfl, ?_⟩
  rcases h3 with h3 | ⟨g, off, rfl, h3⟩
  · exact Or.inl h3
  · refine Or.inr ⟨g, off, rfl, fun j hj => ?_⟩
    have hc := h3 j hj
    have hlt : g < w.heap.size := World.block_lt_of_cell? _ _ hc
    rw [← hc]
    exact World.cell?_of_block (w := w) (hw g hlt)
theorem Rd.below {v : Value} {l : List Int} {w w' : World} (h : Rd v l w) (hb : Below w.heap.size w w') : Rd v l w' := h.keep fun g hg => hb.block g hg
theorem Rd.of_row {B : Nat} {v : Value} {l : List Int} {w : World} (h : w.ownsRow B 3 1 v l.length (l.map (Value.int .i64))) : Rd v l w := by
  rcases h.2 with ⟨hv, hn⟩ | ⟨g, cap, cur, hv, hg, hh, h1, h2, h3, h4⟩
  · exact ⟨none, 0, by rw [hv, hn], Or.inl hn⟩
  · refine ⟨_, cap, hv, Or.inr ⟨g, 0, rfl, fun j hj => ?_⟩⟩
    have := World.ownsRow.cells h (g := g) (by rw [hv]; rfl) j (.int .i64 l[j]) (by simp [List.getElem?_eq_getElem hj])
    rw [← this]
    unfold Addr.add; split <;> simp_all
theorem Rd.lit (l : List Int) (w : World) : Rd (.slice (some ⟨w.heap.size, 0, none⟩) l.length l.length) l (w.alloc (.cells (l.map (Value.int .i64)).toArray 3)) := by
  refine ⟨_, _, rfl, Or.inr ⟨_, 0, rfl, fun j hj => ?_⟩⟩
  have : (w.alloc (.cells (l.map (Value.int .i64)).toArray 3)).heap[w.heap.size]? = some (.cells (l.map (Value.int .i64)).toArray 3 (0, 0)) := heap_alloc_new w _
  unfold World.cell?
  rw [this]
  simp [hj]

/-! ## List -/

/-- The nodes of b below i. -/
def lstTo (b i : Nat) : List Int := ((List.range i).filter (fun j => b.testBit j)).map (fun (j : Nat) => (j : Int))
theorem lstTo_succ (b i : Nat) : lstTo b (i + 1) = if b.testBit i then lstTo b i ++ [(i : Int)] else lstTo b i := by
  unfold lstTo
  rw [List.range_succ, List.filter_append, List.map_append]
  cases h : b.testBit i <;> simp [h]
theorem lstTo_le (b i : Nat) : (lstTo b i).length ≤ i := by
  have := List.length_filter_le (fun j => b.testBit j) (List.range i)
  simpa [lstTo] using this
theorem hasS_nat (b : Nat) {i : Nat} (hi : i < 64) : hasS b (i : Int) = b.testBit i := by
  have : nodeS (i : Int) = true := (nodeS_iff _).2 ⟨by omega, by omega⟩
  unfold hasS; rw [this]; simp

set_option maxHeartbeats 1000000 in
theorem rlist_any (b : Nat) (hb : b < lim) (w : World) :
    Calls Tryd.prog 6 #[.int .u64 b] w fun e w' => ∃ v, e = .returned v ∧ Rd v (lst b) w' ∧ Below w.heap.size w w' := by
  obtain ⟨i0, hi, hz0, hz1, hz2⟩ := info_parts Tryd.info3
  go_enter Tryd.func6, Tryd.ntmps6
  go_wp2_with fail
  go_loopg [3, 4] 64 (fun gk t3 t4 wr => ∃ i : Nat, i + gk = 64 ∧ t4 = .int .i64 i ∧ wr.ownsRow w.heap.size 3 1 t3 (lstTo b i).length ((lstTo b i).map (Value.int .i64)) ∧ Below w.heap.size w wr)
  case atStart => exact ⟨0, by omega, rfl, World.ownsRow_made w #[] 0 (Nat.le_refl _) (Nat.zero_le _) rfl, (Below.refl _ _).alloc (Nat.le_refl _) _⟩
  case round =>
    obtain ⟨i, hg, rfl, hrow, hB⟩ := hrel
    by_cases hlt : (i : Int) < 64
    · have hs := lstTo_succ b i
      have hle := lstTo_le b i
      have hh := hasS_nat b (i := i) (by omega)
      have hcall := rhas_any b hb (i : Int) wr
      rw [hh] at hcall
      cases ht : b.testBit i
      · rw [ht] at hs hcall
        simp only [Bool.false_eq_true, if_false] at hs
        go_wp2_with fail
        refine hcall.mono ?_
        rintro e w1 ⟨rfl, hw1⟩
        subst hw1
        go_wp2_with fail
        go_roundg (gk - 1)
        case rel => exact ⟨i + 1, by omega, by go_num, by rw [hs]; exact hrow, hB⟩
        case measure => omega
      · rw [ht] at hs hcall
        simp only [if_true] at hs
        go_wp2_with fail
        refine hcall.mono ?_
        rintro e w1 ⟨rfl, hw1⟩
        subst hw1
        go_wp2_with (at_builtin; refine wpList_append_own _ rfl _ _ 29 rfl w.heap.size 3 i0 (.int .i64 0) 1 8 Tryd.underlying29 hi hz0 hz1 hz2 rfl (by decide) _ _ _ rfl (hrow.alloc _) ⟨w1.heap.size, 0, none⟩ 1 1 [.int .i64 (i : Int)] rfl rfl (cell_one_new _ _ _) (by simp [Value.oneCell']) (by unfold maxLen; omega) (by omega) (by have := hB.size; simp; omega) ?_; intro v' w2 hown' hgrow _)
        go_roundg (gk - 1)
        case rel =>
          refine ⟨i + 1, by omega, by go_num, ?_, ?_⟩
          · rw [hs]; simpa using hown'
          · refine (hB.alloc hB.size _).grown hgrow (by have := hB.size; simp; omega) (fun k hk => ?_)
            exact (hrow.lt k hk).1
        case measure => omega
    · obtain rfl : i = 64 := by omega
      go_wp2_with fail
      go_ret
      exact ⟨_, rfl, Rd.of_row hrow, hB⟩

/-! ## Same, shown -/

theorem list_rd (b : Nat) (hb : b < lim) (w : World) (hT : Tab w) :
    Calls Tryd.prog 10 #[.int .u64 b] w fun e w' => ∃ v, e = .returned v ∧ Rd v (lst b) w' ∧ Below w.heap.size w w' :=
  (list_any b hb w hT).mono fun _ _ ⟨v, he, h1, h2⟩ => ⟨v, he, Rd.of_row h1, h2⟩

end Go.Proofs.YtlbeincgknmijaaDoor.Ro.Bnd
