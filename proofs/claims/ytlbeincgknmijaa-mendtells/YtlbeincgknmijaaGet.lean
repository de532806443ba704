/-
  Get.
-/
import Derived.Test.YtlbeincgknmijaaSat
namespace Go.Proofs.Ytlbeincgknmijaa
open Go.RowKit

/-- What Get answers. -/
def getE (low : Int) (has : Bool) (n : Int) : Int := if n ≠ 0 ∧ n ≤ low then 70 else if has then 0 else 3
def getM (low : Int) (R : Rng) (n : Int) : Ms := if getE low (hasR low R n) n = 0 then (R (n % 64).toNat).g else zM

set_option maxRecDepth 100000 in
set_option maxHeartbeats 4000000 in
theorem sget_any (p : Nat) (low : Int) (R : Rng) (n : Int) (n0 : 0 ≤ n) (w : World) (hS : Sf p low R w) :
    Calls Try.prog 36 #[.pointer (some ⟨p, 0, none⟩), .int .u64 n] w fun e w' =>
      e = .returned (.tuple #[.agg #[.int .i64 (getM low R n).s, .int .u64 (getM low R n).m, .string (getM low R n).x], .int .i64 (getE low (hasR low R n) n)]) ∧ Below w.heap.size w w' := by
  have hM : Bm w.heap.size zM (w.alloc (.cells #[.int .i64 0, .int .u64 0, .string ⟨#[]⟩] 28)) := Bm.new zM w
  have b1 := below_alloc w (.cells #[.int .i64 0, .int .u64 0, .string ⟨#[]⟩] 28)
  have hS1 := hS.below b1
  have hl := hS1.clow
  have y0 := hM.free 0
  have y1 := hM.free 1
  have y2 := hM.free 2
  have hh := shas_any p low R n n0 _ hS1
  have ha := fun w => sat_any p n n0 w
  by_cases h1 : n ≠ 0 ∧ n ≤ low
  · have e : getE low (hasR low R n) n = 70 := by unfold getE; rw [if_pos h1]
    unfold getM
    rw [e]
    have z1 : (n == 0) = false := by simp; omega
    have z1' : (n != 0) = true := by simp; omega
    have z2 : decide (n ≤ low) = true := decide_eq_true h1.2
    clear e h1 hh ha
    go_enter Try.func36, Try.ntmps36
    go_wp2_with fail
    refine bodyPost_ret (v := .tuple #[.agg #[.int .i64 0, .int .u64 0, .string ⟨#[]⟩], .int .i64 70]) ?_ rfl ⟨rfl, b1⟩
    rw [results_cell_tmp rfl]
    go_simp
  · have hz : (n == 0) = true ∨ (n == 0) = false ∧ (n != 0) = true ∧ decide (n ≤ low) = false := by
      by_cases q : n = 0
      · exact Or.inl (by simp [q])
      · exact Or.inr ⟨by simp [q], by simp [q], decide_eq_false (fun h => h1 ⟨q, h⟩)⟩
    cases h3 : hasR low R n
    case false =>
      rw [h3] at hh
      have e : getE low false n = 3 := by unfold getE; rw [if_neg h1]; rfl
      unfold getM
      rw [h3, e]
      clear e h1 h3 ha
      rcases hz with z1 | ⟨z1, z1', z2⟩
      · have z1' : (n != 0) = false := by simp at z1; simp [z1]
        go_enter Try.func36, Try.ntmps36
        go_wp2_with (go_at_call 43; refine hh.mono ?_; rintro e w1 ⟨rfl, rfl⟩)
        refine bodyPost_ret (v := .tuple #[.agg #[.int .i64 0, .int .u64 0, .string ⟨#[]⟩], .int .i64 3]) ?_ rfl ⟨rfl, b1⟩
        rw [results_cell_tmp rfl]
        go_simp
      · go_enter Try.func36, Try.ntmps36
        go_wp2_with (go_at_call 43; refine hh.mono ?_; rintro e w1 ⟨rfl, rfl⟩)
        refine bodyPost_ret (v := .tuple #[.agg #[.int .i64 0, .int .u64 0, .string ⟨#[]⟩], .int .i64 3]) ?_ rfl ⟨rfl, b1⟩
        rw [results_cell_tmp rfl]
        go_simp
    case true =>
      rw [h3] at hh
      have e : getE low true n = 0 := by unfold getE; rw [if_neg h1]; rfl
      unfold getM
      rw [h3, e, if_pos rfl]
      obtain ⟨j, hj, hj', e1, e2⟩ := slot_of n n0
      rw [← hj] at ha ⊢
      have x1 := hS1.c1 hj'
      have x2 := hS1.c2 hj'
      have x3 := hS1.c3 hj'
      generalize (R j).g = g at *
      clear e h1 h3 hj e1 e2
      have hz : (n == 0) = true ∧ (n != 0) = false ∨ (n == 0) = false ∧ (n != 0) = true ∧ decide (n ≤ low) = false := by
        rcases hz with h | h
        · exact Or.inl ⟨h, by simp at h; simp [h]⟩
        · exact Or.inr h
      rcases hz with ⟨z1, z1'⟩ | ⟨z1, z1', z2⟩
      · go_enter Try.func36, Try.ntmps36
        go_wp2_with (first | (go_at_call 43; refine hh.mono ?_; rintro e w1 ⟨rfl, rfl⟩) | (go_at_call 44; refine (ha _).mono ?_; rintro e w1 ⟨rfl, rfl⟩))
        refine bodyPost_ret (v := .tuple #[.agg #[.int .i64 g.s, .int .u64 g.m, .string g.x], .int .i64 0]) ?_ rfl ⟨rfl, ?_⟩
        · rw [results_cell_tmp rfl]
          go_simp
        · exact below_alloc w _
      · go_enter Try.func36, Try.ntmps36
        go_wp2_with (first | (go_at_call 43; refine hh.mono ?_; rintro e w1 ⟨rfl, rfl⟩) | (go_at_call 44; refine (ha _).mono ?_; rintro e w1 ⟨rfl, rfl⟩))
        refine bodyPost_ret (v := .tuple #[.agg #[.int .i64 g.s, .int .u64 g.m, .string g.x], .int .i64 0]) ?_ rfl ⟨rfl, ?_⟩
        · rw [results_cell_tmp rfl]
          go_simp
        · exact below_alloc w _
end Go.Proofs.Ytlbeincgknmijaa
