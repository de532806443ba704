/-
  Items, and how they are sorted: cmp.Compare, cmp.Or, the closure of Items, slices.SortFunc.
-/
import Derived.Test.YtagdacfgpgcbcaaBas
import Derived.Test.YtagdacfgpgcbcaaShl
namespace Go.Proofs.Ytagdacfgpgcbcaa
open Go.RowKit Go.Sort

/-- A rumor: its node, its incarnation, its state, and how often it was told. -/
abbrev Itm := Int × Int × Int × Int
def encI (x : Itm) : List Value := [.int .i64 x.1, .int .u64 x.2.1, .int .i64 x.2.2.1, .int .i64 x.2.2.2]
theorem encI_length (x : Itm) : (encI x).length = 4 := rfl
theorem encI_one (x : Itm) : ∀ v ∈ encI x, v.oneCell' = true := by
  intro v hv
  simp only [encI, List.mem_cons, List.not_mem_nil, or_false] at hv
  rcases hv with rfl | rfl | rfl | rfl <;> rfl

def cmpS (a b : Int) : Int := if a < b then -1 else if b < a then 1 else 0
def orS (a b : Int) : Int := if a = 0 then b else a
/-- How two rumors stand. -/
def cmpI (x y : Itm) : Int := orS (cmpS x.2.2.2 y.2.2.2) (cmpS x.1 y.1)
/-- Is x ahead of y? -/
def ltI (x y : Itm) : Bool := decide (x.2.2.2 < y.2.2.2) || ((x.2.2.2 == y.2.2.2) && decide (x.1 < y.1))
theorem lt_cmpI (x y : Itm) : ltOf cmpI x y = ltI x y := by
  unfold ltOf cmpI ltI orS cmpS
  generalize x.2.2.2 = a
  generalize y.2.2.2 = b
  generalize x.1 = c
  generalize y.1 = d
  rcases Int.lt_trichotomy a b with h | h | h
  · simp [h]
  · subst h
    rcases Int.lt_trichotomy c d with h | h | h
    · simp [h]
    · subst h; simp
    · have : ¬ c < d := by omega
      simp [h, this]
  · have h1 : ¬ a < b := by omega
    have h2 : a ≠ b := by omega
    simp [h, h1, h2]
theorem swoI : SWO (ltOf cmpI) := by
  refine ⟨fun x => ?_, fun x y z h1 h2 => ?_, fun x y z h1 h2 => ?_⟩
  · rw [lt_cmpI]; simp [ltI]
  · rw [lt_cmpI] at *
    simp [ltI] at *
    omega
  · rw [lt_cmpI] at *
    simp [ltI] at *
    omega

theorem isNaN_any (a : Int) (w : World) : Calls Try.prog 40 #[.int .i64 a] w fun e w' => e = .returned (.bool false) ∧ w' = w := by
  have h : (a != a) = false := by simp
  go_enter Try.func40, Try.ntmps40
  go_wp2_with fail
  go_ret
  exact ⟨rfl, rfl⟩

theorem compare_any (a b : Int) (w : World) : Calls Try.prog 34 #[.int .i64 a, .int .i64 b] w fun e w' => e = .returned (.int .i64 (cmpS a b)) ∧ w' = w := by
  have hc := fun x w => isNaN_any x w
  unfold cmpS
  by_cases h1 : a < b
  · rw [if_pos h1]
    go_enter Try.func34, Try.ntmps34
    go_wp2_with (go_at_call 40; refine (hc _ _).mono ?_; rintro e w' ⟨rfl, rfl⟩)
    go_ret
    exact ⟨rfl, rfl⟩
  · rw [if_neg h1]
    by_cases h2 : b < a
    · rw [if_pos h2]
      go_enter Try.func34, Try.ntmps34
      go_wp2_with (go_at_call 40; refine (hc _ _).mono ?_; rintro e w' ⟨rfl, rfl⟩)
      go_ret
      exact ⟨rfl, rfl⟩
    · rw [if_neg h2]
      go_enter Try.func34, Try.ntmps34
      go_wp2_with (go_at_call 40; refine (hc _ _).mono ?_; rintro e w' ⟨rfl, rfl⟩)
      go_ret
      exact ⟨rfl, rfl⟩

theorem or_any (g cap : Nat) (a b : Int) (w : World) (h0 : w.cell? ⟨g, 0, none⟩ = some (.int .i64 a)) (h1 : w.cell? ⟨g, 1, none⟩ = some (.int .i64 b)) :
    Calls Try.prog 33 #[.slice (some ⟨g, 0, none⟩) 2 cap] w fun e w' => e = .returned (.int .i64 (orS a b)) ∧ w' = w := by
  unfold orS
  cases ha : (a != 0)
  case true =>
    rw [if_neg (by simpa using ha)]
    go_enter Try.func33, Try.ntmps33
    go_wp2
    refine wp_loop_rounds 1 ?_
    rw [rounds_succ]
    go_wp2
    go_ret
    exact ⟨rfl, rfl⟩
  case false =>
    rw [if_pos (by simpa using ha)]
    cases hb : (b != 0)
    case true =>
      go_enter Try.func33, Try.ntmps33
      go_wp2
      refine wp_loop_rounds 2 ?_
      rw [rounds_succ]
      go_wp2
      rw [rounds_succ]
      go_wp2
      go_ret
      exact ⟨rfl, rfl⟩
    case false =>
      obtain rfl : b = 0 := by simpa using hb
      go_enter Try.func33, Try.ntmps33
      go_wp2
      refine wp_loop_rounds 3 ?_
      rw [rounds_succ]
      go_wp2
      rw [rounds_succ]
      go_wp2
      rw [rounds_succ]
      go_wp2
      go_ret
      exact ⟨rfl, rfl⟩
end Go.Proofs.Ytagdacfgpgcbcaa
