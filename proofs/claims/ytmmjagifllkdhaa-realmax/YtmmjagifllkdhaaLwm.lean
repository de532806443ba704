/-
  The walk of RealMax.
-/
import Derived.Test.YtmmjagifllkdhaaMax
namespace Go.Proofs.Ytmmjagifllkdhaa
open Go.RowKit

def al (x y : Nat) : Bool := nan x && nan y || decide (x = y)
/-- Whether m is among the first i. -/
def th (F : Nat → Nat) (m : Nat) : Nat → Bool
  | 0 => false
  | i + 1 => th F m i || al (F i) m
theorem th_of {F : Nat → Nat} {m j : Nat} (h : al (F j) m = true) (n : Nat) : j < n → th F m n = true := by
  induction n with
  | zero => intro h; omega
  | succ n ih =>
    intro hj
    unfold th
    by_cases e : j = n
    · rw [← e, h]; simp
    · rw [ih (by omega)]; rfl
/-- What the last one is: one of them, and none behind it. -/
theorem max_spec {F : Nat → Nat} {len : Nat} (h0 : 0 < len) (hF : ∀ i, i < len → F i < 2 ^ 64) : maxS F len < 2 ^ 64 ∧ (∀ i, i < len → ordS (F i) (maxS F len) ≤ 0) ∧ th F (maxS F len) len = true := by
  have hm := mxS_lt hF (show len - 1 < len by omega)
  have hl := mxS_last F (len - 1)
  obtain ⟨j, hj, ej⟩ := mxS_in F (len - 1)
  have hp : maxS F len < 2 ^ 64 ∧ placeS (maxS F len) = placeS (mxS F (len - 1)) ∧ al (F j) (maxS F len) = true := by
    unfold maxS
    rw [if_neg (by omega), ← ej]
    cases nm : nan (mxS F (len - 1))
    · refine ⟨hm, rfl, ?_⟩
      unfold al; simp
    · rw [if_pos rfl]
      refine ⟨by decide, ?_, ?_⟩
      · have e1 : placeS (mxS F (len - 1)) = 0 := by unfold placeS; rw [nm]; rfl
        rw [e1]; decide
      · unfold al
        rw [nm]
        have : nan 9221120237041090561 = true := by decide
        simp [this]
  obtain ⟨h1, h2, h3⟩ := hp
  refine ⟨h1, fun i hi => ?_, th_of h3 len (by omega)⟩
  have := hl i (by omega)
  by_cases hh : 0 < ordS (F i) (maxS F len)
  · rw [ord_pos, h2] at hh; omega
  · omega

set_option maxHeartbeats 1000000 in
theorem max_walk (a : Option Addr) (len cap : Nat) (F : Nat → Nat) (w : World) (h : Fl w a len cap F) :
    Calls Try.prog 6 #[.slice a len cap] w fun e w' => e = .returned (.bool true) ∧ Below w.heap.size w w' := by
  suffices H : Calls Try.prog 6 #[.slice a len cap] w fun e w' => e = .returned (.bool true) ∧ w' = w by
    refine H.mono ?_
    rintro e w' ⟨rfl, rfl⟩
    exact ⟨rfl, Below.refl _ _⟩
  by_cases hl : (200 : Int) < len
  · clear h
    go_enter Try.func6, Try.ntmps6
    go_wp2_with (go_at_call 22; refine (shown_any _).mono ?_; rintro e w' ⟨rfl, rfl⟩)
    go_ret
    exact ⟨rfl, rfl⟩
  have hl' : (len : Int) ≤ 200 := by omega
  clear hl
  have c1 := max_any a len cap F w h
  by_cases h0 : len = 0
  · subst h0
    rw [show maxS F 0 = 18442240474082181120 from rfl] at c1
    clear h
    go_enter Try.func6, Try.ntmps6
    go_wp2_with (first
      | (go_at_call 22; refine (shown_any _).mono ?_; rintro e w' ⟨rfl, rfl⟩)
      | (go_at_call 27; refine c1.mono ?_; rintro e w' ⟨rfl, rfl⟩)
      | (go_at_call 28; refine (isInf_any _).mono ?_; rintro e w' ⟨rfl, rfl⟩))
    go_ret
    exact ⟨rfl, rfl⟩
  have c2 := refMax_any a len cap F w h
  obtain ⟨h1, h2, hF, h3⟩ := h
  rcases h3 with h3 | ⟨g, off, rfl, hc⟩
  · omega
  obtain ⟨hm, ho, ht⟩ := max_spec (show 0 < len by omega) hF
  generalize maxS F len = m at *
  have HM : Hid (m < 2 ^ 64) := hm
  have HT : Hid (th F m len = true) := ht
  have HO : Hid (∀ i, i < len → ordS (F i) m ≤ 0) := ho
  have HF : Hid (∀ i, i < len → F i < 2 ^ 64) := hF
  have HC : Hid (∀ i, i < len → w.cell? ⟨g, off + i, none⟩ = some (.float .f64 (F i))) := hc
  have hz : ((len : Int) == 0) = false := by rw [beq_eq_false_iff_ne]; omega
  have e1 : (nan m && nan m || decide (m = m)) = true := by simp
  clear hm ht ho hF hc h1 h2
  go_enter Try.func6, Try.ntmps6
  go_wp2_with (first
    | (go_at_call 22; refine (shown_any _).mono ?_; rintro e w ⟨rfl, rfl⟩)
    | (go_at_call 27; refine c1.mono ?_; rintro e w ⟨rfl, rfl⟩))
  go_loopg [4, 5] len (fun gk t4 t5 wr => wr = w ∧ ∃ i : Nat, t5 = .int .i64 (i : Int) ∧ i ≤ len ∧ t4 = .bool (th F m i) ∧ len - i ≤ gk)
  case atStart => exact ⟨rfl, 0, rfl, Nat.zero_le _, rfl, by omega⟩
  case round =>
    obtain ⟨rfl, i, rfl, hi2, rfl, hg⟩ := hrel
    by_cases hi : i < len
    · have hci := HC.out i hi
      have HX : Hid (F i < 2 ^ 64) := HF.out i hi
      have hoi := HO.out i hi
      have HS : Hid (th F m (i + 1) = (th F m i || al (F i) m)) := rfl
      have ha : (nan (F i) && nan m || decide (F i = m)) = al (F i) m := rfl
      have hiI : (i : Int) < len := by omega
      generalize th F m i = t at *
      generalize al (F i) m = b at *
      cases t
      · go_wp2_with (first
          | (go_at_call 13; refine (alike_any _ _ _).mono ?_; rintro e w' ⟨rfl, rfl⟩)
          | (go_at_call 14; refine (order_any _ _ _ (by assumption) (by assumption)).mono ?_; rintro e w' ⟨rfl, rfl⟩))
        go_roundg (gk - 1)
        case rel => exact ⟨rfl, i + 1, rfl, by omega, by rw [HS.out]; rfl, by omega⟩
        case measure => omega
      · clear ha
        go_wp2_with (go_at_call 14; refine (order_any _ _ _ (by assumption) (by assumption)).mono ?_; rintro e w' ⟨rfl, rfl⟩)
        go_roundg (gk - 1)
        case rel => exact ⟨rfl, i + 1, rfl, by omega, by rw [HS.out]; rfl, by omega⟩
        case measure => omega
    · have hil : i = len := by omega
      subst hil
      clear hi2 hi
      rw [HT.out]
      go_wp2_with (first
        | (go_at_call 29; refine c2.mono ?_; rintro e w' ⟨rfl, rfl⟩)
        | (go_at_call 13; refine (alike_any _ _ _).mono ?_; rintro e w' ⟨rfl, rfl⟩))
      go_ret
      exact ⟨rfl, rfl⟩
end Go.Proofs.Ytmmjagifllkdhaa
