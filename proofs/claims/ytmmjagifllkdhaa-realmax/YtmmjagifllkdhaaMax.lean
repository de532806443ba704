/-
  Max: slices of reals, MaxFunc, real.Max, and the reference's.
-/
import Derived.Test.YtmmjagifllkdhaaRef
import Derived.Deep.Slices
import Derived.ProofKit
import Derived.OpenShut
namespace Go.Proofs.Ytmmjagifllkdhaa
open Go.RowKit Go.ChangeShapes Go.Deep

/-- The slice's elements are the words F 0, F 1 .. -/
def Fl (w : World) (a : Option Addr) (len cap : Nat) (F : Nat → Nat) : Prop :=
  len ≤ cap ∧ cap ≤ maxLen ∧ (∀ i, i < len → F i < 2 ^ 64) ∧ (len = 0 ∨ ∃ g off, a = some ⟨g, off, none⟩ ∧ ∀ i, i < len → w.cell? ⟨g, off + i, none⟩ = some (.float .f64 (F i)))

theorem trod_float {H : Type} {enc : TypeId × Value → H} {P : Program} {w : World} {base : Nat} {spare : Nat → Bool} {held : Bool} {t : TypeId} {k : FloatKind} {fuel : Nat} {v : Value} {x : DataW H × List MemPlace} (ht : P.underlying t = some (.float k)) (h : DataW.trod enc P w base spare held fuel t [v] = some x) :
    ∃ b, v = .float k b ∧ (Lit.float k b).wf = true := by
  cases fuel with
  | zero => simp [DataW.trod] at h
  | succ n =>
    simp only [DataW.trod, ht] at h
    split at h <;> simp_all

theorem open_reals {H : Type} {enc : TypeId × Value → H} {W : World} {a : Option Addr} {len cap : Nat} {d : DataW H} {ps : List MemPlace} (h : DataW.Trod enc Try.prog W 0 (fun _ => true) true 33 (.slice a len cap) d ps) : ∃ F, Fl W a len cap F := by
  obtain ⟨fuel, hf0⟩ := h
  have hf : DataW.trod enc Try.prog W 0 (fun _ => true) true fuel 33 [.slice a len cap] = some (d, ps) := hf0
  rcases open_slice1 Try.underlying33 (by kernel_rfl) hf with ⟨hcs, _⟩ | ⟨a', len', cap', m, n, V', D, Pl, hcs, _, hlc, hm, hmm, _, hel⟩
  · simp at hcs
    obtain ⟨rfl, rfl, rfl⟩ := hcs
    exact ⟨fun _ => 0, Nat.le_refl _, Nat.zero_le _, fun i hi => by omega, Or.inl rfl⟩
  · simp at hcs
    obtain ⟨rfl, rfl, rfl⟩ := hcs
    simp at hmm
    subst hmm
    rcases Nat.eq_zero_or_pos len with h0 | h0
    · exact ⟨fun _ => 0, hlc, hm, fun i hi => by omega, Or.inl h0⟩
    · have key : ∀ i, i < m → ∃ b, V' i = .float .f64 b ∧ b < 2 ^ 64 := fun i hi => by
        obtain ⟨b, e, hw⟩ := trod_float Try.underlying22 (hel i hi).2
        exact ⟨b, e, by simpa [Lit.wf] using hw⟩
      obtain ⟨g, off, spot⟩ := a'
      have hspot : spot = none := by
        have := (hel 0 (by omega)).1
        simpa [Addr.add] using World.cell?_spot this
      subst hspot
      refine ⟨fun i => if hi : i < m then Classical.choose (key i hi) else 0, hlc, hm, fun i hi => ?_, Or.inr ⟨g, off, rfl, fun i hi => ?_⟩⟩
      · simp only [dif_pos (show i < m by omega)]
        exact (Classical.choose_spec (key i (by omega))).2
      · simp only [dif_pos (show i < m by omega)]
        rw [← (Classical.choose_spec (key i (by omega))).1, ← (hel i (by omega)).1]
        unfold Addr.add; split <;> simp_all

/-- The last one of F 0 .. F i. -/
def mxS (F : Nat → Nat) : Nat → Nat
  | 0 => F 0
  | i + 1 => if 0 < ordS (F (i + 1)) (mxS F i) then F (i + 1) else mxS F i
theorem mxS_in (F : Nat → Nat) (i : Nat) : ∃ j, j ≤ i ∧ mxS F i = F j := by
  induction i with
  | zero => exact ⟨0, Nat.le_refl _, rfl⟩
  | succ i ih =>
    unfold mxS
    split
    · exact ⟨i + 1, Nat.le_refl _, rfl⟩
    · obtain ⟨j, h1, h2⟩ := ih
      exact ⟨j, by omega, h2⟩
theorem ord_pos (x y : Nat) : 0 < ordS x y ↔ placeS y < placeS x := by
  unfold ordS cmpS
  split
  · omega
  · split <;> omega
theorem mxS_last (F : Nat → Nat) (i : Nat) : ∀ j, j ≤ i → placeS (F j) ≤ placeS (mxS F i) := by
  induction i with
  | zero => intro j hj; rw [show j = 0 by omega]; exact Int.le_refl _
  | succ i ih =>
    intro j hj
    unfold mxS
    split
    · rename_i h
      rw [ord_pos] at h
      by_cases e : j = i + 1
      · rw [e]; exact Int.le_refl _
      · have := ih j (by omega); omega
    · rename_i h
      rw [ord_pos] at h
      by_cases e : j = i + 1
      · rw [e]; omega
      · exact ih j (by omega)
theorem mxS_lt {F : Nat → Nat} {i len : Nat} (h : ∀ i, i < len → F i < 2 ^ 64) (hi : i < len) : mxS F i < 2 ^ 64 := by
  obtain ⟨j, h1, h2⟩ := mxS_in F i
  rw [h2]; exact h j (by omega)

def maxS (F : Nat → Nat) (len : Nat) : Nat := if len = 0 then 18442240474082181120 else if nan (mxS F (len - 1)) then 9221120237041090561 else mxS F (len - 1)

set_option maxHeartbeats 1000000 in
theorem maxFunc_any (a : Option Addr) (len cap : Nat) (F : Nat → Nat) (w : World) (h : Fl w a len cap F) (h0 : 0 < len) :
    Calls Try.prog 42 #[.slice a len cap, .func (.func 14) #[] #[]] w fun e w' => e = .returned (.float .f64 (mxS F (len - 1))) ∧ w' = w := by
  obtain ⟨h1, h2, hF, h3⟩ := h
  rcases h3 with h3 | ⟨g, off, rfl, hc⟩
  · omega
  have hl : (len : Int) ≤ 9223372036854775807 := by unfold maxLen at h2; omega
  have c0 : w.cell? ⟨g, off, none⟩ = some (.float .f64 (F 0)) := by simpa using hc 0 h0
  have hlt : ¬ (len : Int) < 1 := by omega
  go_enter Try.func42, Try.ntmps42
  go_wp2_with fail
  go_loopg [5, 6] len (fun gk t5 t6 wr => wr = w ∧ ∃ i : Nat, t6 = .int .i64 (i : Int) ∧ 1 ≤ i ∧ i ≤ len ∧ t5 = .float .f64 (mxS F (i - 1)) ∧ len - i ≤ gk)
  case atStart => exact ⟨rfl, 1, rfl, Nat.le_refl _, h0, rfl, by omega⟩
  case round =>
    obtain ⟨rfl, i, rfl, hi1, hi2, rfl, hg⟩ := hrel
    by_cases hi : i < len
    · have hci := hc i hi
      have HX : Hid (F i < 2 ^ 64) := hF i hi
      have HM : Hid (mxS F (i - 1) < 2 ^ 64) := mxS_lt hF (show i - 1 < len by omega)
      have HS : Hid (mxS F i = if 0 < ordS (F i) (mxS F (i - 1)) then F i else mxS F (i - 1)) := by
        obtain ⟨k, rfl⟩ : ∃ k, i = k + 1 := ⟨i - 1, by omega⟩
        rfl
      have hiI : (i : Int) < len := by omega
      by_cases ho : 0 < ordS (F i) (mxS F (i - 1))
      · go_wp2_with (go_at_call 14; refine (order_any _ _ _ (by assumption) (by assumption)).mono ?_; rintro e w' ⟨rfl, rfl⟩)
        go_roundg (gk - 1)
        case rel =>
          refine ⟨rfl, i + 1, rfl, by omega, by omega, ?_, by omega⟩
          have := HS.out
          rw [if_pos ho] at this
          rw [show i + 1 - 1 = i by omega, this]
        case measure => omega
      · go_wp2_with (go_at_call 14; refine (order_any _ _ _ (by assumption) (by assumption)).mono ?_; rintro e w' ⟨rfl, rfl⟩)
        go_roundg (gk - 1)
        case rel =>
          refine ⟨rfl, i + 1, rfl, by omega, by omega, ?_, by omega⟩
          have := HS.out
          rw [if_neg (by omega)] at this
          rw [show i + 1 - 1 = i by omega, this]
        case measure => omega
    · have hil : i = len := by omega
      subst hil
      clear hi2 hi
      go_wp2_with fail
      go_ret
      exact ⟨rfl, rfl⟩

theorem max_any (a : Option Addr) (len cap : Nat) (F : Nat → Nat) (w : World) (h : Fl w a len cap F) :
    Calls Try.prog 27 #[.slice a len cap] w fun e w' => e = .returned (.float .f64 (maxS F len)) ∧ w' = w := by
  unfold maxS
  by_cases h0 : len = 0
  · subst h0
    clear h
    go_enter Try.func27, Try.ntmps27
    go_wp2_with (go_at_call 41; refine (inf_any _).mono ?_; rintro e w' ⟨rfl, rfl⟩)
    go_ret
    exact ⟨rfl, rfl⟩
  · rw [if_neg h0]
    have hc := maxFunc_any a len cap F w h (by omega)
    have hl : ((len : Int) == 0) = false := by rw [beq_eq_false_iff_ne]; omega
    clear h
    generalize mxS F (len - 1) = m at *
    cases nm : nan m
    all_goals
      go_enter Try.func27, Try.ntmps27
      go_wp2_with (first
        | (go_at_call 42; refine hc.mono ?_; rintro e w' ⟨rfl, rfl⟩)
        | (go_at_call 35; refine (noNumber_any _ _).mono ?_; rintro e w' ⟨rfl, rfl⟩)
        | (go_at_call 38; refine (nan_any _).mono ?_; rintro e w' ⟨rfl, rfl⟩))
      go_ret
      exact ⟨rfl, rfl⟩

theorem isInf_any (w : World) : Calls Try.prog 28 #[.float .f64 18442240474082181120, .int .i64 (-1)] w fun e w' => e = .returned (.bool true) ∧ w' = w := by
  have hg : (FloatKind.f64.format.order 9218868437227405312 9218868437227405311 == some .gt) = true := by decide +kernel
  have hu : ∀ w, (Op.unary .neg (.float .f64 18442240474082181120)).run Try.prog w = .ok (.float .f64 9218868437227405312) w := fun w => by
    show Result.ok (Value.float .f64 (Op.negFloat .f64 18442240474082181120)) w = _
    rw [show Op.negFloat .f64 18442240474082181120 = 9218868437227405312 by decide +kernel]
  go_enter Try.func28, Try.ntmps28
  go_wp2
  go_ret
  exact ⟨rfl, rfl⟩

set_option maxHeartbeats 1000000 in
theorem refMax_any (a : Option Addr) (len cap : Nat) (F : Nat → Nat) (w : World) (h : Fl w a len cap F) :
    Calls Try.prog 29 #[.slice a len cap] w fun e w' => e = .returned (.float .f64 (maxS F len)) ∧ w' = w := by
  unfold maxS
  obtain ⟨h1, h2, hF, h3⟩ := h
  have hl : (len : Int) ≤ 9223372036854775807 := by unfold maxLen at h2; omega
  by_cases h0 : len = 0
  · subst h0
    clear h3 hF
    have hn : (FloatKind.f64.format.order 18442240474082181120 18442240474082181120 != some .eq) = false := by decide +kernel
    go_enter Try.func29, Try.ntmps29
    go_wp2_with (go_at_call 41; refine (inf_any _).mono ?_; rintro e w ⟨rfl, rfl⟩)
    go_loopg [3, 4, 5] 0 (fun gk t3 t4 t5 wr => wr = w ∧ t3 = .float .f64 18442240474082181120 ∧ t4 = .bool true ∧ t5 = .int .i64 0)
    case atStart => exact ⟨rfl, rfl, rfl, rfl⟩
    case round =>
      obtain ⟨rfl, rfl, rfl, rfl⟩ := hrel
      go_wp2_with fail
      go_ret
      exact ⟨rfl, rfl⟩
  · rw [if_neg h0]
    rcases h3 with h3 | ⟨g, off, rfl, hc⟩
    · omega
    have c0 : w.cell? ⟨g, off, none⟩ = some (.float .f64 (F 0)) := by simpa using hc 0 (by omega)
    generalize hr : (if nan (mxS F (len - 1)) = true then 9221120237041090561 else mxS F (len - 1)) = r
    have HR : Hid ((if nan (mxS F (len - 1)) = true then 9221120237041090561 else mxS F (len - 1)) = r) := hr
    clear hr
    go_enter Try.func29, Try.ntmps29
    go_wp2_with (go_at_call 41; refine (inf_any _).mono ?_; rintro e w ⟨rfl, rfl⟩)
    go_loopg [3, 4, 5] (len + 1) (fun gk t3 t4 t5 wr => wr = w ∧ ∃ i : Nat, t5 = .int .i64 (i : Int) ∧ i ≤ len ∧ ((i = 0 ∧ t3 = .float .f64 18442240474082181120 ∧ t4 = .bool true) ∨ (0 < i ∧ t3 = .float .f64 (mxS F (i - 1)) ∧ t4 = .bool false)) ∧ len - i < gk)
    case atStart => exact ⟨rfl, 0, rfl, Nat.zero_le _, .inl ⟨rfl, rfl, rfl⟩, by omega⟩
    case round =>
      obtain ⟨rfl, i, rfl, hi2, hm, hg⟩ := hrel
      rcases hm with ⟨rfl, rfl, rfl⟩ | ⟨hi0, rfl, rfl⟩
      · have hlt : (0 : Int) < len := by omega
        go_wp2_with fail
        go_roundg (gk - 1)
        case rel => exact ⟨rfl, 1, rfl, by omega, .inr ⟨by omega, rfl, rfl⟩, by omega⟩
        case measure => omega
      by_cases hi : i < len
      · have hci := hc i hi
        have HX : Hid (F i < 2 ^ 64) := hF i hi
        have HM : Hid (mxS F (i - 1) < 2 ^ 64) := mxS_lt hF (show i - 1 < len by omega)
        have HS : Hid (mxS F i = if 0 < ordS (F i) (mxS F (i - 1)) then F i else mxS F (i - 1)) := by
          obtain ⟨k, rfl⟩ : ∃ k, i = k + 1 := ⟨i - 1, by omega⟩
          rfl
        have hiI : (i : Int) < len := by omega
        by_cases ho : 0 < ordS (F i) (mxS F (i - 1))
        · go_wp2_with (go_at_call 15; refine (refOrder_any _ _ _ (by assumption) (by assumption)).mono ?_; rintro e w' ⟨rfl, rfl⟩)
          go_roundg (gk - 1)
          case rel =>
            refine ⟨rfl, i + 1, rfl, by omega, .inr ⟨by omega, ?_, rfl⟩, by omega⟩
            have := HS.out
            rw [if_pos ho] at this
            rw [show i + 1 - 1 = i by omega, this]
          case measure => omega
        · go_wp2_with (go_at_call 15; refine (refOrder_any _ _ _ (by assumption) (by assumption)).mono ?_; rintro e w' ⟨rfl, rfl⟩)
          go_roundg (gk - 1)
          case rel =>
            refine ⟨rfl, i + 1, rfl, by omega, .inr ⟨by omega, ?_, rfl⟩, by omega⟩
            have := HS.out
            rw [if_neg (by omega)] at this
            rw [show i + 1 - 1 = i by omega, this]
          case measure => omega
      · have hil : i = len := by omega
        subst hil
        clear hi2 hi
        have hn := nanF (mxS F (i - 1))
        have hr := HR.out
        clear HR hc hF c0
        generalize mxS F (i - 1) = m at *
        cases nm : nan m <;> rw [nm] at hn hr
        · have e : m = r := hr
          subst e
          clear hr
          go_wp2_with fail
          go_ret
          exact ⟨rfl, rfl⟩
        · have e : 9221120237041090561 = r := hr
          subst e
          clear hr
          go_wp2_with (go_at_call 38; refine (nan_any _).mono ?_; rintro e w' ⟨rfl, rfl⟩)
          go_ret
          exact ⟨rfl, rfl⟩
end Go.Proofs.Ytmmjagifllkdhaa
