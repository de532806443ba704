/-
  The walk of RealBits.
-/
import Derived.Test.YtmmjagifllkdhaaTck
namespace Go.Proofs.Ytmmjagifllkdhaa
open Go.RowKit

theorem bitLen_spec : ∀ (b x : Nat), x ≤ b → x < 2 ^ 64 → x < 2 ^ Lib.bitLen x ∧ (Lib.bitLen x = 0 ∨ 2 ^ (Lib.bitLen x - 1) ≤ x)
  | 0, x, hb, _ => by
    have : x = 0 := by omega
    subst this
    exact ⟨by decide, .inl (by decide)⟩
  | b + 1, x, hb, h => by
    by_cases h0 : x = 0
    · subst h0; exact ⟨by decide, .inl (by decide)⟩
    · obtain ⟨i1, i2⟩ := bitLen_spec b (x / 2) (by omega) (by omega)
      rw [Lib.bitLen_half x h0 h]
      generalize Lib.bitLen (x / 2) = k at *
      refine ⟨by rw [Nat.add_comm, Nat.pow_succ]; omega, .inr ?_⟩
      rw [show 1 + k - 1 = k by omega]
      rcases i2 with e | e
      · rw [e]; simp; omega
      · cases k with
        | zero => simp; omega
        | succ k => rw [show k + 1 - 1 = k by omega] at e; rw [Nat.pow_succ]; omega

theorem wrap_pow (k : Nat) (h : k ≤ 32) : IntKind.u64.wrap ((2 : Int) ^ k) = ((2 ^ k : Nat) : Int) := by
  have h1 : (2 : Nat) ^ k ≤ 2 ^ 32 := Nat.pow_le_pow_right (by decide) h
  have e : ((2 : Int) ^ k) = ((2 ^ k : Nat) : Int) := by simp
  rw [IntKind.wrap_u64, e]
  generalize (2 : Nat) ^ k = p at h1
  omega
set_option maxHeartbeats 2000000 in
theorem bits_walk (n : Int) (hn : (Lit.int .u32 n).wf = true) (w : World) :
    Calls Try.prog 9 #[.int .u32 n] w fun e w' => e = .returned (.bool true) ∧ Below w.heap.size w w' := by
  have hb : 0 ≤ n ∧ n ≤ 4294967295 := by simpa [Lit.wf, IntKind.min, IntKind.max, IntKind.signed, IntKind.bits] using hn
  clear hn
  have hk : bitsS n = (Lib.bitLen n.toNat : Int) := by unfold bitsS; rw [if_neg (by omega)]
  obtain ⟨s1, s2⟩ := bitLen_spec n.toNat n.toNat (Nat.le_refl _) (by omega)
  have hle := Lib.bitLen_le n.toNat 32 (by omega) (by omega)
  have hneg : bitsS (-n - 1) = 0 := by unfold bitsS; rw [if_pos (by omega)]
  have c1 := fun w => bits_any n w (by omega)
  have c2 := fun w => bits_any (-n - 1) w (by omega)
  rw [hk] at c1
  rw [hneg] at c2
  clear hk hneg
  generalize Lib.bitLen n.toNat = k at *
  have t1 : n < IntKind.u64.wrap ((2 : Int) ^ k) := by
    rw [wrap_pow k hle]
    generalize 2 ^ k = p at *
    omega
  have hs0 := hb.1
  have hs1 := hb.2
  by_cases hk : k = 0
  · subst hk
    clear s1 s2
    have t3 : n < IntKind.u64.wrap 1 := by simpa using t1
    go_enter Try.func9, Try.ntmps9
    go_wp2_with (first
      | (go_at_call 25; refine (c1 _).mono ?_; rintro e w' ⟨rfl, rfl⟩)
      | (go_at_call 25; refine (c2 _).mono ?_; rintro e w' ⟨rfl, rfl⟩)
      | (go_at_call 22; refine (shown_any _).mono ?_; rintro e w' ⟨rfl, rfl⟩))
    go_ret
    exact ⟨rfl, Below.refl _ _⟩
  · have t2 : IntKind.u64.wrap ((2 : Int) ^ (k - 1)) ≤ n := by
      rw [wrap_pow (k - 1) (by omega)]
      generalize 2 ^ (k - 1) = p at *
      omega
    clear s1 s2
    go_enter Try.func9, Try.ntmps9
    go_wp2_with (first
      | (go_at_call 25; refine (c1 _).mono ?_; rintro e w' ⟨rfl, rfl⟩)
      | (go_at_call 25; refine (c2 _).mono ?_; rintro e w' ⟨rfl, rfl⟩)
      | (go_at_call 22; refine (shown_any _).mono ?_; rintro e w' ⟨rfl, rfl⟩))
    go_ret
    exact ⟨rfl, Below.refl _ _⟩
end Go.Proofs.Ytmmjagifllkdhaa
