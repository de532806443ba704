/-
  The shelf and the reference's, act by act; messages are the same as themselves.
-/
import Derived.Test.YtlbeincgknmijaaCpl
import Derived.Test.YtlbeincgknmijaaOpn
import Derived.Test.YtlbeincgknmijaaSho
namespace Go.Proofs.Ytlbeincgknmijaa
open Go.RowKit

theorem run_eqM_in (d : Nat) (g : Ms) (w : World) : (Op.equalIn (d + 1 + 1) 28 (.agg #[.int .i64 g.s, .int .u64 g.m, .string g.x]) (.agg #[.int .i64 g.s, .int .u64 g.m, .string g.x])).run Try.prog w = .ok true w := by
  rw [run_equalIn_struct w (d + 1) 28 _ _ (by kernel_rfl) (by kernel_rfl)]
  simp [Program.fieldsOf, go_sem]
theorem run_eqlM (g : Ms) (w : World) : (binOp .eql 28 (.agg #[.int .i64 g.s, .int .u64 g.m, .string g.x]) (.agg #[.int .i64 g.s, .int .u64 g.m, .string g.x])).run Try.prog w = .ok (.bool true) w := by
  have h := run_eqM_in 9998 g w
  simp [binOp, Op.equal, Op.maxDepth, h]
theorem run_neqM (g : Ms) (w : World) : (binOp .neq 28 (.agg #[.int .i64 g.s, .int .u64 g.m, .string g.x]) (.agg #[.int .i64 g.s, .int .u64 g.m, .string g.x])).run Try.prog w = .ok (.bool false) w := by
  have h := run_eqM_in 9998 g w
  simp [binOp, Op.equal, Op.maxDepth, h]

def tLow (low : Int) (R : Rng) (n : Int) : Int := if reachR low R < n then low else max low n
def tR (low : Int) (R : Rng) (n : Int) : Rng := if reachR low R < n then R else trimR R n
def tL (low : Int) (R : Rng) (L : List Pl) (n : Int) : List Pl := if reachR low R < n then L else if n ≤ low then L else trimL L n
def tE (low : Int) (R : Rng) (n : Int) : Int := if reachR low R < n then 1 else 0
theorem tLow_le (low : Int) (R : Rng) (n : Int) : low ≤ tLow low R n ∧ tLow low R n ≤ low + 64 := by
  have := reachR_le low R
  unfold tLow
  split <;> omega
theorem tL_len (low : Int) (R : Rng) (L : List Pl) (n : Int) : (tL low R L n).length ≤ L.length := by
  have := trimL_len L n
  unfold tL
  split
  · exact Nat.le_refl _
  · split
    · exact Nat.le_refl _
    · exact this
theorem Cp.trims {low : Int} {R : Rng} {L : List Pl} (h : Cp low R L) (n : Int) : Cp (tLow low R n) (tR low R n) (tL low R L n) := by
  unfold tLow tR tL
  by_cases a : reachR low R < n
  · rw [if_pos a, if_pos a, if_pos a]; exact h
  · rw [if_neg a, if_neg a, if_neg a]
    by_cases b : n ≤ low
    · rw [if_pos b]; exact h.trim0 b
    · rw [if_neg b]; exact h.trim (by omega) (by omega)
theorem strim_all (p : Nat) (low : Int) (R : Rng) (n : Int) (l0 : 0 ≤ low) (l1 : low ≤ 1000000) (hI : RI low R) (w : World) (hS : Sf p low R w) :
    Calls Try.prog 28 #[.pointer (some ⟨p, 0, none⟩), .int .u64 n] w fun e w' => e = .returned (.int .i64 (tE low R n)) ∧ Sf p (tLow low R n) (tR low R n) w' ∧ But w.heap.size p w w' := by
  unfold tE tLow tR
  by_cases a : reachR low R < n
  · rw [if_pos a, if_pos a, if_pos a]
    exact (strim_no p low R n l0 l1 a w hS).mono fun e w' h => ⟨h.1, hS.below h.2, But.of h.2⟩
  · rw [if_neg a, if_neg a, if_neg a]
    exact strim_yes p low R n l0 l1 hI (by omega) w hS
theorem ftrim_all (B q : Nat) (low : Int) (R : Rng) (L : List Pl) (n : Int) (hC : Cp low R L) (hL : L.length ≤ 1000) (l1 : low ≤ 1000000) (w : World) (hB : B ≤ w.heap.size) (hF : Rf B q low L w) :
    Calls Try.prog 29 #[.pointer (some ⟨q, 0, none⟩), .int .u64 n] w fun e w' => e = .returned (.int .i64 (tE low R n)) ∧ Rf B q (tLow low R n) (tL low R L n) w' ∧ But B q w w' := by
  have hr := hC.reach l1
  unfold tE tLow tL
  by_cases a : reachR low R < n
  · rw [if_pos a, if_pos a, if_pos a]
    refine (ftrim_no B q low L n hL (hC.nm l1) hC.l0 l1 w hF (Or.inl (by rw [hr]; exact a))).mono fun e w' h => ?_
    rw [hr, if_pos a] at h
    exact ⟨h.1, hF.below h.2, But.of (h.2.mono hB)⟩
  · rw [if_neg a, if_neg a, if_neg a]
    by_cases b : n ≤ low
    · rw [if_pos b, show max low n = low by omega]
      refine (ftrim_no B q low L n hL (hC.nm l1) hC.l0 l1 w hF (Or.inr b)).mono fun e w' h => ?_
      rw [hr, if_neg a] at h
      exact ⟨h.1, hF.below h.2, But.of (h.2.mono hB)⟩
    · rw [if_neg b, show max low n = n by omega]
      exact ftrim_yes B q low L n hL (hC.nm l1) hC.l0 l1 w hB hF (by rw [hr]; omega) (by omega)
theorem fput_all (B q : Nat) (low : Int) (R : Rng) (L : List Pl) (n : Int) (g : Ms) (hC : Cp low R L) (hL : L.length ≤ 1000) (n0 : 0 ≤ n) (n1 : n ≤ 18446744073709551615) (l1 : low ≤ 1000000) (w : World) (hB : B ≤ w.heap.size) (hF : Rf B q low L w) :
    Calls Try.prog 27 #[.pointer (some ⟨q, 0, none⟩), .int .u64 n, .agg #[.int .i64 g.s, .int .u64 g.m, .string g.x]] w fun e w' =>
      e = .returned (.int .i64 (putE low (hasR low R n) n g)) ∧ Rf B q low (putL low L n g) w' ∧ But B q w w' := by
  rw [← hC.has]
  exact fput_any B q low L n g hL n0 n1 hC.l0 l1 w hB hF
theorem putL_len (low : Int) (L : List Pl) (n : Int) (g : Ms) : (putL low L n g).length ≤ L.length + 1 := by
  unfold putL
  split
  · simp
  · omega
theorem fget_all (B q : Nat) (low : Int) (R : Rng) (L : List Pl) (n : Int) (hC : Cp low R L) (hL : L.length ≤ 1000) (w : World) (hF : Rf B q low L w) :
    Calls Try.prog 23 #[.pointer (some ⟨q, 0, none⟩), .int .u64 n] w fun e w' =>
      e = .returned (.tuple #[.agg #[.int .i64 (getM low R n).s, .int .u64 (getM low R n).m, .string (getM low R n).x], .int .i64 (getE low (hasR low R n) n)]) ∧ Below w.heap.size w w' := by
  refine (fget_any B q low L n hL w hF).mono ?_
  rintro e w' ⟨⟨g, rfl, h1, h2⟩, hb⟩
  rw [hC.get h1 h2, hC.has]
  exact ⟨rfl, hb⟩
theorem freach_all (B q : Nat) (low : Int) (R : Rng) (L : List Pl) (hC : Cp low R L) (hL : L.length ≤ 1000) (l1 : low ≤ 1000000) (w : World) (hF : Rf B q low L w) :
    Calls Try.prog 47 #[.pointer (some ⟨q, 0, none⟩)] w fun e w' => e = .returned (.int .u64 (reachR low R)) ∧ Below w.heap.size w w' := by
  have h := rreach_any B q low L hL (hC.nm l1) hC.l0 l1 w hF
  rw [hC.reach l1] at h
  exact h
theorem fhave_all (B q : Nat) (low : Int) (R : Rng) (L : List Pl) (hC : Cp low R L) (hL : L.length ≤ 1000) (l1 : low ≤ 1000000) (w : World) (hF : Rf B q low L w) :
    Calls Try.prog 21 #[.pointer (some ⟨q, 0, none⟩)] w fun e w' => (∃ v, e = .returned v ∧ Rs v (haveR low R) w') ∧ Below w.heap.size w w' := by
  have h := fhave_any B q low L hL (hC.nm l1) hC.l0 l1 w hF
  rw [hC.have l1] at h
  exact h
theorem Sf.butB {B p q : Nat} {low : Int} {R : Rng} {w w' : World} (h : Sf p low R w) (k : But B q w w') (hp : p < B) (hq : p ≠ q) : Sf p low R w' := h.keep (k.block p hp hq)
end Go.Proofs.Ytlbeincgknmijaa
