/-
  What is lacking, of the code and of the reference; what is shown.
-/
import Derived.Test.YtlbeincgknmijaaDfi
import Derived.Test.YtlbeincgknmijaaDwa
namespace Go.Proofs.Ytlbeincgknmijaa
open Go.RowKit

theorem firstM_ok (l : List Sn) (n : Int) : ∀ s ∈ firstM l n, SnOk s := by
  unfold firstM
  cases h : mayS l
  · intro s hs; cases hs
  · exact (firstS_up ((mayS_iff l).1 h)).ok
theorem firstM_le (l : List Sn) (n : Int) : (firstM l n).length ≤ l.length := by
  unfold firstM
  split
  · exact firstS_len l n
  · simp
theorem minusM_ok (a b : List Sn) : ∀ s ∈ minusS a b, SnOk s := by
  unfold minusS
  cases h1 : mayS a <;> cases h2 : mayS b
  · intro s hs; cases hs
  · intro s hs; cases hs
  · intro s hs; cases hs
  · exact (walkS_up rfl ((mayS_iff a).1 h1) ((mayS_iff b).1 h2)).ok
theorem minusM_le (a b : List Sn) : (minusS a b).length ≤ a.length + b.length := by
  unfold minusS
  cases h1 : mayS a <;> cases h2 : mayS b
  · simp
  · simp
  · simp
  · exact walkS_len rfl ((mayS_iff a).1 h1) ((mayS_iff b).1 h2)

theorem Ow.mono {B C : Nat} {v : Value} {l : List Sn} {w : World} (h : Ow C v l w) (hB : B ≤ C) : Ow B v l w := by
  refine ⟨h.1, ?_⟩
  rcases h.2 with hn | ⟨g, cap, cur, rfl, hb, rest⟩
  · exact Or.inl hn
  · exact Or.inr ⟨g, cap, cur, rfl, Nat.le_trans hB hb, rest⟩

/-- What b has, and a has not: the first n numbers. -/
def lackM (a b : List Sn) (n : Int) : List Sn := firstM (minusS b a) n
theorem lackM_ok (a b : List Sn) (n : Int) : ∀ s ∈ lackM a b n, SnOk s := firstM_ok _ n
theorem lackM_le (a b : List Sn) (n : Int) : (lackM a b n).length ≤ b.length + a.length := Nat.le_trans (firstM_le _ n) (minusM_le b a)

set_option maxRecDepth 100000 in
set_option maxHeartbeats 1000000 in
theorem lack_any (va vb : Value) (a b : List Sn) (n : Int) (w : World) (hRa : Rs va a w) (hRb : Rs vb b w) (hla : a.length ≤ 10000) (hlb : b.length ≤ 10000) (n0 : 0 ≤ n) (n1 : n ≤ 18446744073709551615) :
    Calls Try.prog 10 #[va, vb, .int .u64 n] w fun e w' => (∃ v, e = .returned v ∧ Ow w.heap.size v (lackM a b n) w') ∧ Below w.heap.size w w' := by
  have hm := minusM_le b a
  unfold lackM
  go_enter Try.func10, Try.ntmps10
  go_wp2_with fail
  refine (minus_any _ _ b a _ hRb hRa (by omega) (by omega)).mono ?_
  rintro e w2 ⟨⟨v, rfl, hO⟩, hb2⟩
  have hR := hO.rs (minusM_ok b a)
  go_wp2_with fail
  refine (first_any _ _ n _ hR (by omega) n0 n1).mono ?_
  rintro e w3 ⟨⟨v3, rfl, hO3⟩, hb3⟩
  go_wp2_with fail
  go_ret
  exact ⟨⟨_, rfl, hO3.mono hb2.size⟩, hb2.trans (hb3.mono hb2.size)⟩

theorem shown_lack : lackM [⟨1, 2⟩] [⟨1, 5⟩] 9 = [⟨3, 5⟩] := by kernel_rfl
end Go.Proofs.Ytlbeincgknmijaa
