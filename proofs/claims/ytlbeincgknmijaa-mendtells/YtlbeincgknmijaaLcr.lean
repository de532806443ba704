/-
  The reference's Lack; what is shown.
-/
import Derived.Test.YtlbeincgknmijaaLck
import Derived.Test.YtlbeincgknmijaaDmi
import Derived.Test.YtlbeincgknmijaaDsa
namespace Go.Proofs.Ytlbeincgknmijaa
open Go.RowKit

set_option maxRecDepth 100000 in
set_option maxHeartbeats 1000000 in
theorem flack_any (va vb : Value) (a b : List Sn) (n : Int) (w : World) (hRa : Rs va a w) (hRb : Rs vb b w) (hla : a.length ≤ 10000) (hlb : b.length ≤ 10000) (n0 : 0 ≤ n) (n1 : n ≤ 18446744073709551615) :
    Calls Try.prog 11 #[va, vb, .int .u64 n] w fun e w' => (∃ v, e = .returned v ∧ Rs v (lackM a b n) w') ∧ Below w.heap.size w w' := by
  have hm := minusM_le b a
  have hk := lackM_ok a b n
  unfold lackM at hk ⊢
  go_enter Try.func11, Try.ntmps11
  go_wp2_with fail
  refine (fminus_any _ _ b a _ hRb hRa (by omega) (by omega)).mono ?_
  rintro e w2 ⟨⟨v, rfl, hR⟩, hb2⟩
  go_wp2_with fail
  refine (ffirst_any _ _ n _ hR (by omega) n0 n1).mono ?_
  rintro e w3 ⟨⟨v3, rfl, hO3⟩, hb3⟩
  go_wp2_with fail
  go_ret
  exact ⟨⟨_, rfl, hO3.rs hk⟩, hb2.trans (hb3.mono hb2.size)⟩
end Go.Proofs.Ytlbeincgknmijaa
