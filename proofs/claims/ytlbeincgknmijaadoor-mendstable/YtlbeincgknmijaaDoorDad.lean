/-
  Clones; Add, of the code.
-/
import Derived.Test.YtlbeincgknmijaaDoorDwa
import Derived.Test.YtlbeincgknmijaaDoorDha
namespace Go.Proofs.YtlbeincgknmijaaDoor
open Go.RowKit

theorem joinS_nil_one {n : Int} (h0 : 0 ≤ n) (h1 : n < 18446744073709551615) : joinS [] [⟨n, n⟩] = walkS orB [] [⟨n, n⟩] := joinS_of trivial (one_up h0 h1)

end Go.Proofs.YtlbeincgknmijaaDoor
