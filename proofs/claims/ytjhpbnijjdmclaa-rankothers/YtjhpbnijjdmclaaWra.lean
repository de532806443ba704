/-
  The walks of RankOthers and RankRefutes, as the frame takes them.
-/
import Derived.Test.YtjhpbnijjdmclaaRft
import Derived.Test.YtjhpbnijjdmclaaOpn
namespace Go.Proofs.Ytjhpbnijjdmclaa
open Go.RowKit

theorem others_walk (me inc n i s : Int) (h0 : (Lit.int .u8 me).wf = true) (h1 : (Lit.int .u64 inc).wf = true) (_ : (Lit.int .i64 n).wf = true) (h2 : (Lit.int .u64 i).wf = true) (_ : (Lit.int .i64 s).wf = true) (w : World) :
    Calls Try.prog 8 #[.int .u8 me, .int .u64 inc, .agg #[.int .i64 n, .int .u64 i, .int .i64 s]] w fun e w' => e = .returned (.bool true) ∧ Below w.heap.size w w' := others_core me inc n i s h0 h1 h2 w

theorem refutes_walk (me inc n i s : Int) (h0 : (Lit.int .u8 me).wf = true) (h1 : (Lit.int .u64 inc).wf = true) (_ : (Lit.int .i64 n).wf = true) (h2 : (Lit.int .u64 i).wf = true) (_ : (Lit.int .i64 s).wf = true) (w : World) :
    Calls Try.prog 5 #[.int .u8 me, .int .u64 inc, .agg #[.int .i64 n, .int .u64 i, .int .i64 s]] w fun e w' => e = .returned (.bool true) ∧ Below w.heap.size w w' := refutes_core me inc n i s h0 h1 h2 w
end Go.Proofs.Ytjhpbnijjdmclaa
