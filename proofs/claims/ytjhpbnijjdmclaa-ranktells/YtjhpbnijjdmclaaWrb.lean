/-
  The walk of RankTells, as the frame takes it.
-/
import Derived.Test.YtjhpbnijjdmclaaTel
namespace Go.Proofs.Ytjhpbnijjdmclaa
open Go.RowKit

theorem tells_walk (n i s m j t me inc : Int) (a : Option Addr) (len cap : Nat) (l : List Upd) (_ : (Lit.int .i64 n).wf = true) (h0 : (Lit.int .u64 i).wf = true) (_ : (Lit.int .i64 s).wf = true) (_ : (Lit.int .i64 m).wf = true) (_ : (Lit.int .u64 j).wf = true) (_ : (Lit.int .i64 t).wf = true)
    (_ : (Lit.int .i64 me).wf = true) (h1 : (Lit.int .u64 inc).wf = true) (w : World) (hU : IsUpds w a len cap l) :
    Calls Try.prog 3 #[.agg #[.int .i64 n, .int .u64 i, .int .i64 s], .agg #[.int .i64 m, .int .u64 j, .int .i64 t], .int .i64 me, .int .u64 inc, .slice a len cap] w fun e w' => e = .returned (.bool true) ∧ Below w.heap.size w w' := tells_core n i s m j t me inc a len cap l h0 h1 w hU
end Go.Proofs.Ytjhpbnijjdmclaa
