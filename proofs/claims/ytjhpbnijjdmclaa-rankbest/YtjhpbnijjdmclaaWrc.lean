/-
  The walk of RankBest, as the frame takes it.
-/
import Derived.Test.YtjhpbnijjdmclaaBes
namespace Go.Proofs.Ytjhpbnijjdmclaa
open Go.RowKit

set_option maxRecDepth 100000 in
theorem best_long (a : Option Addr) (len cap : Nat) (at_ : Int) (w : World) (hl : (100 : Int) < len) :
    Calls Try.prog 6 #[.slice a len cap, .int .u8 at_] w fun e w' => e = .returned (.bool true) ∧ Below w.heap.size w w' := by
  go_enter Try.func6, Try.ntmps6
  go_wp2_with (go_at_call 9; refine (shown_any _).mono ?_; rintro e w1 ⟨rfl, hb1⟩)
  go_ret
  exact ⟨rfl, hb1⟩

theorem best_walk (a : Option Addr) (len cap : Nat) (l : List Upd) (at_ : Int) (h : (Lit.int .u8 at_).wf = true) (w : World) (hU : IsUpds w a len cap l) :
    Calls Try.prog 6 #[.slice a len cap, .int .u8 at_] w fun e w' => e = .returned (.bool true) ∧ Below w.heap.size w w' := by
  obtain ⟨rfl, hR, _⟩ := hU
  by_cases hl : (100 : Int) < l.length
  · exact best_long a l.length cap at_ w hl
  · exact best_core a cap l at_ (bounds_u8 h) w hR (by omega)
end Go.Proofs.Ytjhpbnijjdmclaa
