/-
  The seven walks, at whatever numbers come in.
-/
import Derived.Test.YtclhmocdeiebbaaDoorTbl
import Derived.Test.YtclhmocdeiebbaaDoorLwh
import Derived.Test.YtclhmocdeiebbaaDoorLwp
import Derived.Test.YtclhmocdeiebbaaDoorLwn
import Derived.Test.YtclhmocdeiebbaaDoorLwb
import Derived.Test.YtclhmocdeiebbaaDoorLwr
import Derived.Test.YtclhmocdeiebbaaDoorLwm
import Derived.Test.YtclhmocdeiebbaaDoorLwt
namespace Go.Proofs.YtclhmocdeiebbaaDoor
open Go.RowKit Go.ChangeShapes

theorem half_walk (o : Int) (ho : (Lit.int .u64 o).wf = true) (w : World) (hT : Tab w) :
    Calls Tryd.prog 8 #[.int .u64 o] w fun e w' => e = .returned (.bool true) ∧ Below w.heap.size w w' := by
  obtain ⟨m, rfl, hm⟩ := u64_nat ho
  exact half_any m hm w hT
theorem places_walk (b x y : Int) (hb : (Lit.int .u64 b).wf = true) (_hx : (Lit.int .i64 x).wf = true) (_hy : (Lit.int .i64 y).wf = true) (w : World) (hT : Tab w) :
    Calls Tryd.prog 9 #[.int .u64 b, .int .i64 x, .int .i64 y] w fun e w' => e = .returned (.bool true) ∧ Below w.heap.size w w' := by
  obtain ⟨m, rfl, hm⟩ := u64_nat hb
  exact places_any m hm x y w hT
theorem next_walk (b n : Int) (hb : (Lit.int .u64 b).wf = true) (hn : (Lit.int .u8 n).wf = true) (w : World) (hT : Tab w) :
    Calls Tryd.prog 7 #[.int .u64 b, .int .u8 n] w fun e w' => e = .returned (.bool true) ∧ Below w.heap.size w w' := by
  obtain ⟨m, rfl, hm⟩ := u64_nat hb
  have := bounds_u8 hn
  rcases Nat.eq_zero_or_pos m with rfl | h
  · exact bnext_zero n (by omega) (by omega) w hT
  · exact bnext_any m hm (by omega) n (by omega) (by omega) w hT
theorem back_walk (b n : Int) (hb : (Lit.int .u64 b).wf = true) (hn : (Lit.int .u8 n).wf = true) (w : World) (hT : Tab w) :
    Calls Tryd.prog 6 #[.int .u64 b, .int .u8 n] w fun e w' => e = .returned (.bool true) ∧ Below w.heap.size w w' := by
  obtain ⟨m, rfl, hm⟩ := u64_nat hb
  have := bounds_u8 hn
  exact back_any m hm n (by omega) (by omega) w hT
theorem rounds_walk (b n : Int) (hb : (Lit.int .u64 b).wf = true) (_hn : (Lit.int .i64 n).wf = true) (w : World) (hT : Tab w) :
    Calls Tryd.prog 5 #[.int .u64 b, .int .i64 n] w fun e w' => e = .returned (.bool true) ∧ Below w.heap.size w w' := by
  obtain ⟨m, rfl, hm⟩ := u64_nat hb
  exact rounds_any m hm n w hT
theorem meets_walk (a b o : Int) (ha : (Lit.int .u64 a).wf = true) (hb : (Lit.int .u64 b).wf = true) (ho : (Lit.int .u64 o).wf = true) (w : World) (hT : Tab w) :
    Calls Tryd.prog 4 #[.int .u64 a, .int .u64 b, .int .u64 o] w fun e w' => e = .returned (.bool true) ∧ Below w.heap.size w w' := by
  obtain ⟨a', rfl, ka⟩ := u64_nat ha
  obtain ⟨b', rfl, kb⟩ := u64_nat hb
  obtain ⟨o', rfl, ko⟩ := u64_nat ho
  exact meets_any a' b' o' ka kb ko w hT
theorem tells_walk (b o n : Int) (a : Option Addr) (len cap : Nat) (l : List Int) (hb : (Lit.int .u64 b).wf = true) (ho : (Lit.int .u64 o).wf = true) (_hn : (Lit.int .i64 n).wf = true) (w : World) (hR : Rd (.slice a len cap) l w) (hT : Tab w) :
    Calls Tryd.prog 3 #[.int .u64 b, .int .u64 o, .int .i64 n, .slice a len cap] w fun e w' => e = .returned (.bool true) ∧ Below w.heap.size w w' := by
  obtain ⟨b', rfl, kb⟩ := u64_nat hb
  obtain ⟨o', rfl, ko⟩ := u64_nat ho
  by_cases hl : l.length ≤ 200
  · exact tells_short b' o' kb ko n _ l w hT hR hl
  · exact tells_long _ _ n _ l w hT hR (by omega)

end Go.Proofs.YtclhmocdeiebbaaDoor
