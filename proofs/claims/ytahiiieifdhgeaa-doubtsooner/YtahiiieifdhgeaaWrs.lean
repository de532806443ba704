/-
  The walks of DoubtArgs, DoubtNew, DoubtSooner and DoubtOnce, as the frames take them.
-/
import Derived.Test.YtahiiieifdhgeaaWon
namespace Go.Proofs.Ytahiiieifdhgeaa
open Go.RowKit

theorem f64_of {b : Nat} (h : (Lit.float .f64 b).wf = true) : Hid (b < 2 ^ 64) := by show b < 2 ^ 64; simpa [Lit.wf] using h
theorem doubtArgs_walk (n i s from_ now nodes : Int) (base : Nat) (_hn : (Lit.int .i64 n).wf = true) (hi : (Lit.int .u64 i).wf = true) (_hs : (Lit.int .i64 s).wf = true) (_hf : (Lit.int .i64 from_).wf = true) (hw : (Lit.int .u64 now).wf = true) (hd : (Lit.int .i64 nodes).wf = true) (hb : (Lit.float .f64 base).wf = true) (w : World) :
    Calls Try.prog 7 #[.agg #[.int .i64 n, .int .u64 i, .int .i64 s], .int .i64 from_, .int .u64 now, .int .i64 nodes, .float .f64 base] w fun e w' => e = .returned (.bool true) ∧ Below w.heap.size w w' := by
  cases ha : argS n s from_
  · exact args_no n i s from_ now nodes base (u64_of hi) (u64_of hw) (f64_of hb) (i64_of hd) ha w
  · exact args_yes n i s from_ now nodes base (u64_of hi) (u64_of hw) (f64_of hb) (i64_of hd) ha w
theorem doubtNew_walk (a b now nodes : Int) (ha : (Lit.int .u32 a).wf = true) (hb : (Lit.int .u32 b).wf = true) (hw : (Lit.int .u32 now).wf = true) (hd : (Lit.int .u8 nodes).wf = true) (w : World) :
    Calls Try.prog 6 #[.int .u32 a, .int .u32 b, .int .u32 now, .int .u8 nodes] w fun e w' => e = .returned (.bool true) ∧ Below w.heap.size w w' := new_core a b now nodes (u32_of ha) (u32_of hb) (u32_of hw) (u8_of hd) w
theorem doubtSooner_walk (a : Option Addr) (len cap : Nat) (l : List Int) (since nodes : Int) (base : Nat) (hs : (Lit.int .u32 since).wf = true) (hd : (Lit.int .u8 nodes).wf = true) (hb : (Lit.float .f64 base).wf = true) (w : World) (h : IsBytes w a len cap l) :
    Calls Try.prog 4 #[.slice a len cap, .int .u32 since, .int .u8 nodes, .float .f64 base] w fun e w' => e = .returned (.bool true) ∧ Below w.heap.size w w' := by
  obtain ⟨rfl, h2, h3⟩ := h
  exact sooner_core a cap l since nodes base (u32_of hs) (u8_of hd) (f64_of hb) w h2 h3
theorem doubtOnce_walk (a : Option Addr) (len cap : Nat) (l : List Int) (drop now : Int) (hd : (Lit.int .u8 drop).wf = true) (hw : (Lit.int .u32 now).wf = true) (w : World) (h : IsBytes w a len cap l) :
    Calls Try.prog 5 #[.slice a len cap, .int .u8 drop, .int .u32 now] w fun e w' => e = .returned (.bool true) ∧ Below w.heap.size w w' := by
  obtain ⟨rfl, h2, h3⟩ := h
  exact once_core a cap l drop now (u8_of hd) (u32_of hw) w h2 h3
end Go.Proofs.Ytahiiieifdhgeaa
