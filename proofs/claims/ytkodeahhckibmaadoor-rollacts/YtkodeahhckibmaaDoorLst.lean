/-
  list: what is known of the nodes that are wanted.
-/
import Derived.Test.YtkodeahhckibmaaDoorRow
namespace Go.Proofs.YtkodeahhckibmaaDoor
open Go.RowKit

theorem Tryd.sizeEs : (Tryd.prog.info? 51).map (·.size) = some 256 := by kernel_rfl
theorem below_alloc (w : World) (o : Obj) : Below w.heap.size w (w.alloc o) := (Below.refl _ _).alloc (Nat.le_refl _) _

theorem part4 (f : Tab) {j : Nat} (hj : j < 64) : (entsC f).toArray.extract (j * 4) (j * 4 + 4) = #[.bool (f j).isSome, .int .i64 (ud (f j)).n, .int .u64 (ud (f j)).i, .int .i64 (ud (f j)).s] := by
  refine Array.ext_getElem? fun c => ?_
  simp only [Array.getElem?_extract, List.getElem?_toArray, List.size_toArray, entsC_length]
  by_cases hc : c < 4
  · rw [if_pos (by omega), entsC_get f hj hc]
    simp [entC]
  · rw [if_neg (by omega)]
    rw [List.getElem?_eq_none (by simp; omega)]

theorem run_index_ents (f : Tab) {j : Nat} (hj : j < 64) (w : World) : (Instr.index 51 (.agg (entsC f).toArray) (.int .i64 j)).run Tryd.prog w = .ok (.agg #[.bool (f j).isSome, .int .i64 (ud (f j)).n, .int .u64 (ud (f j)).i, .int .i64 (ud (f j)).s]) w := by
  have h0 : (0 : Int) ≤ j ∧ (j : Int) < 64 := by omega
  have h1 := part4 f hj
  have h2 : (entsC f).toArray.size = 256 := by simp [entsC_length]
  generalize (entsC f).toArray = A at *
  simp [Instr.index, go_sem, h0, hj, h1]

/-- What is told of the wanted ones, among the first n nodes. -/
def pickN (f : Tab) (b : Nat → Bool) : Nat → List Upd
  | 0 => []
  | n + 1 => pickN f b n ++ if b n then [ud (f n)] else []
theorem pickN_length (f : Tab) (b : Nat → Bool) (n : Nat) : (pickN f b n).length ≤ n := by
  induction n with
  | zero => exact Nat.le_refl _
  | succ n ih => simp only [pickN, List.length_append]; split <;> simp <;> omega

set_option maxRecDepth 100000 in
set_option maxHeartbeats 1000000 in
theorem list_any (p : Nat) (me : Int) (f : Tab) (F : FuncId) (caps : Array Value) (b : Nat → Bool) (w : World) (hR : Rl p me f w) (hF : ∀ args w', (callFunc F args).run Tryd.prog w' = .ok (.enter F args) w')
    (hcl : ∀ (j : Nat) (w' : World), j < 64 → Below w.heap.size w w' → Calls Tryd.prog F (#[.int .i64 j] ++ caps) w' fun e w'' => e = .returned (.bool (b j)) ∧ Below w'.heap.size w' w'') :
    Calls Tryd.prog 35 #[.pointer (some ⟨p, 0, none⟩), .func (.func F) #[] caps] w fun e w' => (∃ v, e = .returned v ∧ Own w.heap.size v (pickN f b 64) w') ∧ Below w.heap.size w w' := by
  have hix := fun {j : Nat} (hj : j < 64) (w' : World) => run_index_ents f hj w'
  go_enter Tryd.func35, Tryd.ntmps35
  go_wp2_with fail
  refine wp_load_mid 51 (.tmp 10) rfl p 1 rfl (entsC f) _ hR.range Tryd.underlying51 rfl (by rw [Tryd.sizeEs, entsC_length]) ?_
  generalize (entsC f).toArray = A at *
  go_wp2_with fail
  go_loopg [5, 12] 64 (fun gk t5 t12 wr => ∃ k : Nat, k + gk = 64 ∧ t12 = .int .i64 k ∧ Own w.heap.size t5 (pickN f b k) wr ∧ Below w.heap.size w wr)
  case atStart => exact ⟨0, by omega, rfl, Own.nil _ _, Below.refl _ _⟩
  case round =>
    obtain ⟨k, hk, rfl, hO, hB⟩ := hrel
    by_cases hlt : (k : Int) < 64
    · have hk' : k < 64 := by omega
      have k0 : (0 : Int) ≤ k := by omega
      have hix' := hix hk'
      clear hix
      have hE : ∀ z, b k = z → Hid (pickN f b (k + 1) = pickN f b k ++ (if z then [ud (f k)] else [])) := fun z e => by subst e; rfl
      have hl := pickN_length f b k
      generalize pickN f b k = M at *
      generalize (f k).isSome = c at *
      generalize ud (f k) = u at *
      have ba := below_alloc wr (.cells #[.bool c, .int .i64 u.n, .int .u64 u.i, .int .i64 u.s] 50)
      have hB1 := hB.trans (ba.mono hB.size)
      have hO1 := hO.below ba
      have hb := hcl k _ hk' hB1
      clear hcl
      have hX : ∃ w1, w1 = wr.alloc (.cells #[.bool c, .int .i64 u.n, .int .u64 u.i, .int .i64 u.s] 50) ∧ w1.heap[wr.heap.size]? = some (.cells #[.bool c, .int .i64 u.n, .int .u64 u.i, .int .i64 u.s] 50 (0, 0)) := ⟨_, rfl, heap_alloc_new _ _⟩
      cases hbk : b k
      case false =>
        have hE := hE _ hbk
        rw [hbk] at hb
        go_wp2_with fail
        refine hb.mono ?_
        rintro e w2 ⟨rfl, hb2⟩
        have hB2 := hB1.trans (hb2.mono hB1.size)
        have hO2 := hO1.below hb2
        go_wp2_with fail
        go_roundg (gk - 1)
        case rel => exact ⟨k + 1, by omega, by go_num, by rw [hE.out]; simpa using hO2, hB2⟩
        case measure => omega
      case true =>
        have hE := hE _ hbk
        rw [hbk] at hb
        obtain ⟨w1, e1, hX⟩ := hX
        rw [← e1] at hb hB1 hO1 ba
        go_wp2_with fail
        rw [← e1]
        refine hb.mono ?_
        rintro e w2 ⟨rfl, hb2⟩
        have hB2 := hB1.trans (hb2.mono hB1.size)
        have hO2 := hO1.below hb2
        have hlt1 : wr.heap.size < w1.heap.size := (Array.getElem?_eq_some_iff.1 hX).1
        have hX2 : w2.heap[wr.heap.size]? = some (.cells #[.bool c, .int .i64 u.n, .int .u64 u.i, .int .i64 u.s] 50 (0, 0)) := (hb2.block _ hlt1).trans hX
        have x1 : w2.cell? ⟨wr.heap.size, 1, none⟩ = some (.int .i64 u.n) := by simp [World.cell?, hX2]
        have x2 : w2.cell? ⟨wr.heap.size, 2, none⟩ = some (.int .u64 u.i) := by simp [World.cell?, hX2]
        have x3 : w2.cell? ⟨wr.heap.size, 3, none⟩ = some (.int .i64 u.s) := by simp [World.cell?, hX2]
        have bc := below_alloc w2 (.cells #[.int .i64 u.n, .int .u64 u.i, .int .i64 u.s] 34)
        have hB3 := hB2.trans (bc.mono hB2.size)
        have hO3 := hO2.below bc
        have hY := Bx.new 34 u.n u.i u.s w2
        have hU := Ru.one (u := u) hY
        have hz3 := hB3.size
        clear hb hb2 hX hX2 e1 ba hB1 hO1 hB2 hO2 bc hY hO hB
        go_wp2_with (at_builtin; refine wpList_app _ rfl (.tmp 19) (.tmp 22) rfl w.heap.size _ M rfl hO3 hz3 w2.heap.size 0 1 [u] 1 rfl rfl hU (by simp; omega) ?_; intro v' w' h1 h3 h4)
        have hB4 : Below w.heap.size w w' := hB3.trans ⟨h3.os, h3.tape, h3.output, h3.size, fun q hq => h3.block q (by omega) (fun e => by have := (hO3.lt q e.symm).1; omega)⟩
        clear h3 h4 hU hO3 hB3
        go_roundg (gk - 1)
        case rel => exact ⟨k + 1, by omega, by go_num, by rw [hE.out]; simpa using h1, hB4⟩
        case measure => omega
    · obtain rfl : k = 64 := by omega
      go_wp2_with fail
      go_ret
      exact ⟨⟨_, rfl, hO⟩, hB⟩
end Go.Proofs.YtkodeahhckibmaaDoor
