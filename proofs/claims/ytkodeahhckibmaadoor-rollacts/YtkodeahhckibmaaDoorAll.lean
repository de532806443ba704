/-
  All, Live, New.
-/
import Derived.Test.YtkodeahhckibmaaDoorLst
import Derived.Test.YtkodeahhckibmaaDoorBbt
namespace Go.Proofs.YtkodeahhckibmaaDoor
open Go.RowKit

theorem Own.mono {B C : Nat} {v : Value} {l : List Upd} {w : World} (h : Own C v l w) (hB : B ≤ C) : Own B v l w := by
  refine ⟨h.1, ?_⟩
  rcases h.2 with hn | ⟨g, cap, cur, e, hb, rest⟩
  · exact Or.inl hn
  · exact Or.inr ⟨g, cap, cur, e, Nat.le_trans hB hb, rest⟩
theorem enter_of {P : Program} {f : FuncId} {fn : Func} {c : Code} (hf : P.funcs[f]? = some fn) (hn : (fn.name == "runtime.NumGoroutine") = false) (hb : fn.body = some c) (args : Array Value) (w : World) :
    (callFunc f args).run P w = .ok (.enter f args) w := by
  have : fn.name ≠ "runtime.NumGoroutine" := by simpa using hn
  simp [callFunc, hf, this, hb]

/-- All that is known. -/
def allS (f : Tab) : List Upd := pickN f (fun j => (f j).isSome) 64
theorem allS_length (f : Tab) : (allS f).length ≤ 64 := pickN_length f _ 64

set_option maxHeartbeats 1000000 in
theorem all_any (p : Nat) (me : Int) (f : Tab) (w : World) (hR : Rl p me f w) :
    Calls Tryd.prog 16 #[.pointer (some ⟨p, 0, none⟩)] w fun e w' => (∃ v, e = .returned v ∧ Own w.heap.size v (allS f) w') ∧ Below w.heap.size w w' := by
  have hP := Pt.new p w
  have ba := below_alloc w (.cells #[.pointer (some ⟨p, 0, none⟩)] 25)
  have hR1 := hR.below ba
  have hL := list_any p me f 37 #[.pointer (some ⟨w.heap.size, 0, none⟩)] (fun j => (f j).isSome) _ hR1 (enter_of Tryd.func37 (by kernel_rfl) rfl)
    (fun j w' hj hb => (known_any w.heap.size p me f j hj w' (hP.below hb) (hR1.below hb)).mono fun e w'' h => ⟨h.1, by rw [h.2]; exact Below.refl _ _⟩)
  go_enter Tryd.func16, Tryd.ntmps16
  go_wp2_with fail
  refine hL.mono ?_
  rintro e w1 ⟨⟨v, rfl, hO⟩, hB⟩
  go_wp2_with fail
  go_ret
  exact ⟨⟨v, rfl, hO.mono ba.size⟩, ba.trans (hB.mono ba.size)⟩

/-- The band of those that are live. -/
def bandS (l : List Upd) : Nat := l.foldl (fun b u => if liveS u.s then Bnd.withS b u.n else b) 0
theorem bandS_lt (l : List Upd) : bandS l < Bnd.lim := by
  unfold bandS
  suffices ∀ b, b < Bnd.lim → l.foldl (fun b u => if liveS u.s then Bnd.withS b u.n else b) b < Bnd.lim from this 0 (by decide)
  induction l with
  | nil => intro b h; exact h
  | cons x r ih => intro b h; refine ih _ ?_; dsimp only; split; exact Bnd.withS_lt h _; exact h
theorem bandS_take (l : List Upd) (k : Nat) (hk : k < l.length) : bandS (l.take (k + 1)) = if liveS l[k].s then Bnd.withS (bandS (l.take k)) l[k].n else bandS (l.take k) := by
  unfold bandS
  rw [List.take_add_one, List.getElem?_eq_getElem hk, List.foldl_append]
  rfl

set_option maxRecDepth 100000 in
set_option maxHeartbeats 1000000 in
theorem rlive_any (p : Nat) (me : Int) (f : Tab) (w : World) (hR : Rl p me f w) :
    Calls Tryd.prog 17 #[.pointer (some ⟨p, 0, none⟩)] w fun e w' => e = .returned (.int .u64 (bandS (allS f))) ∧ Below w.heap.size w w' := by
  have hA := all_any p me f w hR
  have hl := allS_length f
  generalize allS f = l at *
  go_enter Tryd.func17, Tryd.ntmps17
  go_wp2_with fail
  refine hA.mono ?_
  rintro e w1 ⟨⟨v, rfl, hO⟩, hB1⟩
  have hRu := hO.ru
  clear hO hA
  obtain ⟨a, cap, rfl, c1, c2, h3⟩ := id hRu
  go_wp2_with fail
  go_loopg [3, 9] l.length (fun gk t3 t9 wr => ∃ k : Nat, k + gk = l.length ∧ t9 = .int .i64 k ∧ t3 = .int .u64 (bandS (l.take k)) ∧ Below w1.heap.size w1 wr)
  case atStart => exact ⟨0, by omega, rfl, rfl, Below.refl _ _⟩
  case round =>
    obtain ⟨k, hk, rfl, rfl, hB⟩ := hrel
    by_cases hlt : (k : Int) < l.length
    · have hk' : k < l.length := by omega
      have k0 : (0 : Int) ≤ k := by omega
      rcases h3 with h3 | ⟨g, off, rfl, h3⟩
      · omega
      obtain ⟨x0, x1, x2⟩ : wr.cell? ⟨g, off + k * 3, none⟩ = some (.int .i64 l[k].n) ∧ wr.cell? ⟨g, off + k * 3 + 1, none⟩ = some (.int .u64 l[k].i) ∧ wr.cell? ⟨g, off + k * 3 + 2, none⟩ = some (.int .i64 l[k].s) := by
        obtain ⟨_, _, e, _, _, e3⟩ := hRu.below hB
        cases e
        rcases e3 with e3 | ⟨g', off', e, e3⟩
        · omega
        · cases e; exact e3 k hk'
      have hT : Hid _ := bandS_take l k hk'
      have hlt := bandS_lt (l.take k)
      generalize bandS (l.take k) = b at *
      generalize l[k] = u at *
      have hX := Bx.new 34 u.n u.i u.s wr
      have ba := below_alloc wr (.cells #[.int .i64 u.n, .int .u64 u.i, .int .i64 u.s] 34)
      have hB2 := hB.trans (ba.mono hB.size)
      go_wp2_with fail
      refine (live_any _ _ _ _).mono ?_
      cases hv : liveS u.s
      case false =>
        rintro e w2 ⟨rfl, hb2⟩
        rw [hv] at hT
        have hB3 := hB2.trans (hb2.mono hB2.size)
        go_wp2_with fail
        go_roundg (gk - 1)
        case rel => exact ⟨k + 1, by omega, by go_num, by rw [hT.out]; rfl, hB3⟩
        case measure => omega
      case true =>
        rintro e w2 ⟨rfl, hb2⟩
        rw [hv] at hT
        have hB3 := hB2.trans (hb2.mono hB2.size)
        have hX2 := hX.below hb2
        have y0 := hX2.c0
        go_wp2_with fail
        refine (Bnd.with_any b hlt _ _).mono ?_
        rintro e w3 ⟨rfl, rfl⟩
        go_wp2_with fail
        go_roundg (gk - 1)
        case rel => exact ⟨k + 1, by omega, by go_num, by rw [hT.out]; rfl, hB3⟩
        case measure => omega
    · obtain rfl : k = l.length := by omega
      rw [List.take_length]
      go_wp2_with fail
      go_ret
      exact ⟨rfl, hB1.trans (hB.mono hB1.size)⟩

/-- What a new roll of k knows. -/
def newS (k : Nat) : Tab := Tab.set (fun _ => none) k ⟨k, 0, 0⟩
theorem zero_roll : ((Tryd.prog.info? 53).bind (·.zero)) = some (.agg (rollC 0 fun _ => none).toArray) := by kernel_rfl
theorem run_zero_roll (w : World) : (zeroValue 53).run Tryd.prog w = .ok (.agg (rollC 0 fun _ => none).toArray) w := by
  have h := zero_roll
  generalize Value.agg (rollC 0 fun _ => none).toArray = v at *
  cases hi : Tryd.prog.info? 53 with
  | none => simp [hi] at h
  | some i =>
    rw [hi] at h
    have hz : i.zero = some v := h
    simp [zeroValue, typeInfo, hi, hz]
theorem roll_zero_set (me : Int) : (rollC 0 fun _ => none).toArray.setIfInBounds 0 (.int .i64 me) = (rollC me fun _ => none).toArray := by simp [rollC]
theorem roll_zero_ne : ((rollC 0 fun _ => none).toArray = #[]) = False := by simp [rollC]

set_option maxHeartbeats 1000000 in
theorem new_any (me : Int) (w : World) : Calls Tryd.prog 6 #[.int .i64 me] w fun e w' =>
    (∀ k : Nat, me = k → k < 64 → ∃ p, e = .returned (.pointer (some ⟨p, 0, none⟩)) ∧ w.heap.size ≤ p ∧ Rl p k (newS k) w') ∧ (¬ (0 ≤ me ∧ me < 64) → e = .returned (.pointer none)) ∧ Below w.heap.size w w' := by
  have hX := Bx.new 34 me 0 0 w
  have ba := below_alloc w (.cells #[.int .i64 me, .int .u64 0, .int .i64 0] 34)
  have hM : mayS me 0 = decide (0 ≤ me ∧ me < 64) := by simp [mayS]
  go_enter Tryd.func6, Tryd.ntmps6
  go_wp2_with fail
  refine (may_any _ _ _ _).mono ?_
  rw [hM]
  by_cases h : 0 ≤ me ∧ me < 64
  · obtain ⟨k, rfl⟩ : ∃ k : Nat, me = k := ⟨me.toNat, by omega⟩
    have hk : k < 64 := by omega
    rw [decide_eq_true h]
    rintro e w1 ⟨rfl, hb1⟩
    have hB1 := ba.trans (hb1.mono ba.size)
    have hX1 := hX.below hb1
    clear hX ba hb1 hM
    have x0 := hX1.c0
    have x1 := hX1.c1
    have x2 := hX1.c2
    have hz := run_zero_roll
    have hs := roll_zero_set k
    have hn := roll_zero_ne
    generalize (rollC 0 fun _ => none).toArray = A at *
    generalize hC : (rollC k fun _ => none).toArray = C at *
    have bc := below_alloc w1 (.cells C 53)
    have hR : Rl w1.heap.size k (fun _ => none) (w1.alloc (.cells C 53)) := ⟨by rw [hC]; exact heap_alloc_new _ _⟩
    have hX2 := hX1.below bc
    clear x0 x1 x2 hX1 hC
    have x0 := hX2.c0
    have x1 := hX2.c1
    have x2 := hX2.c2
    go_wp2_with fail
    refine (keep_any _ k _ k ⟨k, 0, 0⟩ rfl hk _ hR).mono ?_
    rintro e w2 ⟨rfl, hR2, hb2⟩
    go_wp2_with fail
    go_ret
    refine ⟨fun k' e' _ => ?_, fun hh => absurd h hh, ?_⟩
    · obtain rfl : k = k' := by omega
      exact ⟨_, rfl, hB1.size, hR2⟩
    · exact (hB1.trans (bc.mono hB1.size)).trans (((hb2.mono (B := w1.heap.size) (by simp)).to (Nat.le_refl _)).mono hB1.size)
  · rw [decide_eq_false h]
    rintro e w1 ⟨rfl, hb1⟩
    go_wp2_with fail
    go_ret
    exact ⟨fun k e hk => absurd (show 0 ≤ me ∧ me < 64 by omega) h, fun _ => rfl, ba.trans (hb1.mono ba.size)⟩
end Go.Proofs.YtkodeahhckibmaaDoor
