/-
  hearAll: a panic that is recovered.
-/
import Derived.Test.YtkodeahhckibmaaDoorHea
import Derived.Defers
import Derived.Recover
namespace Go.Proofs.YtkodeahhckibmaaDoor
open Go.RowKit

/-- What hearAll answers, and what is known then. -/
def hearAllS (k : Nat) : Tab → List Upd → Int × Tab
  | f, [] => (0, f)
  | f, u :: l => if (hearS k f u).1.2 == 60 then (60, (hearS k f u).2) else hearAllS k (hearS k f u).2 l

/-- Block g holds an error's number. -/
structure Er (g : Nat) (x : Int) (w : World) : Prop where
  heap : w.heap[g]? = some (.cells #[.int .i64 x] 29 (0, 0))
section
variable {g : Nat} {x : Int} {w w' : World}
theorem Er.c (h : Er g x w) : w.cell? ⟨g, 0, none⟩ = some (.int .i64 x) := by simp [World.cell?, h.heap]
theorem Er.free (h : Er g x w) : w.frozen? ⟨g, 0, none⟩ = false := by simp [World.frozen?, h.heap]
theorem Er.lt (h : Er g x w) : g < w.heap.size := (Array.getElem?_eq_some_iff.1 h.heap).1
theorem Er.keep (h : Er g x w) (e : w'.heap[g]? = w.heap[g]?) : Er g x w' := ⟨e.trans h.heap⟩
theorem Er.set (h : Er g x w) (y : Int) : Er g y (w.setCell ⟨g, 0, none⟩ (.int .i64 y)) := ⟨by simp [World.setCell, Array.getElem?_modify, h.heap]⟩
theorem Er.new (w : World) : Er w.heap.size 0 (w.alloc (.cells #[.int .i64 0] 29)) := ⟨heap_alloc_new w _⟩
end

theorem catch_panicking (g : Nat) (x y : Int) (older : List PanicEntry) (w : World) (hE : Er g x w) :
    CallsD Tryd.prog 50 #[.pointer (some ⟨g, 0, none⟩)] (.panicking ({ v := .iface 29 (.int .i64 y), recovered := false } :: older)) w fun e u' w' =>
      e = .returned (.tuple #[]) ∧ u' = .panicking ({ v := .iface 29 (.int .i64 y), recovered := true } :: older) ∧ w' = w.setCell ⟨g, 0, none⟩ (.int .i64 y) := by
  have hc := hE.c
  have hz := hE.free
  refine callsD_of_wpS Tryd.func50 rfl fun c₀ cs hu => ?_
  apply wpS_seq
  apply wpS_region
  simp [wpOpsS, go_sem, recoverD, hu, Tryd.ntmps50, Exit.thenS]
  refine wpS_of_wp ?_
  rw [show (#[Value.pointer (some ⟨g, 0, none⟩)] ++ ((Array.replicate 6 undef).setIfInBounds 1 (Value.iface 29 (.int .i64 y))).setIfInBounds 0 (Value.iface 29 (.int .i64 y)) : Array Value) = #[.pointer (some ⟨g, 0, none⟩), .iface 29 (.int .i64 y), .iface 29 (.int .i64 y), undef, undef, undef, undef] from rfl]
  have hta : ∀ w : World, (Instr.typeAssert (.iface 29 (.int .i64 y)) 20 29 false).run Tryd.prog w = .ok (.int .i64 y) w := fun w => by kernel_rfl
  go_wp2_with fail
  cases c₀
  simp_all [bodyPostS, results, Tryd.results50]

theorem catch_idle (g : Nat) (w : World) :
    CallsD Tryd.prog 50 #[.pointer (some ⟨g, 0, none⟩)] .returning w fun e u' w' => e = .returned (.tuple #[]) ∧ u' = .returning ∧ w' = w := by
  refine callsD_of_wpS Tryd.func50 rfl fun c₀ cs hu => ?_
  apply wpS_seq
  apply wpS_region
  simp [wpOpsS, go_sem, recoverD, hu, Tryd.ntmps50, Exit.thenS]
  refine wpS_of_wp ?_
  rw [show (#[Value.pointer (some ⟨g, 0, none⟩)] ++ ((Array.replicate 6 undef).setIfInBounds 1 Value.nilIface).setIfInBounds 0 Value.nilIface : Array Value) = #[.pointer (some ⟨g, 0, none⟩), .nilIface, .nilIface, undef, undef, undef, undef] from rfl]
  go_wp2_with fail
  cases c₀
  simp_all [bodyPostS, results, Tryd.results50]

theorem hearAllS_drop (k : Nat) (g : Tab) (l : List Upd) (j : Nat) (hj : j < l.length) : hearAllS k g (l.drop j) = if (hearS k g l[j]).1.2 == 60 then (60, (hearS k g l[j]).2) else hearAllS k (hearS k g l[j]).2 (l.drop (j + 1)) := by
  rw [List.drop_eq_getElem_cons hj]
  rfl

theorem Ru.but {v : Value} {l : List Upd} {p : Nat} {w w' : World} (h : Ru v l w) (hv : l.length ≠ 0 → v.ownBlock ≠ some p) (hb : But w.heap.size p w w') : Ru v l w' := by
  by_cases h0 : l.length = 0
  · obtain ⟨a, cap, rfl, h1, h2, _⟩ := h
    exact ⟨a, cap, rfl, h1, h2, Or.inl h0⟩
  · exact h.keep fun g e hg => hb.block g hg (fun hp => hv h0 (by rw [e, hp]))

/-- What hearAll keeps. -/
structure Hl (w0 : World) (p k : Nat) (g : Tab) (w : World) : Prop where
  roll : Rl p k g w
  err : Er w0.heap.size 0 w
  but : But w0.heap.size p w0 w

set_option maxRecDepth 100000 in
set_option maxHeartbeats 1000000 in
theorem hearAll_any (p k : Nat) (f : Tab) (v : Value) (l : List Upd) (hk : k < 64) (w : World) (hR : Rl p k f w) (hU : Ru v l w) (hv : l.length ≠ 0 → v.ownBlock ≠ some p) (hl : l.length ≤ 1000000) (hin : ∀ u ∈ l, 0 ≤ u.i ∧ u.i ≤ 18446744073709551615) :
    Calls Tryd.prog 34 #[.pointer (some ⟨p, 0, none⟩), v] w fun e w' => e = .returned (.int .i64 (hearAllS k f l).1) ∧ Rl p k (hearAllS k f l).2 w' ∧ But w.heap.size p w w' := by
  obtain ⟨a, cap, rfl, c1, c2, h3⟩ := id hU
  have hlen : (l.length : Int) ≤ 1000000 := by omega
  have hmf : ∀ (fn : Fn) (first cap : Array Value) (w : World), (Instr.makeFunc fn first cap).run Tryd.prog w = .ok (.func fn first cap) w := fun _ _ _ _ => rfl
  have ba := below_alloc w (.cells #[.int .i64 0] 29)
  have hS : Hl w p k f (w.alloc (.cells #[.int .i64 0] 29)) := ⟨hR.below ba, Er.new w, But.of ba⟩
  obtain ⟨r, HR⟩ : ∃ r, Hid (hearAllS k f l = r) := ⟨_, rfl⟩
  rw [HR.out]
  go_enter_defers Tryd.func34, Tryd.ntmps34
  go_wp2_with fail
  go_loopg [12] l.length (fun gk t12 wr => ∃ (j : Nat) (g : Tab), j + gk = l.length ∧ t12 = .int .i64 j ∧ Hid (hearAllS k g (l.drop j) = r) ∧ Hl w p k g wr)
  case atStart => exact ⟨0, f, by omega, rfl, by show _ = _; rw [List.drop_zero]; exact HR.out, hS⟩
  case round =>
    obtain ⟨j, g, hj, rfl, hr, hH⟩ := hrel
    clear hS
    by_cases hlt : (j : Int) < l.length
    · have hj' : j < l.length := by omega
      have j0 : (0 : Int) ≤ j := by omega
      rcases h3 with h3 | ⟨b, off, rfl, h3⟩
      · omega
      obtain ⟨x0, x1, x2⟩ : wr.cell? ⟨b, off + j * 3, none⟩ = some (.int .i64 l[j].n) ∧ wr.cell? ⟨b, off + j * 3 + 1, none⟩ = some (.int .u64 l[j].i) ∧ wr.cell? ⟨b, off + j * 3 + 2, none⟩ = some (.int .i64 l[j].s) := by
        obtain ⟨_, _, e, _, _, e3⟩ := hU.but hv hH.but
        cases e
        rcases e3 with e3 | ⟨g', off', e, e3⟩
        · omega
        · cases e; exact e3 j hj'
      obtain ⟨i0, i1⟩ := hin l[j] (List.getElem_mem hj')
      have hst : Hid (r = _) := hr.out.symm.trans (hearAllS_drop k g l j hj')
      clear hr
      generalize l[j] = u at *
      have bb := below_alloc wr (.cells #[.int .i64 u.n, .int .u64 u.i, .int .i64 u.s] 34)
      have hX := Bx.new 34 u.n u.i u.s wr
      have hR1 := hH.roll.below bb
      have hp : p ≠ w.heap.size := fun e => by have := hR.lt; omega
      have hE := hH.err
      have hB1 := hH.but.trans ((But.of bb).mono hH.but.size)
      go_wp2_with fail
      refine (hear_any p k g u hk i0 i1 _ hR1).mono ?_
      generalize hearS k g u = q at *
      obtain ⟨⟨q1, q2⟩, g'⟩ := q
      rintro e w2 ⟨rfl, hR2, hb2⟩
      have hB2 := hB1.trans (hb2.mono hB1.size)
      have hE2 : Er w.heap.size 0 w2 := (hE.keep (bb.block _ hE.lt)).keep (hb2.block _ (by simp; have := hE.lt; omega) (fun e => hp e.symm))
      dsimp only at hst hR2 ⊢
      clear hR1 hB1 hX bb hb2 x0 x1 x2
      cases hq : (q2 == 60)
      case false =>
        rw [hq] at hst
        go_wp2_with fail
        go_roundg (gk - 1)
        case rel => exact ⟨j + 1, g', by omega, by go_num, hst.out.symm, ⟨hR2, hE2, hB2⟩⟩
        case measure => omega
      case true =>
        obtain rfl : q2 = 60 := by simpa using hq
        obtain rfl : r = (60, g') := by rw [hst.out, hq]; rfl
        clear hq
        go_wp2_with fail
        refine leaves_cons (f := 50) (args := #[.pointer (some ⟨w.heap.size, 0, none⟩)]) (by simp) (by simp [go_sem]) ?_
        refine (catch_panicking w.heap.size 0 60 [] _ hE2).mono ?_
        rintro e u' w'' ⟨rfl, rfl, rfl⟩
        have hE3 := (hE2.set 60).c
        simp [Leaves, settle, results, Tryd.results34, go_sem, hE3]
        exact ⟨hR2.other (q := ⟨w.heap.size, 0, none⟩) hp _, hB2.setCell (r := ⟨w.heap.size, 0, none⟩) (Or.inr (Nat.le_refl _)) _⟩
    · obtain rfl : j = l.length := by omega
      have hp : p ≠ w.heap.size := fun e => by have := hR.lt; omega
      have hE := hH.err
      have x0 := hE.c
      have x1 := hE.free
      obtain rfl : r = (0, g) := by rw [← hr.out, List.drop_length]; rfl
      go_wp2_with fail
      refine leaves_cons (f := 50) (args := #[.pointer (some ⟨w.heap.size, 0, none⟩)]) (by simp) (by simp [go_sem]) ?_
      refine (catch_idle w.heap.size _).mono ?_
      rintro e u' w'' ⟨rfl, rfl, rfl⟩
      have hE3 := (hE.set 0).c
      simp [Leaves, settle, results, Tryd.results34, go_sem, hE3]
      exact ⟨hH.roll.other (q := ⟨w.heap.size, 0, none⟩) hp _, hH.but.setCell (r := ⟨w.heap.size, 0, none⟩) (Or.inr (Nat.le_refl _)) _⟩
end Go.Proofs.YtkodeahhckibmaaDoor
