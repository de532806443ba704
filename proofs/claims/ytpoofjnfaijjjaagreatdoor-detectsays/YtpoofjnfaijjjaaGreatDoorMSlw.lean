/-
  Notes in boxes; a call as one step of a region that draws its order; a row of one update. Rows of watches: IndexFunc, DeleteFunc, Clone.
-/
import Derived.Test.YtpoofjnfaijjjaaGreatDoorMTkd
import Derived.Deep.RegionLaw
import Derived.Laws.OwnMore
import Derived.Test.YtpoofjnfaijjjaaGreatDoorMClr
import Derived.Deep.RegionHeld3
namespace Go.Proofs.YtpoofjnfaijjjaaGreatDoor
open Go.RowKit Go.Proofs.YtpoofjnfaijjjaaGreatDoor.Ro

/-- A note as a value; its news are the slice v. -/
abbrev ntC (k f t q o : Int) (v : Value) : Array Value := #[.int .i64 k, .int .i64 f, .int .i64 t, .int .u64 q, .int .i64 o, v]
/-- Block g is a box of a note. -/
structure Bn (g : Nat) (k f t q o : Int) (v : Value) (w : World) : Prop where
  heap : w.heap[g]? = some (.cells (ntC k f t q o v) 37 (0, 0))
section
variable {g : Nat} {k f t q o : Int} {v : Value} {w w' : World}
theorem Bn.c0 (h : Bn g k f t q o v w) : w.cell? ⟨g, 0, none⟩ = some (.int .i64 k) := by simp [World.cell?, h.heap]
theorem Bn.c1 (h : Bn g k f t q o v w) : w.cell? ⟨g, 1, none⟩ = some (.int .i64 f) := by simp [World.cell?, h.heap]
theorem Bn.c2 (h : Bn g k f t q o v w) : w.cell? ⟨g, 2, none⟩ = some (.int .i64 t) := by simp [World.cell?, h.heap]
theorem Bn.c3 (h : Bn g k f t q o v w) : w.cell? ⟨g, 3, none⟩ = some (.int .u64 q) := by simp [World.cell?, h.heap]
theorem Bn.c4 (h : Bn g k f t q o v w) : w.cell? ⟨g, 4, none⟩ = some (.int .i64 o) := by simp [World.cell?, h.heap]
theorem Bn.c5 (h : Bn g k f t q o v w) : w.cell? ⟨g, 5, none⟩ = some v := by simp [World.cell?, h.heap]
theorem Bn.free (h : Bn g k f t q o v w) (j : Nat) : w.frozen? ⟨g, j, none⟩ = false := free_of h.heap j
theorem Bn.lt (h : Bn g k f t q o v w) : g < w.heap.size := (Array.getElem?_eq_some_iff.1 h.heap).1
theorem Bn.keep (h : Bn g k f t q o v w) (e : w'.heap[g]? = w.heap[g]?) : Bn g k f t q o v w' := ⟨e.trans h.heap⟩
theorem Bn.below (h : Bn g k f t q o v w) (b : Below w.heap.size w w') : Bn g k f t q o v w' := h.keep (b.block g h.lt)
theorem Bn.drew (h : Bn g k f t q o v w) : Bn g k f t q o v w.drew := ⟨h.heap⟩
theorem Bn.new (k f t q o : Int) (v : Value) (w : World) : Bn w.heap.size k f t q o v (w.alloc (.cells (ntC k f t q o v) 37)) := ⟨heap_alloc_new w _⟩
theorem Bn.set1 (h : Bn g k f t q o v w) (x : Int) : Bn g k x t q o v (w.setCell ⟨g, 1, none⟩ (.int .i64 x)) := ⟨by simp [World.setCell, Array.getElem?_modify, h.heap]⟩
theorem Bn.set5 (h : Bn g k f t q o v w) (x : Value) : Bn g k f t q o x (w.setCell ⟨g, 5, none⟩ x) := ⟨by simp [World.setCell, Array.getElem?_modify, h.heap]⟩
theorem Bn.other (h : Bn g k f t q o v w) {a : Addr} (ha : g ≠ a.block) (x : Value) : Bn g k f t q o v (w.setCell a x) := h.keep (Below.heap_setCell _ _ _ _ ha)
end
/-- Six cells of a box are written. -/
theorem Bn.set6 {g : Nat} {k f t q o : Int} {v : Value} {w : World} (h : Bn g k f t q o v w) (k' f' t' q' o' : Int) (v' : Value) :
    Bn g k' f' t' q' o' v' ((((((w.setCell ⟨g, 0, none⟩ (.int .i64 k')).setCell ⟨g, 1, none⟩ (.int .i64 f')).setCell ⟨g, 2, none⟩ (.int .i64 t')).setCell ⟨g, 3, none⟩ (.int .u64 q')).setCell ⟨g, 4, none⟩ (.int .i64 o')).setCell ⟨g, 5, none⟩ v') :=
  ⟨by simp [World.setCell, Array.getElem?_modify, h.heap]⟩
theorem bS {a w : World} (h : Below a.heap.size a w) {g : Nat} (hg : a.heap.size ≤ g) (j : Nat) (x : Value) : Below a.heap.size a (w.setCell ⟨g, j, none⟩ x) := h.setCell (p := ⟨g, j, none⟩) hg x
/-- A row of one update. -/
theorem own_one {B g : Nat} {u : Upd} {w : World} (h : Bx 39 g u.n u.i u.s w) (hB : B ≤ g) : Ro.Own B (.slice (some ⟨g, 0, none⟩) 1 1) [u] w :=
  ⟨rfl, Or.inr ⟨g, 1, #[.int .i64 u.n, .int .u64 u.i, .int .i64 u.s], rfl, hB, h.heap, Nat.le_refl _, by unfold maxLen; omega, rfl, rfl⟩⟩
/-- A call, as one step of a region. -/
theorem step_call {P : Program} {ops : Array Oper} {oi : Oper} {a : Act} {K : Act → World → Prop} {Q : Exit → Act → World → Prop} {E : Prop} {w : World} (hg : oi.guard = none) (F : FuncId) (xs : List Operand) (ts : Array TypeId)
    (ho : oi.op = .call { callee := .value (.func F), args := xs.toArray, argTypes := ts }) (vs : List Value) (hen : ∀ args w, (callFunc F args).run P w = .ok (.enter F args) w) (hx : xs.map a.eval = vs)
    {R : Ending → World → Prop} (hc : Calls P F vs.toArray w R) (h : ∀ e w', R e w' → ∃ v, e = .returned v ∧ K (a.put oi.dst v) w') : if Region.wanted oi (yielded ops a.tmps) = true then Oper.wp P oi a w K Q else E := by
  have hw : Region.wanted oi (yielded ops a.tmps) = true := by simp [Region.wanted, hg]
  rw [if_pos hw]
  have he : Act.eval a (.func F) = .func (.func F) #[] #[] := rfl
  unfold Oper.wp execOp
  simp only [ho, resolve, he, Deferred.ofValue, invoke, Sem.run_bind, Sem.run_pure, Result.andThen_ok, List.map_toArray, hx, hen, Array.append_empty]
  rw [Array.empty_append]
  refine Calls.mono hc ?_
  intro e w' hR
  obtain ⟨v, rfl, hK⟩ := h e w' hR
  exact hK
/-- What an append of a row to a row does, be it none. -/
theorem wp_app2 {o : Oper} {a : Act} {K : Act → World → Prop} {Q : Exit → Act → World → Prop} (w : World) (s x : Operand)
    (ho : o.op = .call { callee := .builtin .append, args := #[s, x], argTypes := #[35, 35] }) (B C : Nat) (v u : Value) (l r : List Upd) (hs : a.eval s = v) (hown : Ro.Own B v l w) (hB : B ≤ w.heap.size)
    (hx : a.eval x = u) (hu : Ro.Own C u r w) (hl : l.length + r.length ≤ 1000000)
    (h : ∀ v' w', Ro.Own B v' (l ++ r) w' → w.grownBy w' v.ownBlock → (v'.ownBlock = v.ownBlock ∨ v'.ownBlock = some w.heap.size) → K (a.put o.dst v') w') : o.wp Tryz.prog a w K Q := by
  rcases id hu.2 with ⟨rfl, h0⟩ | ⟨g, cap, cur, rfl, _⟩
  · obtain rfl : r = [] := List.length_eq_zero_iff.1 h0
    obtain ⟨i0, hi, _, _, _⟩ := info_parts infoU
    have hr := run_append_owned_none (P := Tryz.prog) w B 35 o.type 39 i0 3 Tryz.underlying35 hi v l.length (flat l) hown
    unfold Oper.wp execOp
    simp only [ho, resolve, invoke, builtin, Sem.run_bind, Sem.run_pure, Result.andThen_ok, List.map_toArray, List.map_cons, List.map_nil, hs, hx, hr]
    exact h v w (by rw [List.append_nil]; exact hown) ⟨rfl, rfl, rfl, Nat.le_refl _, fun _ _ _ => rfl⟩ (.inl rfl)
  · exact wp_app w s x ho B v l hs hown hB g 0 cap r r.length rfl hx hu.ru hl h
theorem step_app2 {ops : Array Oper} {o : Oper} {a : Act} {K : Act → World → Prop} {Q : Exit → Act → World → Prop} {E : Prop} (w : World) (hgd : o.guard = none) (s x : Operand)
    (ho : o.op = .call { callee := .builtin .append, args := #[s, x], argTypes := #[35, 35] }) (B C : Nat) (v u : Value) (l r : List Upd) (hs : a.eval s = v) (hown : Ro.Own B v l w) (hB : B ≤ w.heap.size)
    (hx : a.eval x = u) (hu : Ro.Own C u r w) (hl : l.length + r.length ≤ 1000000)
    (h : ∀ v' w', Ro.Own B v' (l ++ r) w' → w.grownBy w' v.ownBlock → (v'.ownBlock = v.ownBlock ∨ v'.ownBlock = some w.heap.size) → K (a.put o.dst v') w') :
    if Region.wanted o (yielded ops a.tmps) = true then Oper.wp Tryz.prog o a w K Q else E := by
  have hw : Region.wanted o (yielded ops a.tmps) = true := by simp [Region.wanted, hgd]
  rw [if_pos hw]
  exact wp_app2 w s x ho B C v u l r hs hown hB hx hu hl h
theorem Bn.grown {g : Nat} {k f t q o : Int} {v : Value} {w w' : World} {row : Option Nat} (h : Bn g k f t q o v w) (hg : w.grownBy w' row) (hr : row ≠ some g) : Bn g k f t q o v w' := h.keep (hg.block g h.lt (fun e => hr e.symm))
theorem bG {a w w' : World} {row : Option Nat} (h : Below a.heap.size a w) (hg : w.grownBy w' row) (hr : ∀ g, row = some g → a.heap.size ≤ g) : Below a.heap.size a w' :=
  h.trans ⟨hg.os, hg.tape, hg.output, hg.size, fun i hi => hg.block i (Nat.lt_of_lt_of_le hi h.size) (fun e => by have := hr i e.symm; omega)⟩
theorem below_set6 {B g : Nat} {a w : World} (h : Below B a w) (hg : B ≤ g) (x0 x1 x2 x3 x4 x5 : Value) :
    Below B a ((((((w.setCell ⟨g, 0, none⟩ x0).setCell ⟨g, 1, none⟩ x1).setCell ⟨g, 2, none⟩ x2).setCell ⟨g, 3, none⟩ x3).setCell ⟨g, 4, none⟩ x4).setCell ⟨g, 5, none⟩ x5) :=
  (((((h.setCell (p := ⟨g, 0, none⟩) hg _).setCell (p := ⟨g, 1, none⟩) hg _).setCell (p := ⟨g, 2, none⟩) hg _).setCell (p := ⟨g, 3, none⟩) hg _).setCell (p := ⟨g, 4, none⟩) hg _).setCell (p := ⟨g, 5, none⟩) hg _
/-- What is written above where its parts lie changes nothing of it. -/
theorem Sx.high {k Bp p : Nat} {b : Bl} {d0 d : Det} {l0 l : List Int} {w0 w w' : World} (h0 : Sx k Bp p b d0 l0 w0) (h : Sx k Bp p b d l w) (hb : Below w0.heap.size w w') : Sx k Bp p b d l w' :=
  ⟨h.dt.keep hb.size (fun i g hg => hb.block g (h0.dt.sep.lt i g hg).2) (hb.block 1 h0.dt.tab.lt), h.lots.keep fun g _ hg => hb.block g (by have := h0.lots.lt; omega), h.lok, h.out, h.low⟩
theorem Stp.high {p : Nat} {b b' : Bl} {w0 w w' : World} (S : Stp p b w0 b' w) (hb : Below w0.heap.size w w') : Stp p b w0 b' w' :=
  ⟨S.q, S.r, S.fr, hb.os.trans S.os, hb.tape.trans S.tape, hb.output.trans S.output, Nat.le_trans S.size hb.size, fun g hg hp hn => (hb.block g hg).trans (S.block g hg hp hn)⟩
end Go.Proofs.YtpoofjnfaijjjaaGreatDoor
namespace Go.Proofs.YtpoofjnfaijjjaaGreatDoor
open Go.RowKit Go.Proofs.YtpoofjnfaijjjaaGreatDoor.Ro

theorem Tryz.infoW : (Tryz.prog.info? 133).map (fun i => (i.zero, i.size, i.bytes)) = some (some (.agg #[.int .i64 0, .int .u64 0, .int .u64 0, .bool false]), 4, 32) := by kernel_rfl
theorem Tryz.zeroW (w : World) : (zeroValue 133).run Tryz.prog w = .ok (.agg #[.int .i64 0, .int .u64 0, .int .u64 0, .bool false]) w := by
  have h : Tryz.t133.zero = some (.agg #[.int .i64 0, .int .u64 0, .int .u64 0, .bool false]) := by kernel_rfl
  simp [zeroValue, h]
section
variable {g cap : Nat} {l : List Wch} {w : World}
/-- A thing's cells. -/
abbrev cellsW (x : Wch) : Array Value := #[.int .i64 x.n, .int .u64 x.q, .int .u64 x.a, .bool x.h]
theorem OwE.atW {T : TypeId} {B : Nat} {v : Value} (h : OwE encW T B v l w) (hv : v = .slice (some ⟨g, 0, none⟩) l.length cap) (j : Nat) (hj : j < l.length) : w.cell? ⟨g, j * 4, none⟩ = some (.int .i64 l[j].n) ∧ w.cell? ⟨g, j * 4 + 1, none⟩ = some (.int .u64 l[j].q) ∧ w.cell? ⟨g, j * 4 + 2, none⟩ = some (.int .u64 l[j].a) ∧ w.cell? ⟨g, j * 4 + 3, none⟩ = some (.bool l[j].h) := by
  obtain ⟨a, c, e, _, _, h3⟩ := h.rd
  rw [hv] at e; cases e
  rcases h3 with h3 | ⟨g', off, e, h3⟩
  · omega
  · cases e
    have h0 := fun c hc => h3 j c hj hc
    simp only [Nat.zero_add] at h0
    exact ⟨h0 0 (by decide), h0 1 (by decide), h0 2 (by decide), h0 3 (by decide)⟩
/-- Block g is a box of such a thing. -/
structure BW (g : Nat) (x : Wch) (w : World) : Prop where
  heap : w.heap[g]? = some (.cells (cellsW x) 133 (0, 0))
theorem BW.c0 {x : Wch} (h : BW g x w) : w.cell? ⟨g, 0, none⟩ = some (.int .i64 x.n) := by simp [World.cell?, h.heap]
theorem BW.c1 {x : Wch} (h : BW g x w) : w.cell? ⟨g, 1, none⟩ = some (.int .u64 x.q) := by simp [World.cell?, h.heap]
theorem BW.c2 {x : Wch} (h : BW g x w) : w.cell? ⟨g, 2, none⟩ = some (.int .u64 x.a) := by simp [World.cell?, h.heap]
theorem BW.c3 {x : Wch} (h : BW g x w) : w.cell? ⟨g, 3, none⟩ = some (.bool x.h) := by simp [World.cell?, h.heap]
theorem BW.free {x : Wch} (h : BW g x w) (j : Nat) : w.frozen? ⟨g, j, none⟩ = false := free_of h.heap j
theorem BW.lt {x : Wch} (h : BW g x w) : g < w.heap.size := (Array.getElem?_eq_some_iff.1 h.heap).1
theorem BW.keep {x : Wch} {w' : World} (h : BW g x w) (e : w'.heap[g]? = w.heap[g]?) : BW g x w' := ⟨e.trans h.heap⟩
theorem BW.below {x : Wch} {w' : World} (h : BW g x w) (b : Below w.heap.size w w') : BW g x w' := h.keep (b.block g h.lt)
theorem BW.drew {x : Wch} (h : BW g x w) : BW g x w.drew := ⟨h.heap⟩
theorem BW.new (x : Wch) (w : World) : BW w.heap.size x (w.alloc (.cells (cellsW x) 133)) := ⟨heap_alloc_new w _⟩
theorem BW.rd {x : Wch} (h : BW g x w) : RdE encW (.slice (some ⟨g, 0, none⟩) 1 1) [x] w :=
  ⟨_, 1, rfl, Nat.le_refl _, by unfold maxLen; omega, Or.inr ⟨g, 0, rfl, fun j c hj hc => by
    obtain rfl : j = 0 := by simpa using hj
    have hc : c < 4 := hc
    simp [World.cell?, h.heap, encW, cellsW]⟩⟩

set_option maxRecDepth 100000 in
set_option maxHeartbeats 1000000 in
theorem indexfW_any (J : World → Prop) (hJb : ∀ w w', J w → Below w.heap.size w w' → J w') (F : FuncId) (caps : Array Value) (f : Wch → Bool) (hs : l.length ≤ 1000000) (hO : OwE encW 133 0 (.slice (some ⟨g, 0, none⟩) l.length cap) l w) (hF : ∀ args w', (callFunc F args).run Tryz.prog w' = .ok (.enter F args) w')
    (hcl : ∀ x ∈ l, ∀ w', J w' → Calls Tryz.prog F (#[.agg (cellsW x)] ++ caps) w' fun e w'' => e = .returned (.bool (f x)) ∧ Below w'.heap.size w' w'') (hJ : J w) :
    Calls Tryz.prog 176 #[.slice (some ⟨g, 0, none⟩) l.length cap, .func (.func F) #[] caps] w fun e w' => ((∃ n : Nat, e = .returned (.int .i64 n) ∧ ∃ h : n < l.length, f l[n] = true ∧ ∀ x ∈ l.take n, f x = false) ∨ (e = .returned (.int .i64 (-1)) ∧ ∀ x ∈ l, f x = false)) ∧ Below w.heap.size w w' := by
  go_enter Tryz.func176, Tryz.ntmps176
  go_wp2_with fail
  go_loopg [8] l.length (fun gk t8 wr => ∃ i : Nat, i + gk = l.length ∧ t8 = .int .i64 i ∧ (∀ x ∈ l.take i, f x = false) ∧ J wr ∧ Below w.heap.size w wr)
  case atStart => exact ⟨0, by omega, rfl, by simp, hJ, Below.refl _ _⟩
  case round =>
    obtain ⟨i, hi, rfl, hx, hJr, hB⟩ := hrel
    by_cases hlt : (i : Int) < l.length
    · have i0 : (0 : Int) ≤ i := by omega
      have hil : i < l.length := by omega
      obtain ⟨c0, c1, c2, c3⟩ := (hO.below hB).atW rfl i hil
      have hb := hcl l[i] (List.getElem_mem hil) wr hJr
      have HX : Hid (∀ x ∈ l.take i, f x = false) := hx
      have hat : Hid (f l[i] = true → ∃ h : i < l.length, f l[i] = true ∧ ∀ x ∈ l.take i, f x = false) := fun e => ⟨hil, e, HX.out⟩
      have hns : Hid (f l[i] = false → ∀ x ∈ l.take (i + 1), f x = false) := fun e x hm => by
        rw [List.take_add_one, List.getElem?_eq_getElem hil] at hm
        rcases List.mem_append.1 hm with hm | hm
        · exact HX.out x hm
        · have e' : x = l[i] := by simpa using hm
          rw [e']; exact e
      clear hcl hx
      obtain ⟨y, HY⟩ : ∃ y, Hid (y = l[i]) := ⟨l[i], rfl⟩
      rw [← HY.out] at hb hns c0 c1 c2 c3
      cases hbk : f y
      case false =>
        rw [hbk] at hb
        have hns := hns.out hbk
        go_wp2_with fail
        refine hb.mono ?_
        rintro e w1 ⟨rfl, hb1⟩
        go_wp2_with fail
        go_roundg (gk - 1)
        case rel => exact ⟨i + 1, by omega, by go_num, hns, hJb _ _ hJr hb1, hB.trans (hb1.mono hB.size)⟩
        case measure => omega
      case true =>
        rw [hbk] at hb
        have HK : Hid (f y = true) := hbk
        go_wp2_with fail
        refine hb.mono ?_
        rintro e w1 ⟨rfl, hb1⟩
        go_wp2_with fail
        go_ret
        exact ⟨Or.inl ⟨i, rfl, hat.out (by rw [← HY.out]; exact HK.out)⟩, hB.trans (hb1.mono hB.size)⟩
    · obtain rfl : i = l.length := by omega
      rw [List.take_length] at hx
      have HX : Hid _ := hx
      clear hx
      go_wp2_with fail
      go_ret
      exact ⟨Or.inr ⟨rfl, HX.out⟩, hB⟩

theorem Tryz.elemW : Tryz.prog.underlying 91 = some (.slice (Tryz.prog.elem 91)) := by kernel_rfl
theorem Tryz.sizeW (w : World) : (sizeOf (Tryz.prog.elem 91)).run Tryz.prog w = .ok 4 w := by
  rw [show Tryz.prog.elem 91 = 133 by kernel_rfl]
  simp [sizeOf]
  kernel_rfl
theorem cutW (g N i cap : Nat) (hi : i < N) (hN : N ≤ cap) : ∀ w', (Instr.slice 91 (.slice (some ⟨g, 0, none⟩) N cap) (some (.int .i64 (i : Int))) none none).run Tryz.prog w' = .ok (.slice (some ⟨g, i * 4, none⟩) (N - i) (cap - i)) w' := fun w' => by
  rw [run_slice_l (P := Tryz.prog) (w := w') 91 (some ⟨g, 0, none⟩) N cap Tryz.elemW .i64 (i : Int) (by omega) (by omega), Tryz.sizeW]
  show Result.ok (sliced _ _ _ _ _) _ = _
  rw [sliced, if_neg (by omega)]
  simp [Addr.add]
  omega
theorem but_bW {g : Nat} {a w w' : World} (h : Ro.But a.heap.size g a w) (k : Below w.heap.size w w') : Ro.But a.heap.size g a w' := h.trans ((Ro.But.of k).mono h.size)

set_option maxRecDepth 100000 in
set_option maxHeartbeats 2000000 in
theorem deleteW_any (J : World → Prop) (hJb : ∀ w w', J w → Below w.heap.size w w' → J w') (hJs : ∀ w j v, J w → J (w.setCell ⟨g, j, none⟩ v)) (F : FuncId) (caps : Array Value) (f : Wch → Bool) (hs : l.length ≤ 1000000) (hO : OwE encW 133 0 (.slice (some ⟨g, 0, none⟩) l.length cap) l w) (hF : ∀ args w', (callFunc F args).run Tryz.prog w' = .ok (.enter F args) w')
    (hcl : ∀ x ∈ l, ∀ w', J w' → Calls Tryz.prog F (#[.agg (cellsW x)] ++ caps) w' fun e w'' => e = .returned (.bool (f x)) ∧ Below w'.heap.size w' w'') (hJ : J w) :
    Calls Tryz.prog 146 #[.slice (some ⟨g, 0, none⟩) l.length cap, .func (.func F) #[] caps] w fun e w' => (e = .returned (.slice (some ⟨g, 0, none⟩) (l.filter (fun x => !f x)).length cap) ∧ OwE encW 133 0 (.slice (some ⟨g, 0, none⟩) (l.filter (fun x => !f x)).length cap) (l.filter (fun x => !f x)) w') ∧ J w' ∧ Ro.But w.heap.size g w w' := by
  have hI := indexfW_any J hJb F caps f hs hO hF hcl hJ
  obtain ⟨_, hcur, _, hlc, hcm, _⟩ := hO.block rfl
  have hgz : g < w.heap.size := (Array.getElem?_eq_some_iff.1 hcur).1
  clear hcur
  obtain ⟨t, HT⟩ : ∃ t, Hid (l.filter (fun x => !f x) = t) := ⟨_, rfl⟩
  rw [HT.out]
  go_enter Tryz.func146, Tryz.ntmps146
  go_wp2_with fail
  refine hI.mono ?_
  rintro e w1 ⟨(⟨n, rfl, hn, hb, hx⟩ | ⟨rfl, hx⟩), hb1⟩
  · have HD : Hid (DelG f l l n (n + 1)) := DelG.start hn hb hx
    have hn1 : ((n : Int) == -1) = false := by rw [beq_eq_false_iff_ne]; omega
    have hJ1 := hJb _ _ hJ hb1
    have hO1 := hO.below hb1
    have hB1 : Ro.But w.heap.size g w w1 := Ro.But.of hb1
    clear hb hx hI hO hJ hb1
    go_wp2_with fail
    go_loopg [5, 6] l.length (fun gk t5 t6 wr => ∃ (i j : Nat) (r : List Wch), l.length ≤ j + gk ∧ t5 = .int .i64 i ∧ t6 = .int .i64 j ∧ Hid (DelG f l r i j) ∧ OwE encW 133 0 (.slice (some ⟨g, 0, none⟩) r.length cap) r wr ∧ J wr ∧ Ro.But w.heap.size g w wr)
    case atStart => exact ⟨n, n + 1, l, by omega, rfl, by go_num, HD, hO1, hJ1, hB1⟩
    case round =>
      obtain ⟨i, j, r, hg, rfl, rfl, HD, hOr, hJr, hB⟩ := hrel
      have hlen := HD.out.len
      have hij := HD.out.lt
      have hjl := HD.out.le
      by_cases hlt : (j : Int) < l.length
      · have hj : j < l.length := by omega
        have j0 : (0 : Int) ≤ j := by omega
        have i0 : (0 : Int) ≤ i := by omega
        have i1 : (i : Int) < l.length := by omega
        obtain ⟨c0, c1, c2, c3⟩ := hOr.atW rfl j (by omega)
        rw [HD.out.at hj] at c0 c1 c2 c3
        have hsk : f l[j] = true → Hid (DelG f l r i (j + 1)) := fun e => HD.out.skip hj e
        have hpt : f l[j] = false → Hid (DelG f l (r.set i l[j]) (i + 1) (j + 1)) := fun e => HD.out.put hj e
        have hcj := hcl l[j] (List.getElem_mem hj)
        clear HD
        generalize l[j] = y at *
        have bY := below_alloc wr (.cells (cellsW y) 133)
        have hY := BW.new y wr
        have hO2 := hOr.below bY
        have hJ2 := hJb _ _ hJr bY
        have hB2 := but_bW hB bY
        have hb := hcj _ hJ2
        obtain ⟨w2, HW2⟩ : ∃ w2, Hid (w2 = wr.alloc (.cells (cellsW y) 133)) := ⟨_, rfl⟩
        rw [← HW2.out] at hY hO2 hJ2 hB2 hb
        have x0 := hY.c0
        have x1 := hY.c1
        have x2 := hY.c2
        have x3 := hY.c3
        cases hbk : f y
        case true =>
          have hsk := hsk hbk
          rw [hbk] at hb
          clear hpt
          go_upto_region 8 with fail
          rw [← HW2.out]
          go_wp2_with fail
          refine hb.mono ?_
          rintro e w3 ⟨rfl, hb3⟩
          go_wp2_with fail
          go_roundg (gk - 1)
          case rel => exact ⟨i, j + 1, r, by omega, rfl, by go_num, hsk, hO2.below hb3, hJb _ _ hJ2 hb3, but_bW hB2 hb3⟩
          case measure => omega
        case false =>
          have hpt := hpt hbk
          rw [hbk] at hb
          clear hsk
          go_upto_region 8 with fail
          rw [← HW2.out]
          go_wp2_with fail
          refine hb.mono ?_
          rintro e w3 ⟨rfl, hb3⟩
          have hY3 := hY.below hb3
          have hO3 := hO2.below hb3
          have hJ3 := hJb _ _ hJ2 hb3
          have hB3 := but_bW hB2 hb3
          obtain ⟨e0, e1, e2, e3⟩ := hO3.atW rfl i (by omega)
          have f0 := hO3.free rfl (i * 4)
          have f1 := hO3.free rfl (i * 4 + 1)
          have f2 := hO3.free rfl (i * 4 + 2)
          have f3 := hO3.free rfl (i * 4 + 3)
          clear x0 x1 x2 x3
          have x0 := hY3.c0
          have x1 := hY3.c1
          have x2 := hY3.c2
          have x3 := hY3.c3
          have hO4 := hO3.set rfl i (by omega) y
          have hB4 := (Ro.But.setCell (Ro.But.setCell (Ro.But.setCell (Ro.But.setCell hB3 (r := ⟨g, i * 4, none⟩) (Or.inl rfl) (.int .i64 y.n)) (r := ⟨g, i * 4 + 1, none⟩) (Or.inl rfl) (.int .u64 y.q)) (r := ⟨g, i * 4 + 2, none⟩) (Or.inl rfl) (.int .u64 y.a)) (r := ⟨g, i * 4 + 3, none⟩) (Or.inl rfl) (.bool y.h))
          have hJ4 := (hJs _ (i * 4 + 3) (.bool y.h) (hJs _ (i * 4 + 2) (.int .u64 y.a) (hJs _ (i * 4 + 1) (.int .u64 y.q) (hJs _ (i * 4) (.int .i64 y.n) hJ3))))
          obtain ⟨w4, HW4⟩ : ∃ w4, Hid (w4 = (((w3.setCell ⟨g, i * 4, none⟩ (.int .i64 y.n)).setCell ⟨g, i * 4 + 1, none⟩ (.int .u64 y.q)).setCell ⟨g, i * 4 + 2, none⟩ (.int .u64 y.a)).setCell ⟨g, i * 4 + 3, none⟩ (.bool y.h)) := ⟨_, rfl⟩
          have hO4' : OwE encW 133 0 (.slice (some ⟨g, 0, none⟩) r.length cap) (r.set i y) w4 := by rw [HW4.out]; exact hO4
          rw [← HW4.out] at hB4 hJ4
          generalize r[i]'(by omega) = z at *
          go_wp2_with fail
          rw [← HW4.out]
          go_roundg (gk - 1)
          case rel => exact ⟨i + 1, j + 1, r.set i y, by omega, by go_num, by go_num, hpt, by rw [List.length_set]; exact hO4', hJ4, hB4⟩
          case measure => omega
      · obtain rfl : j = l.length := by omega
        have hd := HD.out.done
        rw [List.take_length, HT.out] at hd
        have hti : t.length = i := by rw [← hd, List.length_take]; omega
        have hcut := cutW g l.length i cap hij hlc
        have hclear := fun ty => run_clear_rows (P := Tryz.prog) wr 91 133 ty (.agg #[.int .i64 0, .int .u64 0, .int .u64 0, .bool false]) Tryz.underlying91 Tryz.zeroW (by decide) g (i * 4) (l.length - i) (cap - i) (by omega) (fun m hm => hOr.some_ rfl _ (by show _ < cap * 4; have : m < (l.length - i) * 4 := hm; omega)) (fun m _ => hOr.free rfl _)
        have hOc := hOr.cut rfl i (by omega) (i * 4) (Nat.le_refl _) (Builtin.zeroCells (Value.agg #[.int .i64 0, .int .u64 0, .int .u64 0, .bool false]).cells (l.length - i)).toList
        have hBc := but_setCells (Builtin.zeroCells (Value.agg #[.int .i64 0, .int .u64 0, .int .u64 0, .bool false]).cells (l.length - i)).toList (i * 4) wr hB
        have hJc : ∀ (vs : List Value) (o : Nat) (w : World), J w → J (w.setCells g o vs) := fun vs => by
          induction vs with
          | nil => intro o w h; exact h
          | cons v r ih => intro o w h; exact ih _ _ (hJs _ _ _ h)
        have hJc := hJc (Builtin.zeroCells (Value.agg #[.int .i64 0, .int .u64 0, .int .u64 0, .bool false]).cells (l.length - i)).toList (i * 4) wr hJr
        generalize wr.setCells g (i * 4) (Builtin.zeroCells (Value.agg #[.int .i64 0, .int .u64 0, .int .u64 0, .bool false]).cells (l.length - i)).toList = w5 at *
        rw [hd] at hOc
        have HOC : Hid _ := hOc
        have hic : (i : Int) ≤ cap := by omega
        have HD' : Hid _ := hti
        clear hd hcl HD hOc hOr hti
        go_wp2_with fail
        go_ret
        rw [HD'.out]
        exact ⟨⟨rfl, HOC.out⟩, hJc, hBc⟩
  · have ht : l = t := by rw [← HT.out]; exact (List.filter_eq_self.2 (fun x hm => by rw [hx x hm]; rfl)).symm
    have hJ1 := hJb _ _ hJ hb1
    have hO1 := hO.below hb1
    have hB1 : Ro.But w.heap.size g w w1 := Ro.But.of hb1
    clear hx hI
    subst ht
    go_wp2_with fail
    go_ret
    exact ⟨⟨rfl, hO1⟩, hJ1, hB1⟩
end
end Go.Proofs.YtpoofjnfaijjjaaGreatDoor
