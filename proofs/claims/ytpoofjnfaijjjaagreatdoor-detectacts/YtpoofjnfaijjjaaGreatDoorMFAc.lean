/-
  The reference's detector: its round and its lots; the detector's row of watches, put aside. The reference's watches and errands: boxes, rows, parts of rows. The reference's ack.
-/
import Derived.Test.YtpoofjnfaijjjaaGreatDoorMFSa
namespace Go.Proofs.YtpoofjnfaijjjaaGreatDoor.Fx
open Go.RowKit Go.Proofs.YtpoofjnfaijjjaaGreatDoor Go.Proofs.YtpoofjnfaijjjaaGreatDoor.Ro
section
variable {c : Rc} {b b' : Rw} {d : Det} {m : List Int} {w w' : World}
theorem fnext_any (h : Ry c b d m w) (v : Value) (o : List Int) (ho : o.length ≤ 64) (hon : o.Nodup) (hor : ∀ x ∈ o, Nd x) (hv : Rn.Rd .i64 v o w) (hvo : ∀ g, v.ownBlock = some g → g ≠ c.qs) :
    Calls Tryz.prog 49 #[.pointer (some ⟨c.qs, 0, none⟩), v, .pointer (some ⟨c.y, 0, none⟩)] w fun e w' => e = .returned (.tuple #[.int .i64 (Rn.nxtS d.s o m).1.1, .bool (Rn.nxtS d.s o m).1.2]) ∧ ∃ b', Ry c b' { d with s := (Rn.nxtS d.s o m).2.1 } (Rn.nxtS d.s o m).2.2 w' ∧ Sr c b w b' w' ∧ b'.vw = b.vw := by
  have hy := h.out 4 c.qs rfl
  refine (Rn.fnextr_any c.w0 (rows b.vs w) c.qs c.y c.la c.lcap v d.s o c.L m w (by omega) h.len hv hvo (Ry.rn h) h.arr h.lots h.lok (fun e => hy.1 e.symm) (h.yrow (v := b.vs) (j := 8) rfl) hy.2).mono ?_
  rintro e w' ⟨he, hR, hL, hM⟩
  exact ⟨he, h.setS hR hL hM (Rn.nxtS_ok _ _ h.lok) (nxt_nd2 m h.ok.s1 hon) (fun x hx => (nxt_sub m hx).elim (h.ok.s2 x) (hor x))⟩
theorem fhelpers_any (h : Ry c b d m w) (v : Value) (o : List Int) (x n : Int) (hol : o.length ≤ 1000) (hn : n < 9223372036854775808) (hv : Rn.Rd .i64 v o w) :
    Calls Tryz.prog 90 #[v, .int .i64 x, .int .i64 n, .pointer (some ⟨c.y, 0, none⟩)] w fun e w' => (∃ v', e = .returned v' ∧ Rn.Res w v' (Rn.helpS o x n m).1 w') ∧ Ry c b d (Rn.helpS o x n m).2 w' ∧ Sr c b w b w' := by
  refine (Rn.fhelp_any c.w0 c.y c.la c.lcap v o c.L m x n w hol hn h.len hv h.arr h.lots h.lok).mono ?_
  rintro e w' ⟨he, hL, hB⟩
  exact ⟨he, h.setL hL hB (Rn.helpS_ok _ _ _ h.lok)⟩
theorem Ry.left (h : Ry c b d m w) {j g : Nat} (hg : c.own b j = some g) (hno : ∀ i, c.own b' i ≠ some g) (hz : w.heap.size ≤ w'.heap.size) : Off c b' w' g :=
  ⟨Nat.lt_of_lt_of_le (h.lt j hg).2 hz, (h.out j g hg).1, hno, (h.out j g hg).2⟩
theorem Ry.noW (h : Ry c b d m w) : Ry c { b with vw := .slice none 0 0 } (d.setw []) m (w.setCell ⟨c.q, 5, none⟩ (.slice none 0 0)) ∧ Sr c b w { b with vw := .slice none 0 0 } (w.setCell ⟨c.q, 5, none⟩ (.slice none 0 0)) ∧ ∀ g, b.vw.ownBlock = some g → Off c { b with vw := .slice none 0 0 } (w.setCell ⟨c.q, 5, none⟩ (.slice none 0 0)) g ∧ (w.setCell ⟨c.q, 5, none⟩ (.slice none 0 0)).heap[g]? = w.heap[g]? := by
  obtain ⟨h1, s1⟩ := h.setW (w' := w) (v' := .slice none 0 0) (W' := []) (OwE.nil _ _ _ _) ⟨rfl, rfl, rfl, Nat.le_refl _, fun _ _ _ => rfl⟩ (.inr fun g e => by cases e) (fun x hx => by cases hx)
  refine ⟨h1, s1, fun g hg => ⟨Ry.left h (j := 9) hg (fun i e => ?_) (by simp [World.setCell]), Below.heap_setCell _ _ _ _ (show g ≠ c.q from fun e => ?_)⟩⟩
  · by_cases hi : i = 9
    · subst hi; cases e
    · rw [rown_but c (b := b) (b' := { b with vw := .slice none 0 0 }) 9 (fun _ => rfl) (fun _ => rfl) (fun _ => rfl) (fun _ => rfl) (fun e => absurd rfl e) (fun _ => rfl) i hi] at e
      exact hi (h.sep.one i 9 g e hg)
  · have := h.sep.one 9 0 g hg (by rw [e]; rfl)
    omega
end
end Go.Proofs.YtpoofjnfaijjjaaGreatDoor.Fx
namespace Go.Proofs.YtpoofjnfaijjjaaGreatDoor
open Go.RowKit Go.Proofs.YtpoofjnfaijjjaaGreatDoor.Ro
theorem Tryz.infoWr : (Tryz.prog.info? 65).map (fun i => (i.zero, i.size, i.bytes)) = some (some (.agg #[.int .i64 0, .int .u64 0, .int .u64 0, .bool false]), 4, 32) := by kernel_rfl
theorem Tryz.infoEr : (Tryz.prog.info? 116).map (fun i => (i.zero, i.size, i.bytes)) = some (some (.agg #[.int .i64 0, .int .u64 0, .int .u64 0, .int .i64 0, .int .u64 0]), 5, 40) := by kernel_rfl
theorem Tryz.elemEr : Tryz.prog.underlying 61 = some (.slice (Tryz.prog.elem 61)) := by kernel_rfl
theorem Tryz.sizeEr (w : World) : (sizeOf (Tryz.prog.elem 61)).run Tryz.prog w = .ok 5 w := by
  simp [sizeOf]
  kernel_rfl
theorem Tryz.undEr : Tryz.prog.underlying 61 = some (.slice 116) := by kernel_rfl
theorem Tryz.undWr : Tryz.prog.underlying 60 = some (.slice 65) := by kernel_rfl
theorem Tryz.undNr : Tryz.prog.underlying 45 = some (.slice 52) := by kernel_rfl
end Go.Proofs.YtpoofjnfaijjjaaGreatDoor
namespace Go.Proofs.YtpoofjnfaijjjaaGreatDoor.Fx
open Go.RowKit Go.Proofs.YtpoofjnfaijjjaaGreatDoor Go.Proofs.YtpoofjnfaijjjaaGreatDoor.Ro
section
variable {g : Nat} {w : World}
structure BW (g : Nat) (x : Wch) (w : World) : Prop where
  heap : w.heap[g]? = some (.cells (cellsW x) 65 (0, 0))
theorem BW.c0 {x : Wch} (h : BW g x w) : w.cell? ⟨g, 0, none⟩ = some (.int .i64 x.n) := by simp [World.cell?, h.heap]
theorem BW.c1 {x : Wch} (h : BW g x w) : w.cell? ⟨g, 1, none⟩ = some (.int .u64 x.q) := by simp [World.cell?, h.heap]
theorem BW.c2 {x : Wch} (h : BW g x w) : w.cell? ⟨g, 2, none⟩ = some (.int .u64 x.a) := by simp [World.cell?, h.heap]
theorem BW.c3 {x : Wch} (h : BW g x w) : w.cell? ⟨g, 3, none⟩ = some (.bool x.h) := by simp [World.cell?, h.heap]
theorem BW.free {x : Wch} (h : BW g x w) (j : Nat) : w.frozen? ⟨g, j, none⟩ = false := free_of h.heap j
theorem BW.lt {x : Wch} (h : BW g x w) : g < w.heap.size := (Array.getElem?_eq_some_iff.1 h.heap).1
theorem BW.keep {x : Wch} {w' : World} (h : BW g x w) (e : w'.heap[g]? = w.heap[g]?) : BW g x w' := ⟨e.trans h.heap⟩
theorem BW.below {x : Wch} {w' : World} (h : BW g x w) (b : Below w.heap.size w w') : BW g x w' := h.keep (b.block g h.lt)
theorem BW.drew {x : Wch} (h : BW g x w) : BW g x w.drew := ⟨h.heap⟩
theorem BW.new (x : Wch) (w : World) : BW w.heap.size x (w.alloc (.cells (cellsW x) 65)) := ⟨heap_alloc_new w _⟩
theorem BW.set3 {x : Wch} (h : BW g x w) (c : Bool) : BW g { x with h := c } (w.setCell ⟨g, 3, none⟩ (.bool c)) := ⟨by simp [World.setCell, Array.getElem?_modify, h.heap]⟩
theorem BW.rd {x : Wch} (h : BW g x w) : RdE encW (.slice (some ⟨g, 0, none⟩) 1 1) [x] w :=
  ⟨_, 1, rfl, Nat.le_refl _, by unfold maxLen; omega, Or.inr ⟨g, 0, rfl, fun j c hj hc => by
    obtain rfl : j = 0 := by simpa using hj
    have hc : c < 4 := hc
    simp [World.cell?, h.heap, encW, cellsW]⟩⟩
structure BE (g : Nat) (x : Ern) (w : World) : Prop where
  heap : w.heap[g]? = some (.cells (cellsE x) 116 (0, 0))
theorem BE.c0 {x : Ern} (h : BE g x w) : w.cell? ⟨g, 0, none⟩ = some (.int .i64 x.n) := by simp [World.cell?, h.heap]
theorem BE.c1 {x : Ern} (h : BE g x w) : w.cell? ⟨g, 1, none⟩ = some (.int .u64 x.q) := by simp [World.cell?, h.heap]
theorem BE.c3 {x : Ern} (h : BE g x w) : w.cell? ⟨g, 3, none⟩ = some (.int .i64 x.f) := by simp [World.cell?, h.heap]
theorem BE.c4 {x : Ern} (h : BE g x w) : w.cell? ⟨g, 4, none⟩ = some (.int .u64 x.t) := by simp [World.cell?, h.heap]
theorem BE.lt {x : Ern} (h : BE g x w) : g < w.heap.size := (Array.getElem?_eq_some_iff.1 h.heap).1
theorem BE.keep {x : Ern} {w' : World} (h : BE g x w) (e : w'.heap[g]? = w.heap[g]?) : BE g x w' := ⟨e.trans h.heap⟩
theorem BE.new (x : Ern) (w : World) : BE w.heap.size x (w.alloc (.cells (cellsE x) 116)) := ⟨heap_alloc_new w _⟩
theorem BE.row {x : Ern} (w : World) : OwE encE 116 0 (.slice (some ⟨w.heap.size, 0, none⟩) 1 1) [x] (w.alloc (.cells (cellsE x) 116)) :=
  ⟨rfl, Or.inr ⟨w.heap.size, 1, _, rfl, Nat.zero_le _, heap_alloc_new w _, Nat.le_refl _, by unfold maxLen; omega, rfl, rfl⟩⟩
theorem BE.rd {x : Ern} (h : BE g x w) : RdE encE (.slice (some ⟨g, 0, none⟩) 1 1) [x] w :=
  ⟨_, 1, rfl, Nat.le_refl _, by unfold maxLen; omega, Or.inr ⟨g, 0, rfl, fun j c hj hc => by
    obtain rfl : j = 0 := by simpa using hj
    have hc : c < 5 := hc
    simp [World.cell?, h.heap, encE, cellsE]⟩⟩
end
end Go.Proofs.YtpoofjnfaijjjaaGreatDoor.Fx
namespace Go.Proofs.YtpoofjnfaijjjaaGreatDoor
open Go.RowKit Go.Proofs.YtpoofjnfaijjjaaGreatDoor.Ro
section
variable {α : Type} {E : Enc α} {T : TypeId} {v : Value} {l r : List α} {w w' : World}
theorem QuE.rd (h : QuE E T v l w) : RdE E v l w := by
  obtain ⟨a, cap, rfl, h1, h2, ⟨rfl, h3⟩ | ⟨g, o, rfl, _, _, hu⟩⟩ := h
  · exact ⟨none, cap, rfl, h1, h2, .inl (by omega)⟩
  · refine ⟨_, cap, rfl, h1, h2, .inr ⟨g, o, rfl, fun j c hj hc => ?_⟩⟩
    have hx := E.flat_get l j c hj hc
    obtain ⟨x, hx'⟩ : ∃ x, (E.enc l[j])[c]? = some x := ⟨_, List.getElem?_eq_getElem (by rw [E.len l[j]]; exact hc)⟩
    rw [hx'] at hx ⊢
    exact hu _ _ hx
theorem RdE.some_ {j : Nat} (h : RdE E v l w) (hj : j < l.length) : ∃ g o cap, v = .slice (some ⟨g, o, none⟩) l.length cap ∧ l.length ≤ cap ∧ ∀ c, c < E.sz → w.cell? ⟨g, o + (j * E.sz + c), none⟩ = (E.enc l[j])[c]? := by
  obtain ⟨a, cap, rfl, h1, h2, h3 | ⟨g, o, rfl, h3⟩⟩ := h
  · omega
  · exact ⟨g, o, cap, rfl, h1, fun c hc => h3 j c hj hc⟩
theorem RdE.to {g o n cap i : Nat} (h : RdE E (.slice (some ⟨g, o, none⟩) n cap) l w) (hi : i ≤ l.length) : RdE E (.slice (some ⟨g, o, none⟩) i cap) (l.take i) w := by
  obtain ⟨a', cap', e, h1, h2, h3⟩ := h
  cases e
  have hl : (l.take i).length = i := by rw [List.length_take]; omega
  refine ⟨_, cap, by rw [hl], by omega, h2, ?_⟩
  rcases h3 with h3 | ⟨g', o', e, h3⟩
  · exact .inl (by omega)
  · cases e
    refine .inr ⟨g, o, rfl, fun j c hj hc => ?_⟩
    rw [h3 j c (by omega) hc, List.getElem_take]
theorem RdE.from_ {g o n cap i : Nat} (h : RdE E (.slice (some ⟨g, o, none⟩) n cap) l w) (hi : i ≤ l.length) : ∃ o' c', sliced (some ⟨g, o, none⟩) i n cap E.sz = .slice (some ⟨g, o', none⟩) (l.drop i).length c' ∧ RdE E (.slice (some ⟨g, o', none⟩) (l.drop i).length c') (l.drop i) w := by
  obtain ⟨a', cap', e, h1, h2, h3⟩ := h
  cases e
  have hl : (l.drop i).length = l.length - i := List.length_drop ..
  by_cases hc : cap = i
  · refine ⟨o, cap - i, by rw [sliced, if_pos hc, hl], ⟨_, _, rfl, by omega, by omega, .inl (by omega)⟩⟩
  · refine ⟨o + i * E.sz, cap - i, by rw [sliced, if_neg hc, hl]; simp [Addr.add], ⟨_, _, rfl, by omega, by omega, ?_⟩⟩
    rcases h3 with h3 | ⟨g', o', e, h3⟩
    · exact .inl (by omega)
    · cases e
      refine .inr ⟨g, _, rfl, fun j c hj hc => ?_⟩
      have k := h3 (i + j) c (by omega) hc
      rw [List.getElem_drop, ← k, Nat.add_mul]
      congr 2
      omega
theorem RdE.atE {l : List Ern} {g o n cap : Nat} (h : RdE encE (.slice (some ⟨g, o, none⟩) n cap) l w) (j : Nat) (hj : j < l.length) : w.cell? ⟨g, o + j * 5, none⟩ = some (.int .i64 l[j].n) ∧ w.cell? ⟨g, o + j * 5 + 1, none⟩ = some (.int .u64 l[j].q) ∧ w.cell? ⟨g, o + j * 5 + 2, none⟩ = some (.int .u64 l[j].a) ∧ w.cell? ⟨g, o + j * 5 + 3, none⟩ = some (.int .i64 l[j].f) ∧ w.cell? ⟨g, o + j * 5 + 4, none⟩ = some (.int .u64 l[j].t) := by
  obtain ⟨g', o', cap', e, _, hc⟩ := h.some_ hj
  cases e
  refine ⟨hc 0 (by decide), ?_, ?_, ?_, ?_⟩
  · rw [Nat.add_assoc]; exact hc 1 (by decide)
  · rw [Nat.add_assoc]; exact hc 2 (by decide)
  · rw [Nat.add_assoc]; exact hc 3 (by decide)
  · rw [Nat.add_assoc]; exact hc 4 (by decide)
theorem QuE.at_ (h : QuE E T v l w) {j : Nat} (hj : j < l.length) {a : Option Addr} {n cap : Nat} (hv : v = .slice a n cap) : ∃ g o, a = some ⟨g, o, none⟩ ∧ n = l.length ∧ n ≤ cap ∧ RdE E (.slice (some ⟨g, o, none⟩) n cap) l w := by
  obtain ⟨g, o, cap', e, h1, _⟩ := h.rd.some_ hj
  have hr := h.rd
  rw [e] at hr hv
  cases hv
  exact ⟨g, o, rfl, rfl, h1, hr⟩
theorem fromE {a : Option Addr} {n cap i : Nat} (h1 : i ≤ n) : ∀ w', (Instr.slice 61 (.slice a n cap) (some (.int .i64 (i : Int))) none none).run Tryz.prog w' = .ok (sliced a i n cap 5) w' := fun w' => by
  rw [run_slice_l (P := Tryz.prog) (w := w') 61 a n cap Tryz.elemEr .i64 (i : Int) (by omega) (by omega), Tryz.sizeEr]
  show Result.ok (sliced _ _ _ _ _) _ = _
  rw [Int.toNat_natCast]
theorem from1E {a : Option Addr} {n cap : Nat} (h1 : 1 ≤ n) : ∀ w', (Instr.slice 61 (.slice a n cap) (some (.int .i64 1)) none none).run Tryz.prog w' = .ok (sliced a 1 n cap 5) w' := fun w' => fromE h1 w'
theorem toE {a : Option Addr} {n cap i : Nat} (h1 : i ≤ n) (h2 : n ≤ cap) : ∀ w', (Instr.slice 61 (.slice a n cap) none (some (.int .i64 (i : Int))) none).run Tryz.prog w' = .ok (.slice a i cap) w' := fun w' => by
  rw [run_slice_h (P := Tryz.prog) (w := w') 61 a n cap Tryz.elemEr .i64 (i : Int) (by omega) (by omega), Tryz.sizeEr]
  show Result.ok (sliced _ _ _ _ _) _ = _
  unfold sliced
  congr 1
  split
  · simp
  · cases a with
    | none => simp
    | some ad => simp [Addr.add]
theorem step_appQ {ops : Array Oper} {o : Oper} {a : Act} {K : Act → World → Prop} {Q : Exit → Act → World → Prop} {F : Prop} {ST : TypeId} {z : Value} {bytes C : Nat} (hST : Tryz.prog.underlying ST = some (.slice T)) (hinfo : (Tryz.prog.info? T).map (fun i => (i.zero, i.size, i.bytes)) = some (some z, E.sz, bytes)) (hz : z.cells.size = E.sz) (hby : bytes ≤ 1000) (w : World) (hgd : o.guard = none) (s x : Operand)
    (ho : o.op = .call { callee := .builtin .append, args := #[s, x], argTypes := #[ST, ST] }) (v u : Value) (l r : List α) (hs : a.eval s = v) (hown : QuE E T v l w) (hx : a.eval x = u) (hu : OwE E T C u r w) (hl : l.length + r.length ≤ 1000000)
    (h : ∀ v' w', QuE E T v' (l ++ r) w' → w.grownBy w' v.ownBlock → (v'.ownBlock = v.ownBlock ∨ v'.ownBlock = some w.heap.size) → K (a.put o.dst v') w') :
    if Region.wanted o (yielded ops a.tmps) = true then Oper.wp Tryz.prog o a w K Q else F := by
  have hw : Region.wanted o (yielded ops a.tmps) = true := by simp [Region.wanted, hgd]
  rw [if_pos hw]
  obtain ⟨v', w', hr, h1, h2, h3⟩ := run_appQ (ty := o.type) hST hinfo hz hby hown hu hl
  unfold Oper.wp execOp
  simp only [ho, resolve, invoke, builtin, Sem.run_bind, Sem.run_pure, Result.andThen_ok, List.map_toArray, List.map_cons, List.map_nil, hs, hx, hr]
  exact h v' w' h1 h2 h3
end
end Go.Proofs.YtpoofjnfaijjjaaGreatDoor
namespace Go.Proofs.YtpoofjnfaijjjaaGreatDoor.Fx
open Go.RowKit Go.Proofs.YtpoofjnfaijjjaaGreatDoor Go.Proofs.YtpoofjnfaijjjaaGreatDoor.Ro
section
variable {c : Rc} {b : Rw} {d : Det} {m : List Int} {w : World}
set_option maxRecDepth 100000 in
set_option maxHeartbeats 8000000 in
theorem fack_any (h : Ry c b d m w) (hWl : d.W.length ≤ 100000) (n : Nte) (na : Option Addr) (nl nc : Nat) :
    Calls Tryz.prog 56 #[.pointer (some ⟨c.q, 0, none⟩), .agg (ntC n.k n.f n.t n.q n.o (.slice na nl nc))] w fun e w' => ∃ v X b', e = .returned v ∧ Fx.Sd c b' w v X w' ∧ X.map NtX.n = (d.acked c.k n).1 ∧ Ry c b' (d.acked c.k n).2 m w' ∧ Sr c b w b' w' := by
  obtain ⟨K, F, T, Q, O, U⟩ := n
  have ba := below_alloc w (.cells (ntC K F T Q O (.slice na nl nc)) 52)
  have hN := Fx.Bn.new K F T Q O (.slice na nl nc) w
  have h1 := h.below ba
  obtain ⟨w1, HW1⟩ : ∃ w1, Hid (w1 = w.alloc (.cells (ntC K F T Q O (.slice na nl nc)) 52)) := ⟨_, rfl⟩
  rw [← HW1.out] at ba hN h1
  obtain ⟨gn, HGN⟩ : ∃ gn, Hid (w.heap.size = gn) := ⟨_, rfl⟩
  rw [HGN.out] at hN
  have S1 : Sr c b w b w1 := Sr.of ba
  have hel := h.ok.el
  obtain ⟨va, vcap, hve, hvc, _⟩ := h.es.len
  obtain ⟨ua, ucap, hvw, huc, _⟩ := h.ws.len
  obtain ⟨N, HN⟩ : ∃ N, Hid (d.E.length = N) := ⟨_, rfl⟩
  obtain ⟨M, HM⟩ : ∃ M, Hid (d.W.length = M) := ⟨_, rfl⟩
  rw [HN.out] at hel hve hvc
  rw [HM.out] at hWl hvw huc
  obtain ⟨R, HR⟩ : ∃ R, Hid (d.acked c.k ⟨K, F, T, Q, O, U⟩ = R) := ⟨_, rfl⟩
  rw [HR.out]
  go_enter Tryz.func56, Tryz.ntmps56
  go_upto_region 1 with fail
  rw [HGN.out, ← HW1.out]
  go_wp2_with fail
  go_loopg [5] N (fun gk t5 wr => ∃ i : Nat, i + gk = N ∧ t5 = .int .i64 i ∧ Below w1.heap.size w1 wr ∧ ∀ x ∈ d.E.take i, ackE ⟨K, F, T, Q, O, U⟩ x = false)
  case atStart => exact ⟨0, by omega, rfl, Below.refl _ _, by simp⟩
  case round =>
    obtain ⟨i, hi, rfl, hb, hx⟩ := hrel
    have h2 := h1.below hb
    have hN2 := hN.below hb
    have c6 := h2.c6
    rw [hve] at c6
    by_cases hlt : (i : Int) < N
    · have i0 : (0 : Int) ≤ i := by omega
      have hil : i < d.E.length := by rw [HN.out]; omega
      obtain ⟨ge, o, rfl, -, -, hrd⟩ := h2.es.at_ hil hve
      obtain ⟨x0, x1, x2, x3, x4⟩ := hrd.atE i hil
      have hyes : Hid (ackE ⟨K, F, T, Q, O, U⟩ d.E[i] = true → R = ([⟨2, c.k, d.E[i].f, d.E[i].t, F, d.news c.k d.E[i].f⟩], ({ d with E := d.E.take i ++ d.E.drop (i + 1) } : Det).told c.k d.E[i].f)) := by
        show _ → _
        intro hb'
        obtain ⟨hf1, hf2⟩ := find_at _ d.E i hil hb' hx
        rw [← HR.out]
        unfold Det.acked
        rw [hf1, hf2, List.eraseIdx_eq_take_drop_succ]
      have hno : Hid (ackE ⟨K, F, T, Q, O, U⟩ d.E[i] = false → ∀ x ∈ d.E.take (i + 1), ackE ⟨K, F, T, Q, O, U⟩ x = false) := by
        show _ → _
        intro hb' x hxm
        rw [List.take_add_one, List.getElem?_eq_getElem hil] at hxm
        rcases List.mem_append.1 hxm with hxm | hxm
        · exact hx x hxm
        · simp at hxm
          rw [hxm]; exact hb'
      have hmem : ∀ x ∈ d.E.take i ++ d.E.drop (i + 1), ErnOk x := fun x hxm => (List.mem_append.1 hxm).elim (fun hz => h.ok.E x (List.mem_of_mem_take hz)) (fun hz => h.ok.E x (List.mem_of_mem_drop hz))
      have hlen : (d.E.take i ++ d.E.drop (i + 1)).length ≤ 32 := by rw [List.length_append, List.length_take, List.length_drop, HN.out]; omega
      clear hx
      generalize d.E[i] = y at *
      have bY := below_alloc wr (.cells (cellsE y) 116)
      have hY := BE.new y wr
      have h3 := h2.below bY
      have hN3 := hN2.below bY
      have b3 := bT hb bY
      have hrd3 := hrd.below bY
      obtain ⟨gb, HGB⟩ : ∃ gb, Hid (wr.heap.size = gb) := ⟨_, rfl⟩
      obtain ⟨w3, HW3⟩ : ∃ w3, Hid (w3 = wr.alloc (.cells (cellsE y) 116)) := ⟨_, rfl⟩
      rw [← HW3.out] at hY h3 hN3 b3 hrd3
      rw [HGB.out] at hY
      go_upto_region 5 with fail
      rw [HGB.out, ← HW3.out]
      clear x0 x1 x2 x3 x4 c6
      have y0 := hY.c0
      have y1 := hY.c1
      have n1 := hN3.c1
      have n3 := hN3.c3
      cases hq : (y.q == Q) <;> cases hn : (y.n == F)
      case true.true =>
        have HR2 := hyes.out (by unfold ackE; rw [hq, hn]; rfl)
        clear hyes hno
        have b4 := below_alloc w3 (.cells #[] 116)
        have n4 : (w3.alloc (.cells #[] 116)).heap[w3.heap.size]? = _ := heap_alloc_new w3 _
        have hO4 := OwE.empty encE 116 w3.heap.size w3.heap.size n4 (Nat.le_refl _)
        have hrd4 := hrd3.below b4
        obtain ⟨w4, HW4⟩ : ∃ w4, Hid (w4 = w3.alloc (.cells #[] 116)) := ⟨_, rfl⟩
        rw [← HW4.out] at b4 hO4 hrd4
        have hz4 := b4.size
        have hto4 := hrd4.to (i := i) (by omega)
        have hsto := toE (a := some ⟨ge, o, none⟩) (n := N) (cap := vcap) (i := i) (by omega) hvc
        have c6 := (h3.below b4).c6
        rw [hve] at c6
        go_upto_region 7 with fail
        rw [← HW4.out]
        go_upto_region 8 with (at_builtin; go_must (refine wpList_appE Tryz.undEr Tryz.infoEr (by decide) (by decide) w4 rfl (.tmp 39) (.tmp 45) rfl w3.heap.size (.slice (some ⟨w3.heap.size, 0, none⟩) 0 0) [] rfl hO4 hz4 ge o vcap (d.E.take i) i (by rw [List.length_take]; omega) rfl hto4 (by rw [List.length_take]; simp; omega) ?_; intro v5 w5 hO5 hg5 hv5))
        have b5 : Below w3.heap.size w3 w5 := ⟨hg5.os.trans b4.os, hg5.tape.trans b4.tape, hg5.output.trans b4.output, Nat.le_trans hz4 hg5.size, fun g hg => (hg5.block g (by omega) (fun e => by have e' : g = w3.heap.size := Option.some.inj e; omega)).trans (b4.block g hg)⟩
        rw [List.nil_append] at hO5
        obtain ⟨a5, L5, c5', rfl⟩ : ∃ a L cc, v5 = .slice a L cc := (by obtain ⟨a, cap, e, _⟩ := hO5.len; exact ⟨a, _, cap, e⟩)
        have hz5 := b5.size
        have hrd5 := hrd3.below b5
        obtain ⟨o', cc', hsl, hfr5⟩ := hrd5.from_ (i := i + 1) (by omega)
        obtain ⟨Ld, HL⟩ : ∃ Ld, Hid ((d.E.drop (i + 1)).length = Ld) := ⟨_, rfl⟩
        rw [HL.out] at hsl hfr5
        have hsfr : ∀ w', (Instr.slice 61 (.slice (some ⟨ge, o, none⟩) N vcap) (some (.int .i64 ((i : Int) + 1))) none none).run Tryz.prog w' = .ok (.slice (some ⟨ge, o', none⟩) Ld cc') w' := fun w' => by
          have e := fromE (a := some ⟨ge, o, none⟩) (n := N) (cap := vcap) (i := i + 1) (by omega) w'
          rw [show ((i + 1 : Nat) : Int) = (i : Int) + 1 by omega] at e
          rw [e]
          exact congrArg (fun z => Result.ok z w') hsl
        have hwi : IntKind.i64.wrap ((i : Int) + 1) = (i : Int) + 1 := by rw [IntKind.wrap_i64]; omega
        clear c6
        have c6 := (h3.below b5).c6
        rw [hve] at c6
        go_upto_region 9 with (at_builtin; go_must (refine wpList_appE Tryz.undEr Tryz.infoEr (by decide) (by decide) w5 rfl (.tmp 48) (.tmp 55) rfl w3.heap.size (.slice a5 L5 c5') (d.E.take i) rfl hO5 hz5 ge o' cc' (d.E.drop (i + 1)) Ld HL.out.symm rfl hfr5 (by rw [← List.length_append]; omega) ?_; intro v6 w6 hO6 hg6 hv6; have b6 : Below w3.heap.size w3 w6 := ⟨hg6.os.trans b5.os, hg6.tape.trans b5.tape, hg6.output.trans b5.output, Nat.le_trans hz5 hg6.size, fun g hg => (hg6.block g (by omega) (fun e => by have := (hO5.lt g e.symm).1; omega)).trans (b5.block g hg)⟩; obtain ⟨a6, L6, c6', rfl⟩ : ∃ a L cc, v6 = .slice a L cc := (by obtain ⟨a, cap, e, _⟩ := hO6.len; exact ⟨a, _, cap, e⟩); have c6 := (h3.below b6).c6; have f6 := (h3.below b6).free 6))
        obtain ⟨h7, s7⟩ := h3.setE (w' := w6) (OwE.qu hO6) (grown_below b6) (.inr fun g e => (hO6.lt g e).1) hmem hlen
        obtain ⟨w7, HW7⟩ : ∃ w7, Hid (w7 = w6.setCell ⟨c.q, 6, none⟩ (.slice a6 L6 c6')) := ⟨_, rfl⟩
        rw [← HW7.out] at h7 s7 ⊢
        have S7 := (S1.trans (Sr.of b3)).trans s7
        have hAY : Off c b w3 gb := h2.off (by rw [HGB.out]; exact Nat.le_refl _) hY.lt
        have hAN : Off c b w3 gn := h.off (by rw [HGN.out]; exact Nat.le_refl _) hN3.lt
        have hY7 := hY.keep (s7.keep hAY)
        have hN7 := hN3.keep (s7.keep hAN)
        clear y0 y1 n1 n3
        have y3 := hY7.c3
        have y4 := hY7.c4
        have n1 := hN7.c1
        have hsay := fsay_any h7 2 0 y.f y.t F
        go_wp2_with fail
        refine hsay.mono ?_
        rintro e w8 ⟨v8, rfl, hO8, b8, h8, s8, u8, hA8⟩
        obtain ⟨a8, L8, c8, rfl⟩ : ∃ a L cc, v8 = .slice a L cc := (by obtain ⟨a, cap, e, _⟩ := hO8.ru; exact ⟨a, _, cap, e⟩)
        have S8 := S7.trans s8
        have b9 := below_alloc w8 (.cells (ntC 2 c.k y.f y.t F (.slice a8 L8 c8)) 52)
        have hsd := Fx.Sd.one (c := c) (w0 := w) (n := ⟨2, c.k, y.f, y.t, F, d.news c.k y.f⟩) h8 S8.size (Ro.Own.mono hO8 S7.size) hA8
        go_wp2_with fail
        go_ret
        rw [HR2]
        first
          | exact ⟨_, rfl, _, _, hsd, rfl, h8.below b9, S8.then b9⟩
          | exact ⟨_, _, _, rfl, hsd, rfl, h8.below b9, S8.then b9⟩
      all_goals
        have hno2 := hno.out (by unfold ackE; rw [hq, hn]; rfl)
        clear hyes hno
        go_wp2_with fail
        go_roundg (gk - 1)
        case rel => exact ⟨i + 1, by omega, by go_num, b3, hno2⟩
        case measure => omega
    · obtain rfl : i = N := by omega
      have hnone : Hid (R = ([], { d with W := d.W.filter (fun x => !ackW ⟨K, F, T, Q, O, U⟩ x) })) := by
        show _ = _
        rw [← HR.out]
        unfold Det.acked
        rw [List.find?_eq_none.2 (fun x hm => by rw [hx x (by rw [List.take_of_length_le (by rw [HN.out]; exact Nat.le_refl _)]; exact hm)]; decide)]
      clear hx
      have b3 := below_alloc wr (.cells #[] 65)
      have n3 : (wr.alloc (.cells #[] 65)).heap[wr.heap.size]? = _ := heap_alloc_new wr _
      have hO3 := OwE.empty encW 65 wr.heap.size wr.heap.size n3 (Nat.le_refl _)
      have hz2 : w.heap.size ≤ wr.heap.size := Nat.le_trans S1.size hb.size
      obtain ⟨w2, HW2⟩ : ∃ w2, Hid (w2 = wr) := ⟨_, rfl⟩
      rw [← HW2.out] at b3 hO3 h2 hN2 hz2 c6 ⊢
      have S2 : Sr c b w b w2 := by rw [HW2.out]; exact S1.then hb
      clear hb n3
      obtain ⟨w3, HW3⟩ : ∃ w3, Hid (w3 = w2.alloc (.cells #[] 65)) := ⟨_, rfl⟩
      rw [← HW3.out] at b3 hO3
      go_upto_region 11 with fail
      rw [← HW3.out]
      clear c6
      go_wp2_with fail
      go_loopg [8, 9] M (fun gk t8 t9 wr => ∃ i : Nat, i + gk = M ∧ t9 = .int .i64 i ∧ Below w2.heap.size w2 wr ∧ OwE encW 65 w2.heap.size t8 ((d.W.take i).filter (fun x => !ackW ⟨K, F, T, Q, O, U⟩ x)) wr)
      case atStart => exact ⟨0, by omega, rfl, b3, by simpa using hO3⟩
      case round =>
        obtain ⟨i, hi, rfl, hb, hO⟩ := hrel
        have h4 := h2.below hb
        have hN4 := hN2.below hb
        have c5 := h4.c5
        rw [hvw] at c5
        by_cases hlt : (i : Int) < M
        · have i0 : (0 : Int) ≤ i := by omega
          have hil : i < d.W.length := by rw [HM.out]; omega
          have hrow := h4.ws
          rw [hvw] at hrow
          obtain ⟨gw, rfl⟩ : ∃ gw, ua = some ⟨gw, 0, none⟩ := by
            rcases hrow.2 with ⟨e, h0⟩ | ⟨g, cap, cur, e, _⟩
            · omega
            · cases e; exact ⟨g, rfl⟩
          obtain ⟨x0, x1, x2, x3⟩ := hrow.atW (by rw [HM.out]) i hil
          have hfil : Hid ((d.W.take (i + 1)).filter (fun x => !ackW ⟨K, F, T, Q, O, U⟩ x) = if ackW ⟨K, F, T, Q, O, U⟩ d.W[i] = true then (d.W.take i).filter (fun x => !ackW ⟨K, F, T, Q, O, U⟩ x) else (d.W.take i).filter (fun x => !ackW ⟨K, F, T, Q, O, U⟩ x) ++ [d.W[i]]) := by
            show _ = _
            rw [List.take_add_one, List.getElem?_eq_getElem hil, List.filter_append]
            cases hk : ackW ⟨K, F, T, Q, O, U⟩ d.W[i] <;> simp [hk]
          have hfl : ((d.W.take i).filter (fun x => !ackW ⟨K, F, T, Q, O, U⟩ x)).length ≤ 100000 := Nat.le_trans (List.length_filter_le _ _) (by rw [List.length_take]; omega)
          generalize d.W[i] = y at *
          obtain ⟨KW, HK⟩ : ∃ KW, Hid ((d.W.take i).filter (fun x => !ackW ⟨K, F, T, Q, O, U⟩ x) = KW) := ⟨_, rfl⟩
          rw [HK.out] at hfil hO hfl
          have n3 := hN4.c3
          have n4 := hN4.c4
          obtain ⟨a8, L8, c8, e8⟩ : ∃ a L cc, u8 = .slice a L cc := (by obtain ⟨a, cap, e, _⟩ := hO.len; exact ⟨a, _, cap, e⟩)
          subst e8
          cases hq : (y.q != Q) <;> cases hn : (y.n != O)
          case false.false =>
            have hk : ackW ⟨K, F, T, Q, O, U⟩ y = true := by unfold ackW; simp at hq hn; simp [hq, hn]
            have hfil2 := hfil.out
            rw [if_pos hk] at hfil2
            go_upto_region 14 with fail
            go_quiet (fail)
            have bq := Ro.below_drewN wr.heap.size wr nq
            go_wp2_with fail
            go_roundg (gk - 1)
            case rel => exact ⟨i + 1, by omega, by go_num, bT hb bq, by rw [hfil2]; exact hO.below bq⟩
            case measure => omega
          all_goals
            have hk : ¬ ackW ⟨K, F, T, Q, O, U⟩ y = true := by unfold ackW; simp at hq hn; simp [hq, hn]
            have hfil2 := hfil.out
            rw [if_neg hk] at hfil2
            go_upto_region 14 with fail
            go_quiet (fail)
            have bq := Ro.below_drewN wr.heap.size wr nq
            have hb5 := bT hb bq
            have hO5 := hO.below bq
            have h5 := h2.below hb5
            have x0 := (Below.cell (p := ⟨gw, i * 4, none⟩) bq (World.block_lt_of_cell? _ _ x0)).trans x0
            have x1 := (Below.cell (p := ⟨gw, i * 4 + 1, none⟩) bq (World.block_lt_of_cell? _ _ x1)).trans x1
            have x2 := (Below.cell (p := ⟨gw, i * 4 + 2, none⟩) bq (World.block_lt_of_cell? _ _ x2)).trans x2
            have x3 := (Below.cell (p := ⟨gw, i * 4 + 3, none⟩) bq (World.block_lt_of_cell? _ _ x3)).trans x3
            have c5 := h5.c5
            rw [hvw] at c5
            obtain ⟨w5, HW5⟩ : ∃ w5, Hid (w5 = wr.drewN nq) := ⟨_, rfl⟩
            rw [← HW5.out] at hb5 hO5 h5 x0 x1 x2 x3 c5 ⊢
            have b6 := below_alloc w5 (.cells (cellsW y) 65)
            have hOne := (BW.new y w5).rd
            have hb6 := bT hb5 b6
            have hO6 := hO5.below b6
            have hz6 := hb6.size
            obtain ⟨w6, HW6⟩ : ∃ w6, Hid (w6 = w5.alloc (.cells (cellsW y) 65)) := ⟨_, rfl⟩
            rw [← HW6.out] at b6 hOne hb6 hO6 hz6
            clear hO hb
            go_wp2_with (at_builtin; go_must (rw [← HW6.out]; refine wpList_appE Tryz.undWr Tryz.infoWr (by decide) (by decide) w6 rfl (.tmp 103) (.tmp 111) rfl w2.heap.size (.slice a8 L8 c8) KW rfl hO6 hz6 w5.heap.size 0 1 [y] 1 rfl rfl hOne (by simp; omega) ?_; intro v7 w7 hO7 hg7 hv7))
            go_roundg (gk - 1)
            case rel => exact ⟨i + 1, by omega, by go_num, ⟨hg7.os.trans hb6.os, hg7.tape.trans hb6.tape, hg7.output.trans hb6.output, Nat.le_trans hz6 hg7.size, fun g hg => (hg7.block g (by omega) (fun e => by have := (hO6.lt g e.symm).1; omega)).trans (hb6.block g hg)⟩, by rw [hfil2]; exact hO7⟩
            case measure => omega
        · obtain rfl : i = M := by omega
          rw [List.take_of_length_le (by rw [HM.out]; exact Nat.le_refl _)] at hO
          obtain ⟨a8, L8, c8, e8⟩ : ∃ a L cc, u8 = .slice a L cc := (by obtain ⟨a, cap, e, _⟩ := hO.len; exact ⟨a, _, cap, e⟩)
          subst e8
          obtain ⟨h5, s5⟩ := h2.setW (hO.mono (Nat.zero_le _)) (grown_below hb) (.inr fun g e => (hO.lt g e).1) (fun x hx => h.ok.W x (List.mem_filter.1 hx).1)
          have f5 := h4.free 5
          go_wp2_with fail
          go_ret
          rw [hnone.out]
          first
            | exact ⟨_, rfl, [], _, Fx.Sd.nil _ _ _ _, rfl, h5, S2.trans s5⟩
            | exact ⟨_, [], _, rfl, Fx.Sd.nil _ _ _ _, rfl, h5, S2.trans s5⟩
end
end Go.Proofs.YtpoofjnfaijjjaaGreatDoor.Fx
