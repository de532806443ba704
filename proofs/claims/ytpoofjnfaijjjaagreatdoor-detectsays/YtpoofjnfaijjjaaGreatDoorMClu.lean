/-
  slices.Delete of one errand; slices.Clone of errands and of watches. Rows of notes that are said. Several detectors side by side, that draw from the same lots: a cluster.
-/
import Derived.Test.YtpoofjnfaijjjaaGreatDoorMSle
import Derived.Test.YtpoofjnfaijjjaaGreatDoorMSlw
import Derived.Laws.OwnMore
import Derived.Test.YtpoofjnfaijjjaaGreatDoorMEru
namespace Go.Proofs.YtpoofjnfaijjjaaGreatDoor
open Go.RowKit Go.Proofs.YtpoofjnfaijjjaaGreatDoor.Ro

theorem Enc.flat_drop {α : Type} (E : Enc α) (l : List α) : ∀ n, (E.flat l).drop (n * E.sz) = E.flat (l.drop n) := by
  induction l with
  | nil => intro n; simp [Enc.flat]
  | cons u r ih =>
    intro n
    cases n with
    | zero => simp [Enc.flat]
    | succ n =>
      rw [List.drop_succ_cons, Enc.flat, Nat.succ_mul, ← ih n, List.drop_append, E.len, List.drop_of_length_le (by rw [E.len]; omega), show n * E.sz + E.sz - E.sz = n * E.sz from by omega]
      rfl
/-- What an append within the room does. -/
theorem wp_fitsE {α : Type} {E : Enc α} {T ST : TypeId} {z : Value} {bytes : Nat} (hST : Tryz.prog.underlying ST = some (.slice T)) (hinfo : (Tryz.prog.info? T).map (fun i => (i.zero, i.size, i.bytes)) = some (some z, E.sz, bytes)) {o : Oper} {a : Act} {K : Act → World → Prop} {Q : Exit → Act → World → Prop} (w : World) (s x : Operand)
    (ho : o.op = .call { callee := .builtin .append, args := #[s, x], argTypes := #[ST, ST] }) (B g n cap : Nat) (l : List α) (hs : a.eval s = .slice (some ⟨g, 0, none⟩) n cap) (hn : n = l.length) (hown : OwE E T B (.slice (some ⟨g, 0, none⟩) n cap) l w)
    (ad : Addr) (m c : Nat) (r : List α) (hx : a.eval x = .slice (some ad) m c) (hm : m = r.length) (hcells : ∀ j u, (E.flat r)[j]? = some u → w.cell? (ad.add j) = some u) (hroom : n + m ≤ cap) (N : Nat) (hN : n + m = N)
    (h : ∀ w', OwE E T B (.slice (some ⟨g, 0, none⟩) N cap) (l ++ r) w' → w.grownBy w' (some g) → K (a.put o.dst (.slice (some ⟨g, 0, none⟩) N cap)) w') : o.wp Tryz.prog a w K Q := by
  obtain ⟨i0, hi, _, hz1, _⟩ := info_parts hinfo
  subst hn hm hN
  obtain ⟨w', hr, h2, h3⟩ := run_append_fits (P := Tryz.prog) w B ST o.type T i0 E.sz hST hi hz1 g l.length cap (E.flat l) hown ad r.length c (E.flat r) (E.flat_length r) hcells (E.flat_cell r) hroom
  unfold Oper.wp execOp
  simp only [ho, resolve, invoke, builtin, Sem.run_bind, Sem.run_pure, Result.andThen_ok, List.map_toArray, List.map_cons, List.map_nil, hs, hx, hr]
  refine h w' ?_ h3
  unfold OwE
  rw [E.flat_append, List.length_append]
  exact h2
theorem step_fitsE {α : Type} {E : Enc α} {T ST : TypeId} {z : Value} {bytes : Nat} (hST : Tryz.prog.underlying ST = some (.slice T)) (hinfo : (Tryz.prog.info? T).map (fun i => (i.zero, i.size, i.bytes)) = some (some z, E.sz, bytes)) {ops : Array Oper} {o : Oper} {a : Act} {K : Act → World → Prop} {Q : Exit → Act → World → Prop} {F : Prop} (w : World) (hgd : o.guard = none) (s x : Operand)
    (ho : o.op = .call { callee := .builtin .append, args := #[s, x], argTypes := #[ST, ST] }) (B g n cap : Nat) (l : List α) (hs : a.eval s = .slice (some ⟨g, 0, none⟩) n cap) (hn : n = l.length) (hown : OwE E T B (.slice (some ⟨g, 0, none⟩) n cap) l w)
    (ad : Addr) (m c : Nat) (r : List α) (hx : a.eval x = .slice (some ad) m c) (hm : m = r.length) (hcells : ∀ j u, (E.flat r)[j]? = some u → w.cell? (ad.add j) = some u) (hroom : n + m ≤ cap) (N : Nat) (hN : n + m = N)
    (h : ∀ w', OwE E T B (.slice (some ⟨g, 0, none⟩) N cap) (l ++ r) w' → w.grownBy w' (some g) → K (a.put o.dst (.slice (some ⟨g, 0, none⟩) N cap)) w') :
    if Region.wanted o (yielded ops a.tmps) = true then Oper.wp Tryz.prog o a w K Q else F := by
  have hw : Region.wanted o (yielded ops a.tmps) = true := by simp [Region.wanted, hgd]
  rw [if_pos hw]
  exact wp_fitsE hST hinfo w s x ho B g n cap l hs hn hown ad m c r hx hm hcells hroom N hN h
theorem OwE.empty {α : Type} (E : Enc α) (T : TypeId) (B g : Nat) {w : World} (h : w.heap[g]? = some (.cells #[] T (0, 0))) (hB : B ≤ g) : OwE E T B (.slice (some ⟨g, 0, none⟩) 0 0) [] w :=
  ⟨by simp [Enc.flat], Or.inr ⟨g, 0, #[], rfl, hB, h, Nat.le_refl _, Nat.zero_le _, by simp, by simp [Enc.flat]⟩⟩

set_option maxRecDepth 100000 in
set_option maxHeartbeats 1000000 in
theorem cloneW_any (v : Value) (l : List Wch) (w : World) (hl : l.length ≤ 1000000) (hO : OwE encW 133 0 v l w) :
    Calls Tryz.prog 106 #[v] w fun e w' => (∃ v', e = .returned v' ∧ OwE encW 133 w.heap.size v' l w') ∧ Below w.heap.size w w' := by
  have hq : ∀ (w : World) (a : Option Addr) (n c n' c' : Nat), (binOp .eql 91 (.slice a n c) (.slice none n' c')).run Tryz.prog w = .ok (.bool a.isNone) w := fun w a n c n' c' => Lib.run_eql_slice_nil w _ _ a n c n' c' Tryz.underlying91
  rcases id hO.2 with ⟨rfl, h0⟩ | ⟨g, cap, cur, rfl, _, _, hlc, _⟩
  · obtain rfl : l = [] := List.length_eq_zero_iff.1 h0
    go_enter Tryz.func106, Tryz.ntmps106
    go_wp2_with fail
    go_ret
    exact ⟨⟨_, rfl, OwE.nil _ _ _ _⟩, Below.refl _ _⟩
  · have ba := below_alloc w (.cells #[] 133)
    have hE := OwE.empty encW 133 w.heap.size w.heap.size (heap_alloc_new w (.cells #[] 133)) (Nat.le_refl _)
    have hR := (hO.below ba).rd
    have hz := ba.size
    go_enter Tryz.func106, Tryz.ntmps106
    go_wp2_with (at_builtin; go_must (refine wpList_appE Tryz.underlying91 Tryz.infoW (by decide) (by decide) _ rfl (.tmp 5) (.tmp 6) rfl w.heap.size _ [] rfl hE hz g 0 cap l l.length rfl rfl hR (by simp; omega) ?_; intro v' w' h1 h3 h4; obtain ⟨a', c', rfl, _⟩ := (show ∃ a' c', v' = .slice a' l.length c' ∧ True from by obtain ⟨a', c', e, _⟩ := h1.len; exact ⟨a', c', e, trivial⟩)))
    go_ret
    exact ⟨⟨_, rfl, h1⟩, bG ba h3 fun g hg => by cases hg; exact Nat.le_refl _⟩
set_option maxRecDepth 100000 in
set_option maxHeartbeats 1000000 in
theorem cloneE_any (v : Value) (l : List Ern) (w : World) (hl : l.length ≤ 1000000) (hO : OwE encE 112 0 v l w) :
    Calls Tryz.prog 107 #[v] w fun e w' => (∃ v', e = .returned v' ∧ OwE encE 112 w.heap.size v' l w') ∧ Below w.heap.size w w' := by
  have hq : ∀ (w : World) (a : Option Addr) (n c n' c' : Nat), (binOp .eql 92 (.slice a n c) (.slice none n' c')).run Tryz.prog w = .ok (.bool a.isNone) w := fun w a n c n' c' => Lib.run_eql_slice_nil w _ _ a n c n' c' Tryz.underlying92
  rcases id hO.2 with ⟨rfl, h0⟩ | ⟨g, cap, cur, rfl, _, _, hlc, _⟩
  · obtain rfl : l = [] := List.length_eq_zero_iff.1 h0
    go_enter Tryz.func107, Tryz.ntmps107
    go_wp2_with fail
    go_ret
    exact ⟨⟨_, rfl, OwE.nil _ _ _ _⟩, Below.refl _ _⟩
  · have ba := below_alloc w (.cells #[] 112)
    have hE := OwE.empty encE 112 w.heap.size w.heap.size (heap_alloc_new w (.cells #[] 112)) (Nat.le_refl _)
    have hR := (hO.below ba).rd
    have hz := ba.size
    go_enter Tryz.func107, Tryz.ntmps107
    go_wp2_with (at_builtin; go_must (refine wpList_appE Tryz.underlying92 Tryz.infoE (by decide) (by decide) _ rfl (.tmp 5) (.tmp 6) rfl w.heap.size _ [] rfl hE hz g 0 cap l l.length rfl rfl hR (by simp; omega) ?_; intro v' w' h1 h3 h4; obtain ⟨a', c', rfl, _⟩ := (show ∃ a' c', v' = .slice a' l.length c' ∧ True from by obtain ⟨a', c', e, _⟩ := h1.len; exact ⟨a', c', e, trivial⟩)))
    go_ret
    exact ⟨⟨_, rfl, h1⟩, bG ba h3 fun g hg => by cases hg; exact Nat.le_refl _⟩

set_option maxRecDepth 100000 in
set_option maxHeartbeats 2000000 in
/-- One of them is taken off. -/
theorem delete1_any (g cap : Nat) (l : List Ern) (i : Nat) (hi : i < l.length) (hl : l.length ≤ 1000000) (w : World) (hO : OwE encE 112 0 (.slice (some ⟨g, 0, none⟩) l.length cap) l w) :
    Calls Tryz.prog 148 #[.slice (some ⟨g, 0, none⟩) l.length cap, .int .i64 (i : Int), .int .i64 ((i : Int) + 1)] w fun e w' => (e = .returned (.slice (some ⟨g, 0, none⟩) (l.eraseIdx i).length cap) ∧ OwE encE 112 0 (.slice (some ⟨g, 0, none⟩) (l.eraseIdx i).length cap) (l.eraseIdx i) w') ∧ Ro.But w.heap.size g w w' := by
  obtain ⟨cur, hcur, _, hlc, hcm, _, _, _⟩ := hO.block rfl
  have hgz : g < w.heap.size := (Array.getElem?_eq_some_iff.1 hcur).1
  clear hcur
  have hpre := hO.take rfl i (Nat.le_of_lt hi)
  have hcellsW : ∀ j u, (encE.flat l)[j]? = some u → w.cell? ((⟨g, 0, none⟩ : Addr).add j) = some u := World.ownsRow.cells hO (g := g) rfl
  have her : l.take i ++ l.drop (i + 1) = l.eraseIdx i := (List.eraseIdx_eq_take_drop_succ l i).symm
  have hel : (l.eraseIdx i).length + 1 = l.length := by rw [List.length_eraseIdx, if_pos hi]; omega
  obtain ⟨ad, hs2, hcells⟩ : ∃ ad, (∀ w', (Instr.slice 92 (.slice (some ⟨g, 0, none⟩) l.length cap) (some (.int .i64 ((i : Int) + 1))) none none).run Tryz.prog w' = .ok (.slice (some ad) (l.length - (i + 1)) (cap - (i + 1))) w') ∧ ∀ j u, (encE.flat (l.drop (i + 1)))[j]? = some u → w.cell? (ad.add j) = some u := by
    have hr : ∀ w', (Instr.slice 92 (.slice (some ⟨g, 0, none⟩) l.length cap) (some (.int .i64 ((i : Int) + 1))) none none).run Tryz.prog w' = .ok (sliced (some ⟨g, 0, none⟩) (i + 1) l.length cap 5) w' := fun w' => by
      have := run_slice_l (P := Tryz.prog) (w := w') 92 (some ⟨g, 0, none⟩) l.length cap Tryz.elemE .i64 ((i : Int) + 1) (by omega) (by omega)
      rw [Tryz.sizeE] at this
      rw [show ((i : Int) + 1).toNat = i + 1 from by omega] at this
      exact this
    by_cases hc : cap = i + 1
    · refine ⟨⟨g, 0, none⟩, fun w' => by rw [hr, sliced, if_pos hc], fun j u hu => ?_⟩
      rw [List.drop_of_length_le (by omega)] at hu
      simp [Enc.flat] at hu
    · refine ⟨⟨g, (i + 1) * 5, none⟩, fun w' => by rw [hr, sliced, if_neg hc]; simp [Addr.add], fun j u hu => ?_⟩
      rw [← encE.flat_drop, List.getElem?_drop] at hu
      have := hcellsW _ _ hu
      rw [Ro.add_off] at this ⊢
      rw [Nat.zero_add] at this
      exact this
  obtain ⟨v3, h3s⟩ : ∃ v3, ∀ w', (Instr.slice 92 (.slice (some ⟨g, 0, none⟩) l.length cap) (some (.int .i64 (i : Int))) (some (.int .i64 ((i : Int) + 1))) (some (.int .i64 (l.length : Int)))).run Tryz.prog w' = .ok v3 w' :=
    ⟨_, fun w' => by rw [run_slice_lhm (P := Tryz.prog) (w := w') 92 (some ⟨g, 0, none⟩) l.length cap Tryz.elemE .i64 .i64 .i64 (i : Int) ((i : Int) + 1) (l.length : Int) (by omega) (by omega) (by omega) (by omega), Tryz.sizeE]; rfl⟩
  have h1s : ∀ w', (Instr.slice 92 (.slice (some ⟨g, 0, none⟩) l.length cap) none (some (.int .i64 (i : Int))) none).run Tryz.prog w' = .ok (.slice (some ⟨g, 0, none⟩) i cap) w' := fun w' => by
    rw [run_slice_h (P := Tryz.prog) (w := w') 92 (some ⟨g, 0, none⟩) l.length cap Tryz.elemE .i64 (i : Int) (by omega) (by omega), Tryz.sizeE]
    show Result.ok (sliced _ _ _ _ _) _ = _
    rw [sliced]
    simp [Addr.add]
  obtain ⟨M, HM⟩ : ∃ M, Hid ((l.eraseIdx i).length = M) := ⟨_, rfl⟩
  rw [HM.out] at hel ⊢
  have h4s : ∀ w', (Instr.slice 92 (.slice (some ⟨g, 0, none⟩) M cap) (some (.int .i64 (M : Int))) (some (.int .i64 (l.length : Int))) none).run Tryz.prog w' = .ok (.slice (some ⟨g, M * 5, none⟩) 1 (cap - M)) w' := fun w' => by
    rw [run_slice_lh (P := Tryz.prog) (w := w') 92 (some ⟨g, 0, none⟩) M cap Tryz.elemE .i64 .i64 (M : Int) (l.length : Int) (by omega) (by omega) (by omega), Tryz.sizeE]
    show Result.ok (sliced _ _ _ _ _) _ = _
    rw [sliced, if_neg (by omega)]
    simp [Addr.add]
    omega
  have hne : ((i : Int) == (i : Int) + 1) = false := by rw [beq_eq_false_iff_ne]; omega
  have hdl : (l.drop (i + 1)).length = l.length - (i + 1) := List.length_drop
  have hpre' : OwE encE 112 0 (.slice (some ⟨g, 0, none⟩) i cap) (l.take i) w.drew := hpre.keep fun _ _ _ => rfl
  have hcells' : ∀ j u, (encE.flat (l.drop (i + 1)))[j]? = some u → w.drew.cell? (ad.add j) = some u := hcells
  have htl : i = (l.take i).length := by rw [List.length_take]; omega
  have HC : Hid _ := hcells'
  have HP : Hid _ := hpre'
  have HTL : Hid _ := htl
  have HDL : Hid _ := hdl.symm
  have HER : Hid _ := her
  clear hcells hcells' hcellsW hpre hpre' htl hdl her
  go_enter Tryz.func148, Tryz.ntmps148
  go_upto_region 5 with fail
  go_region_law (
    refine step_fitsE Tryz.underlying92 Tryz.infoE w.drew (by rfl) (.tmp 22) (.tmp 25) (by rfl) 0 g i cap (l.take i) (by rfl) HTL.out HP.out ad (l.length - (i + 1)) (cap - (i + 1)) (l.drop (i + 1)) (by rfl) HDL.out HC.out (by omega) M (by omega) ?_
    intro w4 hO4 hg4)
  all_goals
    rw [HER.out] at hO4
    have hclear := fun ty => run_clear_rows (P := Tryz.prog) w4 92 112 ty (.agg #[.int .i64 0, .int .u64 0, .int .u64 0, .int .i64 0, .int .u64 0]) Tryz.underlying92 Tryz.zeroE (by decide) g (M * 5) 1 (cap - M) (by omega) (fun m hm => hO4.some_ rfl _ (by show _ < cap * 5; have : m < 1 * 5 := hm; omega)) (fun m _ => hO4.free rfl _)
    have hOc := hO4.cut (by rw [HM.out]) M (by rw [HM.out]; exact Nat.le_refl _) (M * 5) (Nat.le_refl _) (Builtin.zeroCells (Value.agg #[.int .i64 0, .int .u64 0, .int .u64 0, .int .i64 0, .int .u64 0]).cells 1).toList
    rw [List.take_of_length_le (by rw [HM.out]; exact Nat.le_refl _)] at hOc
    have hB4 : Ro.But w.heap.size g w w4 := ⟨hg4.os, hg4.tape, hg4.output, hg4.size, fun q hq hne => hg4.block q hq (fun e => hne (Option.some.inj e))⟩
    have hBc := but_setCells (Builtin.zeroCells (Value.agg #[.int .i64 0, .int .u64 0, .int .u64 0, .int .i64 0, .int .u64 0]).cells 1).toList (M * 5) w4 hB4
    generalize w4.setCells g (M * 5) (Builtin.zeroCells (Value.agg #[.int .i64 0, .int .u64 0, .int .u64 0, .int .i64 0, .int .u64 0]).cells 1).toList = w5 at *
    go_wp2_with fail
    go_ret
    exact ⟨⟨rfl, hOc⟩, hBc⟩
end Go.Proofs.YtpoofjnfaijjjaaGreatDoor
namespace Go.Proofs.YtpoofjnfaijjjaaGreatDoor
open Go.RowKit Go.Proofs.YtpoofjnfaijjjaaGreatDoor.Ro

/-- A note in a row, and the slice that its news are. -/
structure NtX where
  n : Nte
  a : Option Addr
  L : Nat
  c : Nat
def encN : Enc NtX := ⟨6, fun x => [.int .i64 x.n.k, .int .i64 x.n.f, .int .i64 x.n.t, .int .u64 x.n.q, .int .i64 x.n.o, .slice x.a x.L x.c], fun _ => rfl, fun x v hv => by
  simp only [List.mem_cons, List.not_mem_nil, or_false] at hv
  rcases hv with rfl | rfl | rfl | rfl | rfl | rfl <;> rfl, by decide⟩
theorem Tryz.infoN : (Tryz.prog.info? 37).map (fun i => (i.zero, i.size, i.bytes)) = some (some (.agg (ntC 0 0 0 0 0 (.slice none 0 0))), 6, 64) := by kernel_rfl
/-- The row v, made behind the world w0, holds the notes L; no step of the detector touches it. -/
structure Sd (p : Nat) (b : Bl) (w0 : World) (v : Value) (X : List NtX) (w : World) : Prop where
  row : OwE encN 37 w0.heap.size v X w
  away : ∀ g, v.ownBlock = some g → Away p b w g
  news : ∀ x ∈ X, Ro.Own w0.heap.size (.slice x.a x.L x.c) x.n.u w
  naw : ∀ x ∈ X, ∀ g, (Value.slice x.a x.L x.c).ownBlock = some g → Away p b w g
section
variable {p : Nat} {b b' : Bl} {w0 w w' : World} {v : Value} {X : List NtX}
theorem Sd.stp (h : Sd p b w0 v X w) (s : Stp p b w b' w') : Sd p b' w0 v X w' :=
  ⟨h.row.keep fun g hg _ => s.keep (h.away g hg), fun g hg => (h.away g hg).stp s, fun x hx => (h.news x hx).keep fun g hg _ => s.keep (h.naw x hx g hg), fun x hx g hg => (h.naw x hx g hg).stp s⟩
theorem Sd.up {v0 : World} (h : Sd p b w0 v X w) (hz : v0.heap.size ≤ w0.heap.size) : Sd p b v0 v X w := ⟨h.row.mono hz, h.away, fun x hx => Ro.Own.mono (h.news x hx) hz, h.naw⟩
theorem Sd.nil (p : Nat) (b : Bl) (w0 w : World) : Sd p b w0 (.slice none 0 0) [] w := ⟨OwE.nil _ _ _ _, (fun g hg => by cases hg), (fun x hx => by cases hx), (fun x hx => by cases hx)⟩
theorem own_type {B : Nat} {v : Value} {l : List Upd} {w : World} (h : Ro.Own B v l w) {g : Nat} (hg : v.ownBlock = some g) : ∃ cur, w.heap[g]? = some (.cells cur 39 (0, 0)) := by
  rcases h.2 with ⟨rfl, _⟩ | ⟨g', cap, cur, rfl, _, h1, _⟩
  · cases hg
  · cases hg; exact ⟨cur, h1⟩
theorem owe_type {α : Type} {E : Enc α} {T : TypeId} {B : Nat} {v : Value} {l : List α} {w : World} (h : OwE E T B v l w) {g : Nat} (hg : v.ownBlock = some g) : ∃ cur, w.heap[g]? = some (.cells cur T (0, 0)) := by
  rcases h.2 with ⟨rfl, _⟩ | ⟨g', cap, cur, rfl, _, h1, _⟩
  · cases hg
  · cases hg; exact ⟨cur, h1⟩
/-- News lie in no row of notes. -/
theorem Sd.apart (h : Sd p b w0 v X w) {B : Nat} {u : Value} {l : List Upd} (hu : Ro.Own B u l w) {g : Nat} (hg : u.ownBlock = some g) : v.ownBlock ≠ some g := fun e => by
  obtain ⟨c1, e1⟩ := owe_type h.row e
  obtain ⟨c2, e2⟩ := own_type hu hg
  rw [e1] at e2
  simp at e2
/-- One note. -/
theorem Sd.one {k Bp : Nat} {d : Det} {l : List Int} {n : Nte} {a : Option Addr} {L c : Nat} (h : Sx k Bp p b d l w) (hz : w0.heap.size ≤ w.heap.size) (hO : Ro.Own w0.heap.size (.slice a L c) n.u w) (hA : ∀ g, (Value.slice a L c).ownBlock = some g → Away p b w g) :
    Sd p b w0 (.slice (some ⟨w.heap.size, 0, none⟩) 1 1) [⟨n, a, L, c⟩] (w.alloc (.cells (ntC n.k n.f n.t n.q n.o (.slice a L c)) 37)) := by
  have ba : Below w.heap.size w (w.alloc (.cells (ntC n.k n.f n.t n.q n.o (.slice a L c)) 37)) := below_alloc _ _
  refine ⟨⟨rfl, Or.inr ⟨w.heap.size, 1, _, rfl, hz, heap_alloc_new w _, Nat.le_refl _, by unfold maxLen; omega, rfl, rfl⟩⟩, fun g hg => ?_, fun x hx => ?_, fun x hx g hg => ?_⟩
  · cases hg; exact h.away (Nat.le_refl _) (by simp)
  · obtain rfl := List.mem_singleton.1 hx
    exact hO.below ba
  · obtain rfl := List.mem_singleton.1 hx
    exact (hA g hg).stp (Stp.of ba)
/-- Behind an append to it. -/
theorem Sd.app {u v' : Value} {Y : List NtX} {k Bp : Nat} {d : Det} {l : List Int} (hS : Sx k Bp p b d l w) (h : Sd p b w0 v X w) (k' : Sd p b w0 u Y w) (hrow : OwE encN 37 w0.heap.size v' (X ++ Y) w') (hg : w.grownBy w' v.ownBlock) (hv : v'.ownBlock = v.ownBlock ∨ v'.ownBlock = some w.heap.size) (hlt : ∀ g, v'.ownBlock = some g → g < w'.heap.size) :
    Sd p b w0 v' (X ++ Y) w' := by
  have hA : ∀ g, Away p b w g → Away p b w' g := fun g a => ⟨Nat.lt_of_lt_of_le a.lt hg.size, a.p, a.own⟩
  refine ⟨hrow, fun g e => ?_, fun x hx => ?_, fun x hx g e => ?_⟩
  · rcases hv with e' | e'
    · exact hA g (h.away g (e'.symm.trans e))
    · rw [e'] at e; cases e
      exact hS.away (Nat.le_refl _) (hlt _ e')
  · rcases List.mem_append.1 hx with hx | hx
    · exact (h.news x hx).keep fun g e hlt => hg.block g hlt (fun e' => h.apart (h.news x hx) e e'.symm)
    · exact (k'.news x hx).keep fun g e hlt => hg.block g hlt (fun e' => h.apart (k'.news x hx) e e'.symm)
  · rcases List.mem_append.1 hx with hx | hx
    · exact hA g (h.naw x hx g e)
    · exact hA g (k'.naw x hx g e)
end
end Go.Proofs.YtpoofjnfaijjjaaGreatDoor
namespace Go.Proofs.YtpoofjnfaijjjaaGreatDoor
open Go.RowKit Go.Proofs.YtpoofjnfaijjjaaGreatDoor.Ro
/-- One value of a family is another one. -/
def putF {α : Type} (f : Nat → α) (i : Nat) (x : α) : Nat → α := fun j => if j = i then x else f j
theorem putF_same {α : Type} (f : Nat → α) (i : Nat) (x : α) : putF f i x i = x := by simp [putF]
theorem putF_other {α : Type} (f : Nat → α) {i j : Nat} (x : α) (h : j ≠ i) : putF f i x j = f j := by simp [putF, h]
theorem putF_id {α : Type} (f : Nat → α) (i : Nat) : putF f i (f i) = f := by
  funext j
  by_cases h : j = i
  · subst h; exact putF_same _ _ _
  · exact putF_other _ _ h
/-- The detectors of the nodes below N; the lots l lie behind the pointer to block p. -/
structure Cl (N Bp p : Nat) (B : Nat → Bl) (F : Nat → Det) (l : List Int) (w : World) : Prop where
  dt : ∀ i, i < N → Dt i (B i) (F i) w
  lots : Rn.Lt Bp p l w
  lok : Rn.Ok l
  out : ∀ i, i < N → ∀ x g, (B i).own x = some g → g < Bp ∨ p < g
  low : 1 < Bp
  sep : ∀ i j, i < N → j < N → ∀ x y g, (B i).own x = some g → (B j).own y = some g → i = j
/-- No step of any of them touches block g. -/
structure Far (N p : Nat) (B : Nat → Bl) (w : World) (g : Nat) : Prop where
  lt : g < w.heap.size
  p : g ≠ p
  own : ∀ i, i < N → ∀ x, (B i).own x ≠ some g
section
variable {N Bp p : Nat} {B : Nat → Bl} {F : Nat → Det} {l l' : List Int} {w w' : World} {i : Nat} {b' : Bl} {d' : Det} {g : Nat}
theorem Cl.sx (h : Cl N Bp p B F l w) (hi : i < N) : Sx i Bp p (B i) (F i) l w := ⟨h.dt i hi, h.lots, h.lok, h.out i hi, h.low⟩
theorem Cl.step (h : Cl N Bp p B F l w) (hi : i < N) (hs : Sx i Bp p b' d' l' w') (st : Stp p (B i) w b' w') : Cl N Bp p (putF B i b') (putF F i d') l' w' := by
  have hp : ∀ j, j < N → ∀ x g, (B j).own x = some g → g ≠ p := fun j hj x g e e' => by
    have := h.out j hj x g e
    have := h.lots.le
    omega
  refine ⟨fun j hj => ?_, hs.lots, hs.lok, fun j hj x g e => ?_, h.low, fun a c ha hc x y g ea ec => ?_⟩
  · by_cases e : j = i
    · subst e; rw [putF_same, putF_same]; exact hs.dt
    · rw [putF_other _ _ e, putF_other _ _ e]
      have hj' := h.dt j hj
      exact hj'.keep st.size (fun x g hg => st.block g (hj'.sep.lt x g hg).2 (hp j hj x g hg) fun y hy => e (h.sep j i hj hi x y g hg hy))
        (st.block 1 hj'.tab.lt (fun e' => by have := h.low; have := h.lots.le; omega) fun y hy => by have := ((h.dt i hi).sep.lt y 1 hy).1; omega)
  · by_cases e' : j = i
    · subst e'; rw [putF_same] at e; exact hs.out x g e
    · rw [putF_other _ _ e'] at e; exact h.out j hj x g e
  · have key : ∀ c, c < N → c ≠ i → ∀ x y g, b'.own x = some g → (B c).own y = some g → False := fun c hc hne x y g e1 e2 => by
      rcases st.fr x g e1 with ⟨z, hz⟩ | hz
      · exact hne (h.sep c i hc hi y z g e2 hz)
      · have := ((h.dt c hc).sep.lt y g e2).2; omega
    by_cases e1 : a = i
    · by_cases e2 : c = i
      · omega
      · subst e1
        rw [putF_same] at ea
        rw [putF_other _ _ e2] at ec
        exact (key c hc e2 x y g ea ec).elim
    · by_cases e2 : c = i
      · subst e2
        rw [putF_same] at ec
        rw [putF_other _ _ e1] at ea
        exact (key a ha e1 y x g ec ea).elim
      · rw [putF_other _ _ e1] at ea
        rw [putF_other _ _ e2] at ec
        exact h.sep a c ha hc x y g ea ec
theorem Cl.below (h : Cl N Bp p B F l w) (hb : Below w.heap.size w w') : Cl N Bp p B F l w' :=
  ⟨fun i hi => (h.dt i hi).below hb, h.lots.keep fun g _ hg => hb.block g (by have := h.lots.lt; omega), h.lok, h.out, h.low, h.sep⟩
theorem Cl.drew (h : Cl N Bp p B F l w) : Cl N Bp p B F l w.drew := ⟨fun i hi => (h.dt i hi).drew, h.lots.keep fun _ _ _ => rfl, h.lok, h.out, h.low, h.sep⟩
theorem Far.away (h : Far N p B w g) (hi : i < N) : Away p (B i) w g := ⟨h.lt, h.p, h.own i hi⟩
theorem Far.step (h : Far N p B w g) (hi : i < N) (st : Stp p (B i) w b' w') : Far N p (putF B i b') w' g :=
  ⟨Nat.lt_of_lt_of_le h.lt st.size, h.p, fun j hj x e => by
    by_cases e' : j = i
    · subst e'; rw [putF_same] at e
      exact ((h.away hj).stp st).own x e
    · rw [putF_other _ _ e'] at e; exact h.own j hj x e⟩
theorem Far.keep (h : Far N p B w g) (hi : i < N) (st : Stp p (B i) w b' w') : w'.heap[g]? = w.heap[g]? := st.keep (h.away hi)
theorem Far.below (h : Far N p B w g) (hb : Below w.heap.size w w') : Far N p B w' g := ⟨Nat.lt_of_lt_of_le h.lt hb.size, h.p, h.own⟩
theorem Far.drew (h : Far N p B w g) : Far N p B w.drew g := ⟨h.lt, h.p, h.own⟩
theorem Cl.far (h : Cl N Bp p B F l w) (hg : w.heap.size ≤ g) (hg' : g < w'.heap.size) : Far N p B w' g :=
  ⟨hg', fun e => by have := h.lots.lt; omega, fun i hi x e => by have := ((h.dt i hi).sep.lt x g e).2; omega⟩
/-- What a step made, or kept, that no part of the others is. -/
theorem Cl.far_of (h : Cl N Bp p B F l w) (hi : i < N) (st : Stp p (B i) w b' w') (hA : Away p b' w' g) (hg : w.heap.size ≤ g) : Far N p (putF B i b') w' g :=
  ⟨hA.lt, hA.p, fun j hj x e => by
    by_cases e' : j = i
    · subst e'; rw [putF_same] at e; exact hA.own x e
    · rw [putF_other _ _ e'] at e
      have := ((h.dt j hj).sep.lt x g e).2
      omega⟩
/-- Grown: a block that is far from all of them. -/
theorem Cl.grown (h : Cl N Bp p B F l w) {r : Option Nat} (hg : w.grownBy w' r) (hA : ∀ g, r = some g → Far N p B w g ∧ p < g) : Cl N Bp p B F l w' :=
  ⟨fun i hi => (h.dt i hi).keep hg.size (fun x g hx => hg.block g ((h.dt i hi).sep.lt x g hx).2 fun e => (hA g e.symm).1.own i hi x hx) (hg.block 1 (by have := h.lots.lt; have := h.low; have := h.lots.le; omega) fun e => by have := (hA 1 e.symm).2; have := h.low; have := h.lots.le; omega),
    h.lots.keep fun g _ h2 => hg.block g (by have := h.lots.lt; omega) (fun e => by have := (hA g e.symm).2; omega), h.lok, h.out, h.low, h.sep⟩
theorem Far.grown (h : Far N p B w g) {r : Option Nat} (hg : w.grownBy w' r) : Far N p B w' g := ⟨Nat.lt_of_lt_of_le h.lt hg.size, h.p, h.own⟩
end

/-! ## Notes that wait: a row of which the first ones are gone -/
/-- The slice v holds the notes X; it lies behind p; its row is no other's. -/
structure Qn (N p : Nat) (B : Nat → Bl) (v : Value) (X : List NtX) (w : World) : Prop where
  row : ∃ a cap, v = .slice a X.length cap ∧ X.length ≤ cap ∧ cap ≤ maxLen ∧ ((a = none ∧ cap = 0) ∨ ∃ g o cur, a = some ⟨g, o, none⟩ ∧ w.heap[g]? = some (.cells cur 37 (0, 0)) ∧ o + cap * 6 ≤ cur.size ∧ (∀ j x, (encN.flat X)[j]? = some x → cur[o + j]? = some x) ∧ Far N p B w g ∧ p < g)
  news : ∀ x ∈ X, Ro.Own (p + 1) (.slice x.a x.L x.c) x.n.u w
  naw : ∀ x ∈ X, ∀ g, (Value.slice x.a x.L x.c).ownBlock = some g → Far N p B w g
end Go.Proofs.YtpoofjnfaijjjaaGreatDoor
