/-
  Doubts behind a pointer; keep.
-/
import Derived.Test.YtahiiieifdhgeaaDmp
import Derived.Deep.RegionHeld3
import Derived.Deep.CutRange
namespace Go.Proofs.Ytahiiieifdhgeaa
open Go.RowKit Go.Maps

theorem Below.drew' {B : Nat} {a w : World} (h : Below B a w) : Below B a w.drew := ⟨h.os, h.tape, h.output, h.size, fun i hi => h.block i hi⟩
theorem below_alloc (w : World) (o : Obj) : Below w.heap.size w (w.alloc o) := (Below.refl _ _).alloc (Nat.le_refl _) _

/-- What a call changes: block p, and block m, if that is one; the map is then where it was, or in a new block. -/
structure Mv (p : Nat) (m m' : Option Nat) (w w' : World) : Prop where
  os : w'.os = w.os
  tape : w'.tape = w.tape
  output : w'.output = w.output
  size : w.heap.size ≤ w'.heap.size
  block : ∀ k, k < w.heap.size → k ≠ p → some k ≠ m → w'.heap[k]? = w.heap[k]?
  at_ : m' = m ∨ ∀ b, m' = some b → w.heap.size ≤ b
section
variable {p : Nat} {m m1 m2 : Option Nat} {w w1 w2 : World}
theorem Mv.refl (p : Nat) (m : Option Nat) (w : World) : Mv p m m w w := ⟨rfl, rfl, rfl, Nat.le_refl _, fun _ _ _ _ => rfl, Or.inl rfl⟩
theorem Mv.of (h : Below w.heap.size w w1) : Mv p m m w w1 := ⟨h.os, h.tape, h.output, h.size, fun k hk _ _ => h.block k hk, Or.inl rfl⟩
theorem Mv.trans (h : Mv p m m1 w w1) (k : Mv p m1 m2 w1 w2) : Mv p m m2 w w2 := by
  refine ⟨k.os.trans h.os, k.tape.trans h.tape, k.output.trans h.output, Nat.le_trans h.size k.size, fun i hi hp hm => ?_, ?_⟩
  · have hi1 : i < w1.heap.size := Nat.lt_of_lt_of_le hi h.size
    rw [k.block i hi1 hp ?_, h.block i hi hp hm]
    rcases h.at_ with e | e
    · rw [e]; exact hm
    · intro e'
      have := e i e'.symm
      omega
  · rcases k.at_ with e | e
    · rcases h.at_ with e' | e'
      · exact Or.inl (e.trans e')
      · exact Or.inr fun b hb => e' b (by rw [← e]; exact hb)
    · exact Or.inr fun b hb => Nat.le_trans h.size (e b hb)
theorem Mv.to {B : Nat} (h : Mv p m m1 w w1) (hB : B ≤ w.heap.size) (hp : B ≤ p) (hm : ∀ b, m = some b → B ≤ b) : Below B w w1 :=
  ⟨h.os, h.tape, h.output, h.size, fun k hk => h.block k (by omega) (by omega) (fun e => by have := hm k e.symm; omega)⟩
theorem Mv.from_ {B : Nat} (h : Mv p m m1 w w1) (hB : B ≤ w.heap.size) (hm : ∀ b, m = some b → B ≤ b) : ∀ b, m1 = some b → B ≤ b := by
  intro b hb
  rcases h.at_ with e | e
  · exact hm b (by rw [← e]; exact hb)
  · exact Nat.le_trans hB (e b hb)
end

/-- Block p is doubts, whose map is block m (none, where there is no map); they are L. -/
structure Du (p : Nat) (m : Option Nat) (L : List Dbt) (w : World) : Prop where
  di : Di L
  heap : w.heap[p]? = some (.cells #[.map m] 27 (0, 0))
  none_ : m = none → L = []
  some_ : ∀ b, m = some b → Mo b L w
section
variable {p : Nat} {m : Option Nat} {L : List Dbt} {w w' : World}
theorem Du.c (h : Du p m L w) : w.cell? ⟨p, 0, none⟩ = some (.map m) := by simp [World.cell?, h.heap]
theorem Du.free (h : Du p m L w) (j : Nat) : w.frozen? ⟨p, j, none⟩ = false := by simp [World.frozen?, h.heap]
theorem Du.lt (h : Du p m L w) : p < w.heap.size := (Array.getElem?_eq_some_iff.1 h.heap).1
theorem Du.ne (h : Du p m L w) : ∀ b, m = some b → b ≠ p := by
  intro b hb e
  subst e
  obtain ⟨D, ⟨es, clock, h1, _⟩, _⟩ := h.some_ b hb
  rw [h.heap] at h1
  cases h1
theorem Du.mlt (h : Du p m L w) : ∀ b, m = some b → b < w.heap.size := fun b hb => (h.some_ b hb).lt
theorem Du.keep (h : Du p m L w) (e : w'.heap[p]? = w.heap[p]?) (e' : ∀ b, m = some b → w'.heap[b]? = w.heap[b]?) : Du p m L w' := ⟨h.di, e.trans h.heap, h.none_, fun b hb => (h.some_ b hb).keep (e' b hb)⟩
theorem Du.below (h : Du p m L w) (k : Below w.heap.size w w') : Du p m L w' := h.keep (k.block p h.lt) fun b hb => k.block b (h.mlt b hb)
theorem Du.new (w : World) : Du w.heap.size none [] (w.alloc (.cells #[.map none] 27)) := ⟨Di.nil, heap_alloc_new w _, fun _ => rfl, fun b hb => by cases hb⟩
end

set_option maxHeartbeats 1000000 in
theorem keep_some (p b : Nat) (L : List Dbt) (x : Dbt) (hx : DbtOk x) (w : World) (hQ : Du p (some b) L w) :
    Calls Try.prog 24 #[.pointer (some ⟨p, 0, none⟩), dV x] w fun e w' => e = .returned (.tuple #[]) ∧ Du p (some b) (keepD L x) w' ∧ Mv p (some b) (some b) w w' := by
  have ba := below_alloc w (.cells #[.int .i64 x.n, .int .u64 x.i, .int .i64 x.s, .int .u64 (x.f : Int), .int .u64 x.a, .int .u64 x.t, .int .u64 x.u] 55)
  have hQ1 := hQ.below ba
  have hM := hQ1.some_ b rfl
  have hc := hQ1.c
  have hb := Bd.new 55 x w
  unfold dC at hb
  have hM2 : Mo b L (w.alloc (.cells #[.int .i64 x.n, .int .u64 x.i, .int .i64 x.s, .int .u64 (x.f : Int), .int .u64 x.a, .int .u64 x.t, .int .u64 x.u] 55)).drew := hM
  obtain ⟨w4, hrun, h4, hg⟩ := hM2.put hQ.di hx
  unfold dV at *
  have qT : ∀ (w : World) (r : Option Nat), (binOp .eql 25 (.map r) (.map none)).run Try.prog w = .ok (.bool r.isNone) w := fun w r => run_eql_map_nil w _ _ _ r Try.underlying25
  have hmv : Mv p (some b) (some b) w w4 := ⟨hg.os.trans ba.os, hg.tape.trans ba.tape, hg.output.trans ba.output, Nat.le_trans ba.size hg.size, fun k hk _ hm => (hg.block k (Nat.lt_of_lt_of_le hk ba.size) hm).trans (ba.block k hk), Or.inl rfl⟩
  have hne := hQ.ne b rfl
  have hQ4 : Du p (some b) (keepD L x) w4 := ⟨hQ.di.keep hx, (hg.block p hQ1.lt (by simpa using Ne.symm hne)).trans hQ1.heap, (fun e => by cases e), (fun b' e => by cases e; exact h4)⟩
  clear hM hM2 hg h4
  go_enter Try.func24, Try.ntmps24
  go_wp2_with fail
  go_region
  go_wp2_with fail
  go_end0
  exact ⟨rfl, hQ4, hmv⟩

set_option maxHeartbeats 1000000 in
theorem keep_none (p : Nat) (x : Dbt) (hx : DbtOk x) (w : World) (hQ : Du p none [] w) :
    Calls Try.prog 24 #[.pointer (some ⟨p, 0, none⟩), dV x] w fun e w' => e = .returned (.tuple #[]) ∧ ∃ b, Du p (some b) (keepD [] x) w' ∧ Mv p none (some b) w w' := by
  have ba := below_alloc w (.cells #[.int .i64 x.n, .int .u64 x.i, .int .i64 x.s, .int .u64 (x.f : Int), .int .u64 x.a, .int .u64 x.t, .int .u64 x.u] 55)
  have hQ1 := hQ.below ba
  have hb := Bd.new 55 x w
  unfold dC at hb
  have qT : ∀ (w : World) (r : Option Nat), (binOp .eql 25 (.map r) (.map none)).run Try.prog w = .ok (.bool r.isNone) w := fun w r => run_eql_map_nil w _ _ _ r Try.underlying25
  obtain ⟨V1, HV1⟩ : ∃ V1, Hid (V1 = w.alloc (.cells #[.int .i64 x.n, .int .u64 x.i, .int .i64 x.s, .int .u64 (x.f : Int), .int .u64 x.a, .int .u64 x.t, .int .u64 x.u] 55)) := ⟨_, rfl⟩
  rw [← HV1.out] at ba hQ1 hb
  have hmm := @run_makeMap Try.prog 25 V1
  have bb := below_alloc V1 (.map #[] 0)
  have hM := Mo.made V1
  obtain ⟨V2, HV2⟩ : ∃ V2, Hid (V2 = V1.alloc (.map #[] 0)) := ⟨_, rfl⟩
  rw [← HV2.out] at hmm bb hM
  have hQ2 := hQ1.below bb
  have hb2 := hb.below bb
  have hc := hQ1.c
  have hc2 := hQ2.c
  have hf2 := hQ2.free 0
  have hz1 : w.heap.size ≤ V1.heap.size := ba.size
  have hlt := hQ.lt
  generalize V1.heap.size = b at *
  have hpb : p ≠ b := by omega
  obtain ⟨V3, HV3⟩ : ∃ V3, Hid (V3 = V2.setCell ⟨p, 0, none⟩ (.map (some b))) := ⟨_, rfl⟩
  have h3o : ∀ k, k ≠ p → V3.heap[k]? = V2.heap[k]? := fun k hk => by rw [HV3.out]; exact Below.heap_setCell _ _ _ _ (by simpa using hk)
  have h3p : V3.heap[p]? = some (.cells #[.map (some b)] 27 (0, 0)) := by rw [HV3.out]; simp [World.setCell, Array.getElem?_modify, hQ2.heap]
  have hM3 := hM.keep (h3o b (Ne.symm hpb))
  have hb3 := hb2.keep (h3o w.heap.size (by omega))
  obtain ⟨w4, hrun, h4, hg⟩ := Mo.put (w := V3.drew) hM3 Di.nil hx
  have x0 := hb3.c0
  have x1 := hb3.c1
  have x2 := hb3.c2
  have x3 := hb3.c3
  have x4 := hb3.c4
  have x5 := hb3.c5
  have x6 := hb3.c6
  have xp : V3.cell? ⟨p, 0, none⟩ = some (.map (some b)) := by simp [World.cell?, h3p]
  have hQ4 : Du p (some b) (keepD [] x) w4 := ⟨Di.nil.keep hx, (hg.block p (Array.getElem?_eq_some_iff.1 h3p).1 (by simpa using hpb)).trans h3p, (fun e => by cases e), (fun b' e => by cases e; exact h4)⟩
  have hz3 : V3.heap.size = V2.heap.size := by rw [HV3.out]; simp [World.setCell]
  have hmv : Mv p none (some b) w w4 := by
    refine ⟨hg.os.trans ?_, hg.tape.trans ?_, hg.output.trans ?_, ?_, fun k hk hp _ => ?_, Or.inr fun b' e => by cases e; exact hz1⟩
    · rw [HV3.out]; exact bb.os.trans ba.os
    · rw [HV3.out]; exact bb.tape.trans ba.tape
    · rw [HV3.out]; exact bb.output.trans ba.output
    · have a1 := hg.size
      have a2 := bb.size
      have a3 : V3.drew.heap.size = V3.heap.size := rfl
      have a4 := ba.size
      omega
    · have a2 := bb.size
      have a3 : V3.drew.heap.size = V3.heap.size := rfl
      have a4 := ba.size
      rw [hg.block k (by omega) (by simp; omega)]
      exact (h3o k hp).trans ((bb.block k (by omega)).trans (ba.block k hk))
  clear hg h4 hM3 hM hb hb2 hb3 h3o h3p hz3 ba bb hQ1 hQ2 hQ
  unfold dV at *
  go_enter Try.func24, Try.ntmps24
  go_upto_region 1 with fail
  rw [← HV1.out]
  generalize w.heap.size = g at *
  go_wp2_with fail
  rw [← HV3.out]
  go_region
  go_wp2_with fail
  go_end0
  exact ⟨rfl, b, hQ4, hmv⟩

theorem keep_any (p : Nat) (m : Option Nat) (L : List Dbt) (x : Dbt) (hx : DbtOk x) (w : World) (hQ : Du p m L w) :
    Calls Try.prog 24 #[.pointer (some ⟨p, 0, none⟩), dV x] w fun e w' => e = .returned (.tuple #[]) ∧ ∃ m', Du p m' (keepD L x) w' ∧ Mv p m m' w w' := by
  cases m with
  | none =>
    obtain rfl := hQ.none_ rfl
    exact (keep_none p x hx w hQ).mono fun e w' ⟨h1, b, h2, h3⟩ => ⟨h1, _, h2, h3⟩
  | some b => exact (keep_some p b L x hx w hQ).mono fun e w' ⟨h1, h2, h3⟩ => ⟨h1, _, h2, h3⟩
theorem look_any {p : Nat} {m : Option Nat} {L : List Dbt} {w : World} (h : Du p m L w) {n : Int} (hn : (Lit.int .i64 n).wf = true) :
    (Instr.lookup 25 (.map m) (.int .i64 n) true).run Try.prog w = .ok (.tuple #[dV (getD L n), .bool (hasD L n)]) w := by
  cases m with
  | none =>
    obtain rfl := h.none_ rfl
    rw [look_nil true law3 Try.underlying25 (zeroD _) (keyOf_int_mk Try.underlying3 hn)]
    rfl
  | some b => exact (h.some_ b rfl).look hn
theorem get_any {p b : Nat} {L : List Dbt} {w : World} (h : Du p (some b) L w) {n : Int} (hn : (Lit.int .i64 n).wf = true) :
    (Instr.lookup 25 (.map (some b)) (.int .i64 n) false).run Try.prog w = .ok (dV (getD L n)) w := by
  obtain ⟨D, ho, hp⟩ := h.some_ b rfl
  obtain ⟨v, ps, hr, hv⟩ := ho.lookup law3 Try.underlying25 (zeroD _) (dElem_mk zD) (keyOf_int_mk Try.underlying3 hn)
  rw [hr]
  obtain ⟨x, rfl, e⟩ := dElem_inv hv
  have e' : D.atKey (.int .i64 n) (dat zD) = dat x := by simpa using congrArg Prod.fst e
  cases hh : hasD L n
  case false =>
    obtain ⟨k1, k2⟩ := hasD_false hh
    have hm := hp.miss k1
    rw [atKey_of_not_has hm] at e'
    rw [k2, dat_inj e']
  case true =>
    obtain ⟨k1, k2⟩ := hasD_true hh
    have := hp.is _ k1 (dat zD)
    rw [k2, e'] at this
    rw [dat_inj this]
theorem Mv.be {p : Nat} {m m1 : Option Nat} {w w1 w2 : World} (h : Mv p m m1 w w1) (k : Below w1.heap.size w1 w2) : Mv p m m1 w w2 := h.trans (Mv.of k)
theorem Mv.eb {p : Nat} {m m1 : Option Nat} {w w1 w2 : World} (h : Below w.heap.size w w1) (k : Mv p m m1 w1 w2) : Mv p m m1 w w2 := (Mv.of h).trans k
theorem del_nil (n : Int) (hn : (Lit.int .i64 n).wf = true) (ty : TypeId) (w : World) : (Builtin.delete_ #[25, 3] ty #[.map none, .int .i64 n]).run Try.prog w = .ok (.tuple #[]) w := by
  have hc := law3.check w true (keyOf_int_mk Try.underlying3 hn)
  simp [Builtin.delete_, go_sem, run_underlying Try.underlying25, hc]
end Go.Proofs.Ytahiiieifdhgeaa
