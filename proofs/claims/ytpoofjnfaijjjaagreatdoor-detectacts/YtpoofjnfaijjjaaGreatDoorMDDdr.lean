/-
  Doubts behind a pointer; keep. Drop; the closure that reckons a doubt's end, and the reference's later.
-/
import Derived.Test.YtpoofjnfaijjjaaGreatDoorMDErm
import Derived.Test.YtpoofjnfaijjjaaGreatDoorMHol
import Derived.Deep.RegionHeld3
import Derived.Deep.CutRange
namespace Go.Proofs.YtpoofjnfaijjjaaGreatDoor.Do
open Go.RowKit Go.Maps Go.Proofs.YtpoofjnfaijjjaaGreatDoor.Ro
variable {X : Value → Array Value}
theorem Below.drew' {B : Nat} {a w : World} (h : Below B a w) : Below B a w.drew := ⟨h.os, h.tape, h.output, h.size, fun i hi => h.block i hi⟩
theorem below_alloc (w : World) (o : Obj) : Below w.heap.size w (w.alloc o) := (Below.refl _ _).alloc (Nat.le_refl _) _
structure Mv (p : Nat) (m m' : Option Nat) (w w' : World) : Prop where
  os : w'.os = w.os
  tape : w'.tape = w.tape
  output : w'.output = w.output
  size : w.heap.size ≤ w'.heap.size
  block : ∀ k, k < w.heap.size → k ≠ p → some k ≠ m → w'.heap[k]? = w.heap[k]?
  at_ : m' = m ∨ ∀ b, m' = some b → w.heap.size ≤ b
section
variable {p : Nat} {m m1 m2 : Option Nat} {w w1 w2 : World}
theorem Mv.of (h : Below w.heap.size w w1) : Mv p m m w w1 := ⟨h.os, h.tape, h.output, h.size, fun k hk _ _ => h.block k hk, Or.inl rfl⟩
theorem Mv.trans (h : Mv p m m1 w w1) (k : Mv p m1 m2 w1 w2) : Mv p m m2 w w2 := by
  refine ⟨k.os.trans h.os, k.tape.trans h.tape, k.output.trans h.output, Nat.le_trans h.size k.size, fun i hi hp hm => ?_, ?_⟩
  · have hi1 : i < w1.heap.size := Nat.lt_of_lt_of_le hi h.size
    rw [k.block i hi1 hp ?_, h.block i hi hp hm]
    rcases h.at_ with e | e
    · rw [e]; exact hm
    · intro e'
      have := e i e'.symm
      omega
  · rcases k.at_ with e | e
    · rcases h.at_ with e' | e'
      · exact Or.inl (e.trans e')
      · exact Or.inr fun b hb => e' b (by rw [← e]; exact hb)
    · exact Or.inr fun b hb => Nat.le_trans h.size (e b hb)
end
structure Du (X : Value → Array Value) (p : Nat) (m : Option Nat) (L : List Dbt) (w : World) : Prop where
  hole : Hole 3 X
  di : Di L
  heap : w.heap[p]? = some (.cells (X (.map m)) 94 (0, 0))
  none_ : m = none → L = []
  some_ : ∀ b, m = some b → Mo b L w
section
variable {p : Nat} {m : Option Nat} {L : List Dbt} {w w' : World}
theorem Du.c (h : Du X p m L w) : w.cell? ⟨p, 3, none⟩ = some (.map m) := h.hole.cell h.heap
theorem Du.free (h : Du X p m L w) (j : Nat) : w.frozen? ⟨p, j, none⟩ = false := by simp [World.frozen?, h.heap]
theorem Du.lt (h : Du X p m L w) : p < w.heap.size := (Array.getElem?_eq_some_iff.1 h.heap).1
theorem Du.ne (h : Du X p m L w) : ∀ b, m = some b → b ≠ p := by
  intro b hb e
  subst e
  obtain ⟨D, ⟨es, clock, h1, _⟩, _⟩ := h.some_ b hb
  rw [h.heap] at h1
  cases h1
theorem Du.mlt (h : Du X p m L w) : ∀ b, m = some b → b < w.heap.size := fun b hb => (h.some_ b hb).lt
theorem Du.keep (h : Du X p m L w) (e : w'.heap[p]? = w.heap[p]?) (e' : ∀ b, m = some b → w'.heap[b]? = w.heap[b]?) : Du X p m L w' := ⟨h.hole, h.di, e.trans h.heap, h.none_, fun b hb => (h.some_ b hb).keep (e' b hb)⟩
theorem Du.below (h : Du X p m L w) (k : Below w.heap.size w w') : Du X p m L w' := h.keep (k.block p h.lt) fun b hb => k.block b (h.mlt b hb)
end
set_option maxHeartbeats 1000000 in
theorem keep_some (p b : Nat) (L : List Dbt) (x : Dbt) (hx : DbtOk x) (w : World) (hQ : Du X p (some b) L w) :
    Calls Tryz.prog 167 #[.pointer (some ⟨p, 3, none⟩), dV x] w fun e w' => e = .returned (.tuple #[]) ∧ Du X p (some b) (keepD L x) w' ∧ Mv p (some b) (some b) w w' := by
  have ba := below_alloc w (.cells #[.int .i64 x.n, .int .u64 x.i, .int .i64 x.s, .int .u64 (x.f : Int), .int .u64 x.a, .int .u64 x.t, .int .u64 x.u] 162)
  have hQ1 := hQ.below ba
  have hM := hQ1.some_ b rfl
  have hc := hQ1.c
  have hb := Bd.new 162 x w
  unfold dC at hb
  have hM2 : Mo b L (w.alloc (.cells #[.int .i64 x.n, .int .u64 x.i, .int .i64 x.s, .int .u64 (x.f : Int), .int .u64 x.a, .int .u64 x.t, .int .u64 x.u] 162)).drew := hM
  obtain ⟨w4, hrun, h4, hg⟩ := hM2.put hQ.di hx
  unfold dV at *
  have qT : ∀ (w : World) (r : Option Nat), (binOp .eql 88 (.map r) (.map none)).run Tryz.prog w = .ok (.bool r.isNone) w := fun w r => run_eql_map_nil w _ _ _ r Tryz.underlying88
  have hmv : Mv p (some b) (some b) w w4 := ⟨hg.os.trans ba.os, hg.tape.trans ba.tape, hg.output.trans ba.output, Nat.le_trans ba.size hg.size, fun k hk _ hm => (hg.block k (Nat.lt_of_lt_of_le hk ba.size) hm).trans (ba.block k hk), Or.inl rfl⟩
  have hne := hQ.ne b rfl
  have hQ4 : Du X p (some b) (keepD L x) w4 := ⟨hQ.hole, hQ.di.keep hx, (hg.block p hQ1.lt (by simpa using Ne.symm hne)).trans hQ1.heap, (fun e => by cases e), (fun b' e => by cases e; exact h4)⟩
  clear hM hM2 hg h4
  go_enter Tryz.func167, Tryz.ntmps167
  go_wp2_with fail
  go_region
  go_wp2_with fail
  go_end0
  exact ⟨rfl, hQ4, hmv⟩
set_option maxHeartbeats 1000000 in
theorem keep_none (p : Nat) (x : Dbt) (hx : DbtOk x) (w : World) (hQ : Du X p none [] w) :
    Calls Tryz.prog 167 #[.pointer (some ⟨p, 3, none⟩), dV x] w fun e w' => e = .returned (.tuple #[]) ∧ ∃ b, Du X p (some b) (keepD [] x) w' ∧ Mv p none (some b) w w' := by
  have ba := below_alloc w (.cells #[.int .i64 x.n, .int .u64 x.i, .int .i64 x.s, .int .u64 (x.f : Int), .int .u64 x.a, .int .u64 x.t, .int .u64 x.u] 162)
  have hQ1 := hQ.below ba
  have hb := Bd.new 162 x w
  unfold dC at hb
  have qT : ∀ (w : World) (r : Option Nat), (binOp .eql 88 (.map r) (.map none)).run Tryz.prog w = .ok (.bool r.isNone) w := fun w r => run_eql_map_nil w _ _ _ r Tryz.underlying88
  obtain ⟨V1, HV1⟩ : ∃ V1, Hid (V1 = w.alloc (.cells #[.int .i64 x.n, .int .u64 x.i, .int .i64 x.s, .int .u64 (x.f : Int), .int .u64 x.a, .int .u64 x.t, .int .u64 x.u] 162)) := ⟨_, rfl⟩
  rw [← HV1.out] at ba hQ1 hb
  have hmm := @run_makeMap Tryz.prog 88 V1
  have bb := below_alloc V1 (.map #[] 0)
  have hM := Mo.made V1
  obtain ⟨V2, HV2⟩ : ∃ V2, Hid (V2 = V1.alloc (.map #[] 0)) := ⟨_, rfl⟩
  rw [← HV2.out] at hmm bb hM
  have hQ2 := hQ1.below bb
  have hb2 := hb.below bb
  have hc := hQ1.c
  have hc2 := hQ2.c
  have hf2 := hQ2.free 3
  have hz1 : w.heap.size ≤ V1.heap.size := ba.size
  have hlt := hQ.lt
  generalize V1.heap.size = b at *
  have hpb : p ≠ b := by omega
  obtain ⟨V3, HV3⟩ : ∃ V3, Hid (V3 = V2.setCell ⟨p, 3, none⟩ (.map (some b))) := ⟨_, rfl⟩
  have h3o : ∀ k, k ≠ p → V3.heap[k]? = V2.heap[k]? := fun k hk => by rw [HV3.out]; exact Below.heap_setCell _ _ _ _ (by simpa using hk)
  have h3p : V3.heap[p]? = some (.cells (X (.map (some b))) 94 (0, 0)) := by rw [HV3.out]; exact hQ2.hole.put hQ2.heap _
  have hM3 := hM.keep (h3o b (Ne.symm hpb))
  have hb3 := hb2.keep (h3o w.heap.size (by omega))
  obtain ⟨w4, hrun, h4, hg⟩ := Mo.put (w := V3.drew) hM3 Di.nil hx
  have x0 := hb3.c0
  have x1 := hb3.c1
  have x2 := hb3.c2
  have x3 := hb3.c3
  have x4 := hb3.c4
  have x5 := hb3.c5
  have x6 := hb3.c6
  have xp : V3.cell? ⟨p, 3, none⟩ = some (.map (some b)) := hQ2.hole.cell h3p
  have hQ4 : Du X p (some b) (keepD [] x) w4 := ⟨hQ.hole, Di.nil.keep hx, (hg.block p (Array.getElem?_eq_some_iff.1 h3p).1 (by simpa using hpb)).trans h3p, (fun e => by cases e), (fun b' e => by cases e; exact h4)⟩
  have hz3 : V3.heap.size = V2.heap.size := by rw [HV3.out]; simp [World.setCell]
  have hmv : Mv p none (some b) w w4 := by
    refine ⟨hg.os.trans ?_, hg.tape.trans ?_, hg.output.trans ?_, ?_, fun k hk hp _ => ?_, Or.inr fun b' e => by cases e; exact hz1⟩
    · rw [HV3.out]; exact bb.os.trans ba.os
    · rw [HV3.out]; exact bb.tape.trans ba.tape
    · rw [HV3.out]; exact bb.output.trans ba.output
    · have a1 := hg.size
      have a2 := bb.size
      have a3 : V3.drew.heap.size = V3.heap.size := rfl
      have a4 := ba.size
      omega
    · have a2 := bb.size
      have a3 : V3.drew.heap.size = V3.heap.size := rfl
      have a4 := ba.size
      rw [hg.block k (by omega) (by simp; omega)]
      exact (h3o k hp).trans ((bb.block k (by omega)).trans (ba.block k hk))
  clear hg h4 hM3 hM hb hb2 hb3 h3o h3p hz3 ba bb hQ1 hQ2 hQ
  unfold dV at *
  go_enter Tryz.func167, Tryz.ntmps167
  go_upto_region 1 with fail
  rw [← HV1.out]
  generalize w.heap.size = g at *
  go_wp2_with fail
  rw [← HV3.out]
  go_region
  go_wp2_with fail
  go_end0
  exact ⟨rfl, b, hQ4, hmv⟩
theorem keep_any (p : Nat) (m : Option Nat) (L : List Dbt) (x : Dbt) (hx : DbtOk x) (w : World) (hQ : Du X p m L w) :
    Calls Tryz.prog 167 #[.pointer (some ⟨p, 3, none⟩), dV x] w fun e w' => e = .returned (.tuple #[]) ∧ ∃ m', Du X p m' (keepD L x) w' ∧ Mv p m m' w w' := by
  cases m with
  | none =>
    obtain rfl := hQ.none_ rfl
    exact (keep_none p x hx w hQ).mono fun e w' ⟨h1, b, h2, h3⟩ => ⟨h1, _, h2, h3⟩
  | some b => exact (keep_some p b L x hx w hQ).mono fun e w' ⟨h1, h2, h3⟩ => ⟨h1, _, h2, h3⟩
theorem look_any {p : Nat} {m : Option Nat} {L : List Dbt} {w : World} (h : Du X p m L w) {n : Int} (hn : (Lit.int .i64 n).wf = true) :
    (Instr.lookup 88 (.map m) (.int .i64 n) true).run Tryz.prog w = .ok (.tuple #[dV (getD L n), .bool (hasD L n)]) w := by
  cases m with
  | none =>
    obtain rfl := h.none_ rfl
    rw [look_nil true law3 Tryz.underlying88 (zeroD _) (keyOf_int_mk Tryz.underlying3 hn)]
    rfl
  | some b => exact (h.some_ b rfl).look hn
theorem get_any {p b : Nat} {L : List Dbt} {w : World} (h : Du X p (some b) L w) {n : Int} (hn : (Lit.int .i64 n).wf = true) :
    (Instr.lookup 88 (.map (some b)) (.int .i64 n) false).run Tryz.prog w = .ok (dV (getD L n)) w := by
  obtain ⟨D, ho, hp⟩ := h.some_ b rfl
  obtain ⟨v, ps, hr, hv⟩ := ho.lookup law3 Tryz.underlying88 (zeroD _) (dElem_mk zD) (keyOf_int_mk Tryz.underlying3 hn)
  rw [hr]
  obtain ⟨x, rfl, e⟩ := dElem_inv hv
  have e' : D.atKey (.int .i64 n) (dat zD) = dat x := by simpa using congrArg Prod.fst e
  cases hh : hasD L n
  case false =>
    obtain ⟨k1, k2⟩ := hasD_false hh
    have hm := hp.miss k1
    rw [atKey_of_not_has hm] at e'
    rw [k2, dat_inj e']
  case true =>
    obtain ⟨k1, k2⟩ := hasD_true hh
    have := hp.is _ k1 (dat zD)
    rw [k2, e'] at this
    rw [dat_inj this]
theorem Mv.eb {p : Nat} {m m1 : Option Nat} {w w1 w2 : World} (h : Below w.heap.size w w1) (k : Mv p m m1 w1 w2) : Mv p m m1 w w2 := (Mv.of h).trans k
theorem del_nil (n : Int) (hn : (Lit.int .i64 n).wf = true) (ty : TypeId) (w : World) : (Builtin.delete_ #[88, 3] ty #[.map none, .int .i64 n]).run Tryz.prog w = .ok (.tuple #[]) w := by
  have hc := law3.check w true (keyOf_int_mk Tryz.underlying3 hn)
  simp [Builtin.delete_, go_sem, run_underlying Tryz.underlying88, hc]
variable {X : Value → Array Value}
set_option maxRecDepth 100000 in
set_option maxHeartbeats 1000000 in
theorem drop_none (p : Nat) (n : Int) (hn : (Lit.int .i64 n).wf = true) (w : World) (hQ : Du X p none [] w) :
    Calls Tryz.prog 81 #[.pointer (some ⟨p, 3, none⟩), .int .i64 n] w fun e w' => e = .returned (.bool false) ∧ Below w.heap.size w w' := by
  have hl := look_any hQ hn
  rw [show hasD [] n = false from rfl, show getD [] n = zD from rfl] at hl
  generalize zD = x at hl
  have hc := hQ.c
  have ba := below_alloc w (dC x 162)
  have hc2 := (hQ.below ba).c
  have hd := fun w => del_nil n hn 0 w
  unfold dV at hl
  unfold dC at ba hc2
  go_enter Tryz.func81, Tryz.ntmps81
  go_wp2_with fail
  go_ret
  exact ⟨rfl, ba⟩
set_option maxHeartbeats 1000000 in
theorem drop_some (p b : Nat) (L : List Dbt) (n : Int) (hn : (Lit.int .i64 n).wf = true) (w : World) (hQ : Du X p (some b) L w) :
    Calls Tryz.prog 81 #[.pointer (some ⟨p, 3, none⟩), .int .i64 n] w fun e w' => e = .returned (.bool (hasD L n)) ∧ Du X p (some b) (lessD L n) w' ∧ Mv p (some b) (some b) w w' := by
  have hl := look_any hQ hn
  have hc := hQ.c
  have ba := below_alloc w (dC (getD L n) 162)
  have hQ2 := hQ.below ba
  have hc2 := hQ2.c
  obtain ⟨w4, hrun, h4, hg⟩ := (hQ2.some_ b rfl).del hQ.di hn 0
  have hmv : Mv p (some b) (some b) w w4 := ⟨hg.os.trans ba.os, hg.tape.trans ba.tape, hg.output.trans ba.output, Nat.le_trans ba.size hg.size, fun k hk _ hm => (hg.block k (Nat.lt_of_lt_of_le hk ba.size) hm).trans (ba.block k hk), Or.inl rfl⟩
  have hne := hQ.ne b rfl
  have hQ4 : Du X p (some b) (lessD L n) w4 := ⟨hQ.hole, hQ.di.less n, (hg.block p hQ2.lt (by simpa using Ne.symm hne)).trans hQ2.heap, (fun e => by cases e), (fun b' e => by cases e; exact h4)⟩
  clear hg h4
  unfold dV at hl
  unfold dC at ba hc2 hrun
  clear ba hQ2
  generalize hasD L n = h at *
  generalize getD L n = x at *
  go_enter Tryz.func81, Tryz.ntmps81
  go_wp2_with fail
  go_ret
  exact ⟨rfl, hQ4, hmv⟩
theorem drop_any (p : Nat) (m : Option Nat) (L : List Dbt) (n : Int) (hn : (Lit.int .i64 n).wf = true) (w : World) (hQ : Du X p m L w) :
    Calls Tryz.prog 81 #[.pointer (some ⟨p, 3, none⟩), .int .i64 n] w fun e w' => e = .returned (.bool (hasD L n)) ∧ Du X p m (lessD L n) w' ∧ Mv p m m w w' := by
  cases m with
  | none =>
    obtain rfl := hQ.none_ rfl
    exact (drop_none p n hn w hQ).mono fun e w' ⟨h1, h2⟩ => ⟨h1, hQ.below h2, Mv.of h2⟩
  | some b => exact drop_some p b L n hn w hQ
set_option maxHeartbeats 1000000 in
theorem until_any (pb pn : Nat) (base : Nat) (HB : Hid (base < 2 ^ 64)) (nodes a t : Int) (hn : -9223372036854775808 ≤ nodes ∧ nodes ≤ 9223372036854775807) (a0 : 0 ≤ a) (a1 : a ≤ 18446744073709551615) (t0 : 0 ≤ t) (t1 : t ≤ 64) (w : World)
    (cb : w.cell? ⟨pb, 0, none⟩ = some (.float .f64 base)) (cn : w.cell? ⟨pn, 0, none⟩ = some (.int .i64 nodes)) :
    Calls Tryz.prog 164 #[.int .u64 a, .int .u64 t, .pointer (some ⟨pb, 0, none⟩), .pointer (some ⟨pn, 0, none⟩)] w fun e w' => e = .returned (.int .u64 (untilS base nodes a t)) ∧ Below w.heap.size w w' := by
  have c0 := fun w => Re.wait_any base nodes t 3 HB hn (by omega) w
  have hW : Hid (Re.waitS (Re.cleanS base 0 Re.K1000) (Re.bitsS nodes) t 3 < 2 ^ 64) := by
    have hK : Re.K1000 < Re.infR := by decide
    have hb : Re.cleanS base 0 Re.K1000 ≤ Re.K1000 := Re.clean_pos HB.out (Nat.le_of_lt hK)
    have hk := (Re.bits_range nodes hn.2).2
    have h1 := (Re.wait_held (t := t) (m := 3) hb hk).2
    have h2 := (Re.great_lt hb hk).2
    have h3 : Re.infR < 2 ^ 64 := by decide
    exact Nat.lt_trans (Nat.lt_of_le_of_lt h1 h2) h3
  have c1 := fun w => Re.ticks_any _ w hW
  unfold untilS tkS
  generalize Re.waitS (Re.cleanS base 0 Re.K1000) (Re.bitsS nodes) t 3 = W at *
  have hk0 : (0 : Int) ≤ (Re.ticksS W : Int) := Int.natCast_nonneg _
  have hk1 : (Re.ticksS W : Int) ≤ 18446744073709551615 := by
    have : Re.ticksS W ≤ 1099511627776 := by
      unfold Re.ticksS
      split
      · omega
      · split
        · omega
        · split
          · omega
          · rename_i h
            refine Re.cei_K40 ?_
            rcases Nat.lt_or_ge W Re.S with hs | hs
            · have hr : Re.key W = W := by
                unfold Re.key Re.ng Re.rung
                rw [Nat.div_eq_of_lt hs, Nat.mod_eq_of_lt hs]
                simp
              omega
            · have := Re.pos_word hW.out (by omega)
              omega
    omega
  generalize (Re.ticksS W : Int) = k at *
  unfold laterS
  have hm0 : (0 : Int) ≤ 18446744073709551615 - a := by omega
  have hm1 : (18446744073709551615 : Int) - a ≤ 18446744073709551615 := by omega
  by_cases hlt : k ≤ 18446744073709551615 - a
  · have er : a + min k (18446744073709551615 - a) = a + k := by omega
    rw [er]
    go_enter Tryz.func164, Tryz.ntmps164
    go_wp2_with fail
    refine (c0 _).mono ?_
    rintro e w1 ⟨rfl, hb⟩
    go_wp2_with fail
    refine (c1 _).mono ?_
    rintro e w2 ⟨rfl, rfl⟩
    go_wp2_with fail
    all_goals (go_ret; exact ⟨by simp <;> omega, hb⟩)
  · have er : a + min k (18446744073709551615 - a) = 18446744073709551615 := by omega
    rw [er]
    go_enter Tryz.func164, Tryz.ntmps164
    go_wp2_with fail
    refine (c0 _).mono ?_
    rintro e w1 ⟨rfl, hb⟩
    go_wp2_with fail
    refine (c1 _).mono ?_
    rintro e w2 ⟨rfl, rfl⟩
    go_wp2_with fail
    all_goals (go_ret; exact ⟨by simp <;> omega, hb⟩)
set_option maxHeartbeats 1000000 in
theorem later_any (a k : Int) (a0 : 0 ≤ a) (a1 : a ≤ 18446744073709551615) (k0 : 0 ≤ k) (k1 : k ≤ 18446744073709551615) (w : World) :
    Calls Tryz.prog 139 #[.int .u64 a, .int .u64 k] w fun e w' => e = .returned (.int .u64 (laterS a k)) ∧ w' = w := by
  unfold laterS
  by_cases hlt : k ≤ 18446744073709551615 - a
  · have e : min k (18446744073709551615 - a) = k := by omega
    rw [e]
    go_enter Tryz.func139, Tryz.ntmps139
    go_wp2_with fail
    go_ret
    exact ⟨rfl, rfl⟩
  · have e : a + min k (18446744073709551615 - a) = 18446744073709551615 := by omega
    rw [e]
    go_enter Tryz.func139, Tryz.ntmps139
    go_wp2_with fail
    go_ret
    exact ⟨rfl, rfl⟩
end Go.Proofs.YtpoofjnfaijjjaaGreatDoor.Do
