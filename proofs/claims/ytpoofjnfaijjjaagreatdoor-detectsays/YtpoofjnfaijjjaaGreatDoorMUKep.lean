/-
  A queue: a map by nodes, behind a pointer. A queue behind a pointer; keep.
-/
import Derived.Test.YtpoofjnfaijjjaaGreatDoorMURwi
import Derived.Maps.RangeWalk
import Derived.Maps.OwnSet
import Derived.Maps.OwnOps
import Derived.Laws.IdiomRangeMap
import Derived.Test.YtpoofjnfaijjjaaGreatDoorMHol
namespace Go.Proofs.YtpoofjnfaijjjaaGreatDoor.Ru
open Go.RowKit Go.Maps Go.Proofs.YtpoofjnfaijjjaaGreatDoor.Ro

theorem law3 : Keyed Tryz.prog 3 := int_keyed Tryz.underlying3
def dat (x : Itm) : DataW Unit := .agg [.lit (.int .i64 x.1), .lit (.int .u64 x.2.1), .lit (.int .i64 x.2.2.1), .lit (.int .i64 x.2.2.2)]
theorem dat_inj {x y : Itm} (h : dat x = dat y) : x = y := by
  obtain ⟨a, b, c, d⟩ := x
  obtain ⟨a', b', c', d'⟩ := y
  simp [dat] at h
  simp [h]
/-- How a rumor reads that lies in a map. -/
def itmElem (v : Value) : Option (DataW Unit × List MemPlace) :=
  match v with
  | .agg a => match a.toList with
    | [.int .i64 n, .int .u64 i, .int .i64 s, .int .i64 t] => some (dat (n, i, s, t), [])
    | _ => none
  | _ => none
theorem itmElem_mk (x : Itm) : itmElem (itmV x) = some (dat x, []) := rfl
theorem itmElem_inv {v : Value} {z : DataW Unit × List MemPlace} (h : itmElem v = some z) : ∃ x, v = itmV x ∧ z = (dat x, []) := by
  unfold itmElem at h
  split at h
  · rename_i a
    split at h
    · rename_i n i s t e
      refine ⟨(n, i, s, t), ?_, by simpa using h.symm⟩
      obtain ⟨l⟩ := a
      simp at e
      subst e
      rfl
    · cases h
  · cases h

/-- The map reads as the rumors L. -/
structure Mp (D : DataW Unit) (L : List Itm) : Prop where
  is : ∀ x ∈ L, ∀ z, D.atKey (.int .i64 x.1) z = dat x
  has : ∀ k, Maps.has D (.int .i64 k) = true → ∃ x ∈ L, x.1 = k
  size : Maps.size D = L.length
theorem Mp.hit {D : DataW Unit} {L : List Itm} (h : Mp D L) {x : Itm} (hx : x ∈ L) : Maps.has D (.int .i64 x.1) = true := has_true_of_atKey (h.is x hx)
theorem Mp.miss {D : DataW Unit} {L : List Itm} (h : Mp D L) {k : Int} (hx : ∀ x ∈ L, x.1 ≠ k) : Maps.has D (.int .i64 k) = false := by
  cases e : Maps.has D (.int .i64 k)
  · rfl
  · obtain ⟨x, h1, h2⟩ := h.has k e
    exact absurd h2 (hx x h1)
theorem lit_ne {a b : Int} (h : a ≠ b) : (Lit.int .i64 a) ≠ .int .i64 b := fun e => h (by cases e; rfl)
theorem Mp.put {D : DataW Unit} {L : List Itm} (h : Mp D L) (hL : Qi L) (hD : Tidy D) (x : Itm) : Mp (D.put (.int .i64 x.1) (dat x)) (keepQ L x) := by
  refine ⟨fun y hy z => ?_, fun k hk => ?_, ?_⟩
  · rcases (insQ_mem _ _ _).1 hy with rfl | hy
    · exact atKey_put_same hD.isMap (show WideAt.IsKeyLit (.int .i64 y.1) from trivial) _ _
    · obtain ⟨h1, h2⟩ := (lessQ_mem _ _ _).1 hy
      rw [atKey_put_other (lit_ne h2)]
      exact h.is y h1 z
  · by_cases e : k = x.1
    · exact ⟨x, (insQ_mem _ _ _).2 (Or.inl rfl), e.symm⟩
    · rw [has_put_other (lit_ne e)] at hk
      obtain ⟨y, h1, h2⟩ := h.has k hk
      exact ⟨y, (insQ_mem _ _ _).2 (Or.inr ((lessQ_mem _ _ _).2 ⟨h1, by rw [h2]; exact e⟩)), h2⟩
  · rw [size_put hD, h.size]
    by_cases e : ∃ y ∈ L, y.1 = x.1
    · obtain ⟨y, h1, h2⟩ := e
      rw [keepQ_length_same hL x ⟨y, h1, h2⟩, ← h2, h.hit h1]
      rfl
    · have e' : ∀ y ∈ L, y.1 ≠ x.1 := fun y hy h => e ⟨y, hy, h⟩
      rw [h.miss e']
      unfold keepQ
      rw [insQ_length, lessQ_none e']
      rfl
theorem Mp.del {D : DataW Unit} {L : List Itm} (h : Mp D L) (hL : Qi L) (hD : Tidy D) (n : Int) : Mp (D.del (.int .i64 n)) (lessQ L n) := by
  refine ⟨fun y hy z => ?_, fun k hk => ?_, ?_⟩
  · obtain ⟨h1, h2⟩ := (lessQ_mem _ _ _).1 hy
    rw [atKey_del_other (lit_ne h2)]
    exact h.is y h1 z
  · by_cases e : k = n
    · subst e
      rw [has_del_same] at hk
      cases hk
    · rw [has_del_other (lit_ne e)] at hk
      obtain ⟨y, h1, h2⟩ := h.has k hk
      exact ⟨y, (lessQ_mem _ _ _).2 ⟨h1, by rw [h2]; exact e⟩, h2⟩
  · have hs := size_del (k := .int .i64 n) hD
    rw [h.size] at hs
    by_cases e : ∃ y ∈ L, y.1 = n
    · obtain ⟨y, h1, rfl⟩ := e
      rw [h.hit h1] at hs
      have := lessQ_length hL h1
      simp at hs
      omega
    · have e' : ∀ y ∈ L, y.1 ≠ n := fun y hy h => e ⟨y, hy, h⟩
      rw [h.miss e'] at hs
      rw [lessQ_none e']
      simpa using hs
theorem Mp.empty : Mp (.map []) [] := ⟨(fun _ h => by cases h), (fun _ h => by rw [has_eq] at h; simp at h), rfl⟩

/-- At most as many entries as it has. -/
theorem ownsMap_tight {P : Program} {k : TypeId} {R : Value → Option (DataW Unit × List MemPlace)} {w : World} {b n m : Nat} {D : DataW Unit} (h : w.ownsMap P k R b n D) (hm : Maps.size D ≤ m) : w.ownsMap P k R b m D := by
  obtain ⟨es, clock, hb, F, hs, hD⟩ := h
  refine ⟨es, clock, hb, F, ?_, hD⟩
  rw [hD] at hm
  simpa [Maps.size, length_sorted] using hm

/-- Block b is a map of rumors. -/
def Mo (b : Nat) (L : List Itm) (w : World) : Prop := ∃ D, w.ownsMap Tryz.prog 3 itmElem b 40 D ∧ Mp D L
theorem Mo.keep {b : Nat} {L : List Itm} {w w' : World} (h : Mo b L w) (e : w'.heap[b]? = w.heap[b]?) : Mo b L w' := by
  obtain ⟨D, ⟨es, clock, hb, r⟩, hp⟩ := h
  exact ⟨D, ⟨es, clock, e.trans hb, r⟩, hp⟩
theorem Mo.lt {b : Nat} {L : List Itm} {w : World} (h : Mo b L w) : b < w.heap.size := by
  obtain ⟨D, h, _⟩ := h
  exact h.lt
theorem Mo.below {b : Nat} {L : List Itm} {w w' : World} (h : Mo b L w) (k : Below w.heap.size w w') : Mo b L w' := h.keep (k.block b h.lt)
theorem Mo.made (w : World) : Mo w.heap.size [] (w.alloc (.map #[] 0)) := ⟨_, (World.ownsMap_made w _ _ _).mono (Nat.zero_le _), Mp.empty⟩

theorem wf_node {x : Int} (h0 : 0 ≤ x) (h1 : x < 64) : (Lit.int .i64 x).wf = true := WalkArith.wf_i64 (by omega)
/-- 'm[x.Node] = x'. -/
theorem Mo.put {b : Nat} {L : List Itm} {w : World} (h : Mo b L w) (hL : Qi L) {x : Itm} (hx : ItmOk x) (hl : (keepQ L x).length ≤ 40) :
    ∃ w', (Instr.mapUpdate 85 (.map (some b)) (.int .i64 x.1) (itmV x)).run Tryz.prog w = .ok () w' ∧ Mo b (keepQ L x) w' ∧ w.grownBy w' (some b) := by
  obtain ⟨D, ho, hp⟩ := h
  obtain ⟨w', hr, h1, h2⟩ := ho.update law3 Tryz.underlying85 (by unfold maxLen; omega) (keyOf_int_mk Tryz.underlying3 (wf_node hx.n0 hx.n1)) (itmElem_mk x)
  have hp' := hp.put hL (ho.tidy law3) x
  exact ⟨w', hr, ⟨_, ownsMap_tight h1 (by rw [hp'.size]; exact hl), hp'⟩, h2⟩
/-- 'delete(m, n)'. -/
theorem Mo.del {b : Nat} {L : List Itm} {w : World} (h : Mo b L w) (hL : Qi L) {n : Int} (h0 : 0 ≤ n) (h1 : n < 64) (ty : TypeId) :
    ∃ w', (Builtin.delete_ #[85, 3] ty #[.map (some b), .int .i64 n]).run Tryz.prog w = .ok (.tuple #[]) w' ∧ Mo b (lessQ L n) w' ∧ w.grownBy w' (some b) := by
  obtain ⟨D, ho, hp⟩ := h
  obtain ⟨w', hr, k1, k2⟩ := ho.drop law3 Tryz.underlying85 (keyOf_int_mk Tryz.underlying3 (wf_node h0 h1)) ty
  exact ⟨w', hr, ⟨_, k1, hp.del hL (ho.tidy law3) n⟩, k2.grown⟩

theorem zeroI (w : World) : (zeroValue 145).run Tryz.prog w = .ok (itmV (0, 0, 0, 0)) w := by kernel_rfl
/-- Is there a rumor of this node? -/
def hasQ (L : List Itm) (n : Int) : Bool := L.any (fun x => x.1 == n)
def getQ (L : List Itm) (n : Int) : Itm := (L.find? (fun x => x.1 == n)).getD (0, 0, 0, 0)
theorem hasQ_true {L : List Itm} {n : Int} (h : hasQ L n = true) : getQ L n ∈ L ∧ (getQ L n).1 = n := by
  unfold hasQ at h
  unfold getQ
  cases e : L.find? (fun x => x.1 == n)
  case none =>
    rw [List.find?_eq_none] at e
    obtain ⟨x, h1, h2⟩ := List.any_eq_true.1 h
    exact absurd h2 (e x h1)
  case some y => exact ⟨List.mem_of_find?_eq_some e, by simpa using List.find?_some e⟩
theorem hasQ_false {L : List Itm} {n : Int} (h : hasQ L n = false) : (∀ x ∈ L, x.1 ≠ n) ∧ getQ L n = (0, 0, 0, 0) := by
  have h1 : ∀ x ∈ L, x.1 ≠ n := fun x hx e => by
    have : hasQ L n = true := List.any_eq_true.2 ⟨x, hx, by simpa using e⟩
    rw [h] at this; cases this
  refine ⟨h1, ?_⟩
  unfold getQ
  rw [List.find?_eq_none.2 fun x hx => by simpa using h1 x hx]
  rfl
/-- 'v, ok := m[n]'. -/
theorem Mo.look {b : Nat} {L : List Itm} {w : World} (h : Mo b L w) {n : Int} (h0 : 0 ≤ n) (h1 : n < 64) :
    (Instr.lookup 85 (.map (some b)) (.int .i64 n) true).run Tryz.prog w = .ok (.tuple #[itmV (getQ L n), .bool (hasQ L n)]) w := by
  obtain ⟨D, ho, hp⟩ := h
  obtain ⟨v, ps, hr, hv⟩ := ho.look_ok law3 Tryz.underlying85 (zeroI _) (itmElem_mk (0, 0, 0, 0)) (keyOf_int_mk Tryz.underlying3 (wf_node h0 h1))
  rw [hr]
  obtain ⟨x, rfl, e⟩ := itmElem_inv hv
  have e' : D.atKey (.int .i64 n) (dat (0, 0, 0, 0)) = dat x := by simpa using congrArg Prod.fst e
  cases hh : hasQ L n
  case false =>
    obtain ⟨k1, k2⟩ := hasQ_false hh
    have hm := hp.miss k1
    rw [atKey_of_not_has hm] at e'
    rw [hm, k2, dat_inj e']
  case true =>
    obtain ⟨k1, k2⟩ := hasQ_true hh
    have hm := hp.hit k1
    rw [k2] at hm
    have := hp.is _ k1 (dat (0, 0, 0, 0))
    rw [k2, e'] at this
    rw [hm, dat_inj this]
end Go.Proofs.YtpoofjnfaijjjaaGreatDoor.Ru
namespace Go.Proofs.YtpoofjnfaijjjaaGreatDoor.Ru
open Go.RowKit Go.Maps Go.Proofs.YtpoofjnfaijjjaaGreatDoor.Ro
variable {X : Value → Array Value}

theorem Below.drew' {B : Nat} {a w : World} (h : Below B a w) : Below B a w.drew := ⟨h.os, h.tape, h.output, h.size, fun i hi => h.block i hi⟩
theorem below_alloc (w : World) (o : Obj) : Below w.heap.size w (w.alloc o) := (Below.refl _ _).alloc (Nat.le_refl _) _

/-- What a call changes: block p, and block m, if that is one; the map is then where it was, or in a new block. -/
structure Mv (p : Nat) (m m' : Option Nat) (w w' : World) : Prop where
  os : w'.os = w.os
  tape : w'.tape = w.tape
  output : w'.output = w.output
  size : w.heap.size ≤ w'.heap.size
  block : ∀ k, k < w.heap.size → k ≠ p → some k ≠ m → w'.heap[k]? = w.heap[k]?
  at_ : m' = m ∨ ∀ b, m' = some b → w.heap.size ≤ b
section
variable {p : Nat} {m m1 m2 : Option Nat} {w w1 w2 : World}
theorem Mv.refl (p : Nat) (m : Option Nat) (w : World) : Mv p m m w w := ⟨rfl, rfl, rfl, Nat.le_refl _, fun _ _ _ _ => rfl, Or.inl rfl⟩
theorem Mv.of (h : Below w.heap.size w w1) : Mv p m m w w1 := ⟨h.os, h.tape, h.output, h.size, fun k hk _ _ => h.block k hk, Or.inl rfl⟩
theorem Mv.trans (h : Mv p m m1 w w1) (k : Mv p m1 m2 w1 w2) : Mv p m m2 w w2 := by
  refine ⟨k.os.trans h.os, k.tape.trans h.tape, k.output.trans h.output, Nat.le_trans h.size k.size, fun i hi hp hm => ?_, ?_⟩
  · have hi1 : i < w1.heap.size := Nat.lt_of_lt_of_le hi h.size
    rw [k.block i hi1 hp ?_, h.block i hi hp hm]
    rcases h.at_ with e | e
    · rw [e]; exact hm
    · intro e'
      have := e i e'.symm
      omega
  · rcases k.at_ with e | e
    · rcases h.at_ with e' | e'
      · exact Or.inl (e.trans e')
      · exact Or.inr fun b hb => e' b (by rw [← e]; exact hb)
    · exact Or.inr fun b hb => Nat.le_trans h.size (e b hb)
theorem Mv.to {B : Nat} (h : Mv p m m1 w w1) (hB : B ≤ w.heap.size) (hp : B ≤ p) (hm : ∀ b, m = some b → B ≤ b) : Below B w w1 :=
  ⟨h.os, h.tape, h.output, h.size, fun k hk => h.block k (by omega) (by omega) (fun e => by have := hm k e.symm; omega)⟩
theorem Mv.from_ {B : Nat} (h : Mv p m m1 w w1) (hB : B ≤ w.heap.size) (hm : ∀ b, m = some b → B ≤ b) : ∀ b, m1 = some b → B ≤ b := by
  intro b hb
  rcases h.at_ with e | e
  · exact hm b (by rw [← e]; exact hb)
  · exact Nat.le_trans hB (e b hb)
end

/-- Block p is a queue, whose map is block m (none, where there is no map); it has the rumors L. -/
structure Qu (X : Value → Array Value) (p : Nat) (m : Option Nat) (L : List Itm) (w : World) : Prop where
  hole : Hole 2 X
  qi : Qi L
  heap : w.heap[p]? = some (.cells (X (.map m)) 94 (0, 0))
  none_ : m = none → L = []
  some_ : ∀ b, m = some b → Mo b L w
section
variable {p : Nat} {m : Option Nat} {L : List Itm} {w w' : World}
theorem Qu.c (h : Qu X p m L w) : w.cell? ⟨p, 2, none⟩ = some (.map m) := h.hole.cell h.heap
theorem Qu.free (h : Qu X p m L w) (j : Nat) : w.frozen? ⟨p, j, none⟩ = false := by simp [World.frozen?, h.heap]
theorem Qu.lt (h : Qu X p m L w) : p < w.heap.size := (Array.getElem?_eq_some_iff.1 h.heap).1
theorem Qu.ne (h : Qu X p m L w) : ∀ b, m = some b → b ≠ p := by
  intro b hb e
  subst e
  obtain ⟨D, ⟨es, clock, h1, _⟩, _⟩ := h.some_ b hb
  rw [h.heap] at h1
  cases h1
theorem Qu.mlt (h : Qu X p m L w) : ∀ b, m = some b → b < w.heap.size := fun b hb => (h.some_ b hb).lt
theorem Qu.keep (h : Qu X p m L w) (e : w'.heap[p]? = w.heap[p]?) (e' : ∀ b, m = some b → w'.heap[b]? = w.heap[b]?) : Qu X p m L w' := ⟨h.hole, h.qi, e.trans h.heap, h.none_, fun b hb => (h.some_ b hb).keep (e' b hb)⟩
theorem Qu.below (h : Qu X p m L w) (k : Below w.heap.size w w') : Qu X p m L w' := h.keep (k.block p h.lt) fun b hb => k.block b (h.mlt b hb)
end

set_option maxHeartbeats 1000000 in
theorem keep_some (p b : Nat) (L : List Itm) (x : Itm) (hx : ItmOk x) (hl : (keepQ L x).length ≤ 40) (w : World) (hQ : Qu X p (some b) L w) :
    Calls Tryz.prog 70 #[.pointer (some ⟨p, 2, none⟩), itmV x] w fun e w' => e = .returned (.tuple #[]) ∧ Qu X p (some b) (keepQ L x) w' ∧ Mv p (some b) (some b) w w' := by
  have ba := below_alloc w (.cells #[.int .i64 x.1, .int .u64 x.2.1, .int .i64 x.2.2.1, .int .i64 x.2.2.2] 145)
  have hQ1 := hQ.below ba
  have hM := hQ1.some_ b rfl
  have hc := hQ1.c
  have hb := (Bi.new 145 x.1 x.2.1 x.2.2.1 x.2.2.2 w)
  have hM2 : Mo b L (w.alloc (.cells #[.int .i64 x.1, .int .u64 x.2.1, .int .i64 x.2.2.1, .int .i64 x.2.2.2] 145)).drew := hM
  obtain ⟨w4, hrun, h4, hg⟩ := hM2.put hQ.qi hx hl
  unfold itmV at *
  have qT : ∀ (w : World) (r : Option Nat), (binOp .eql 85 (.map r) (.map none)).run Tryz.prog w = .ok (.bool r.isNone) w := fun w r => run_eql_map_nil w _ _ _ r Tryz.underlying85
  have hmv : Mv p (some b) (some b) w w4 := ⟨hg.os.trans ba.os, hg.tape.trans ba.tape, hg.output.trans ba.output, Nat.le_trans ba.size hg.size, fun k hk _ hm => (hg.block k (Nat.lt_of_lt_of_le hk ba.size) hm).trans (ba.block k hk), Or.inl rfl⟩
  have hne := hQ.ne b rfl
  have hQ4 : Qu X p (some b) (keepQ L x) w4 := ⟨hQ.hole, hQ.qi.keep hx, (hg.block p hQ1.lt (by simpa using Ne.symm hne)).trans hQ1.heap, (fun e => by cases e), (fun b' e => by cases e; exact h4)⟩
  clear hM hM2 hg h4
  go_enter Tryz.func70, Tryz.ntmps70
  go_wp2_with fail
  go_region
  go_wp2_with fail
  go_end0
  exact ⟨rfl, hQ4, hmv⟩

set_option maxHeartbeats 1000000 in
theorem keep_none (p : Nat) (x : Itm) (hx : ItmOk x) (w : World) (hQ : Qu X p none [] w) :
    Calls Tryz.prog 70 #[.pointer (some ⟨p, 2, none⟩), itmV x] w fun e w' => e = .returned (.tuple #[]) ∧ ∃ b, Qu X p (some b) (keepQ [] x) w' ∧ Mv p none (some b) w w' := by
  have ba := below_alloc w (.cells #[.int .i64 x.1, .int .u64 x.2.1, .int .i64 x.2.2.1, .int .i64 x.2.2.2] 145)
  have hQ1 := hQ.below ba
  have hb := (Bi.new 145 x.1 x.2.1 x.2.2.1 x.2.2.2 w)
  have qT : ∀ (w : World) (r : Option Nat), (binOp .eql 85 (.map r) (.map none)).run Tryz.prog w = .ok (.bool r.isNone) w := fun w r => run_eql_map_nil w _ _ _ r Tryz.underlying85
  obtain ⟨V1, HV1⟩ : ∃ V1, Hid (V1 = w.alloc (.cells #[.int .i64 x.1, .int .u64 x.2.1, .int .i64 x.2.2.1, .int .i64 x.2.2.2] 145)) := ⟨_, rfl⟩
  rw [← HV1.out] at ba hQ1 hb
  have hmm := @run_makeMap Tryz.prog 85 V1
  have bb := below_alloc V1 (.map #[] 0)
  have hM := Mo.made V1
  obtain ⟨V2, HV2⟩ : ∃ V2, Hid (V2 = V1.alloc (.map #[] 0)) := ⟨_, rfl⟩
  rw [← HV2.out] at hmm bb hM
  have hQ2 := hQ1.below bb
  have hb2 := hb.below bb
  have hc := hQ1.c
  have hc2 := hQ2.c
  have hf2 := hQ2.free 2
  have hz1 : w.heap.size ≤ V1.heap.size := ba.size
  have hlt := hQ.lt
  generalize V1.heap.size = b at *
  have hpb : p ≠ b := by omega
  obtain ⟨V3, HV3⟩ : ∃ V3, Hid (V3 = V2.setCell ⟨p, 2, none⟩ (.map (some b))) := ⟨_, rfl⟩
  have h3o : ∀ k, k ≠ p → V3.heap[k]? = V2.heap[k]? := fun k hk => by rw [HV3.out]; exact Below.heap_setCell _ _ _ _ (by simpa using hk)
  have h3p : V3.heap[p]? = some (.cells (X (.map (some b))) 94 (0, 0)) := by rw [HV3.out]; exact hQ2.hole.put hQ2.heap _
  have hM3 := hM.keep (h3o b (Ne.symm hpb))
  have hb3 := hb2.keep (h3o w.heap.size (by omega))
  obtain ⟨w4, hrun, h4, hg⟩ := Mo.put (w := V3.drew) hM3 Qi.nil hx (Nat.le_trans (keepQ_length (L := []) x) (by decide))
  have x0 := hb3.c0
  have x1 := hb3.c1
  have x2 := hb3.c2
  have x3 := hb3.c3
  have xp : V3.cell? ⟨p, 2, none⟩ = some (.map (some b)) := hQ2.hole.cell h3p
  have hQ4 : Qu X p (some b) (keepQ [] x) w4 := ⟨hQ.hole, Qi.nil.keep hx, (hg.block p (Array.getElem?_eq_some_iff.1 h3p).1 (by simpa using hpb)).trans h3p, (fun e => by cases e), (fun b' e => by cases e; exact h4)⟩
  have hz3 : V3.heap.size = V2.heap.size := by rw [HV3.out]; simp [World.setCell]
  have hmv : Mv p none (some b) w w4 := by
    refine ⟨hg.os.trans ?_, hg.tape.trans ?_, hg.output.trans ?_, ?_, fun k hk hp _ => ?_, Or.inr fun b' e => by cases e; exact hz1⟩
    · rw [HV3.out]; exact bb.os.trans ba.os
    · rw [HV3.out]; exact bb.tape.trans ba.tape
    · rw [HV3.out]; exact bb.output.trans ba.output
    · have a1 := hg.size
      have a2 := bb.size
      have a3 : V3.drew.heap.size = V3.heap.size := rfl
      have a4 := ba.size
      omega
    · have a2 := bb.size
      have a3 : V3.drew.heap.size = V3.heap.size := rfl
      have a4 := ba.size
      rw [hg.block k (by omega) (by simp; omega)]
      exact (h3o k hp).trans ((bb.block k (by omega)).trans (ba.block k hk))
  clear hg h4 hM3 hM hb hb2 hb3 h3o h3p hz3 ba bb hQ1 hQ2 hQ
  unfold itmV at *
  go_enter Tryz.func70, Tryz.ntmps70
  go_upto_region 1 with fail
  rw [← HV1.out]
  generalize w.heap.size = g at *
  go_wp2_with fail
  rw [← HV3.out]
  go_region
  go_wp2_with fail
  go_end0
  exact ⟨rfl, b, hQ4, hmv⟩

theorem keep_any (p : Nat) (m : Option Nat) (L : List Itm) (x : Itm) (hx : ItmOk x) (hl : (keepQ L x).length ≤ 40) (w : World) (hQ : Qu X p m L w) :
    Calls Tryz.prog 70 #[.pointer (some ⟨p, 2, none⟩), itmV x] w fun e w' => e = .returned (.tuple #[]) ∧ ∃ m', Qu X p m' (keepQ L x) w' ∧ Mv p m m' w w' := by
  cases m with
  | none =>
    obtain rfl := hQ.none_ rfl
    exact (keep_none p x hx w hQ).mono fun e w' ⟨h1, b, h2, h3⟩ => ⟨h1, _, h2, h3⟩
  | some b => exact (keep_some p b L x hx hl w hQ).mono fun e w' ⟨h1, h2, h3⟩ => ⟨h1, _, h2, h3⟩
end Go.Proofs.YtpoofjnfaijjjaaGreatDoor.Ru
