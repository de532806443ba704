/-
  A detector in memory, with the lots that are handed to it; what a call changes of it. What a step of one part makes of a detector.
-/
import Derived.Test.YtpoofjnfaijjjaaGreatDoorMDet
import Derived.Test.YtpoofjnfaijjjaaGreatDoorMClr
import Derived.Test.YtpoofjnfaijjjaaGreatDoorMUTak
import Derived.Test.YtpoofjnfaijjjaaGreatDoorMDDre
import Derived.Test.YtpoofjnfaijjjaaGreatDoorMNRmt
namespace Go.Proofs.YtpoofjnfaijjjaaGreatDoor
open Go.RowKit Go.Proofs.YtpoofjnfaijjjaaGreatDoor.Ro

/-! ## As plain data -/
abbrev U64 (x : Int) : Prop := 0 ≤ x ∧ x ≤ 18446744073709551615
abbrev Nd (x : Int) : Prop := 0 ≤ x ∧ x < 64
def encW : Enc Wch := ⟨4, fun x => [.int .i64 x.n, .int .u64 x.q, .int .u64 x.a, .bool x.h], fun _ => rfl, fun x v hv => by
  simp only [List.mem_cons, List.not_mem_nil, or_false] at hv
  rcases hv with rfl | rfl | rfl | rfl <;> rfl, by decide⟩
def encE : Enc Ern := ⟨5, fun x => [.int .i64 x.n, .int .u64 x.q, .int .u64 x.a, .int .i64 x.f, .int .u64 x.t], fun _ => rfl, fun x v hv => by
  simp only [List.mem_cons, List.not_mem_nil, or_false] at hv
  rcases hv with rfl | rfl | rfl | rfl | rfl <;> rfl, by decide⟩
structure WchOk (x : Wch) : Prop where
  n : Nd x.n
  q : U64 x.q
  a : U64 x.a
structure ErnOk (x : Ern) : Prop where
  n : Nd x.n
  q : U64 x.q
  a : U64 x.a
  f : Nd x.f
  t : U64 x.t
/-- What holds of each detector. -/
structure Det.Ok (k : Nat) (d : Det) : Prop where
  k64 : k < 64
  inv : Inv k d.f
  qi : Ru.Qi d.Q
  ql : d.Q.length ≤ 32
  di : Do.Di d.D
  s1 : d.s.Nodup
  s2 : ∀ x ∈ d.s, Nd x
  W : ∀ x ∈ d.W, WchOk x
  E : ∀ x ∈ d.E, ErnOk x
  el : d.E.length ≤ 32
  la : U64 d.la
  no : U64 d.no
theorem u64w_ok (x : Int) : U64 (u64w x) := by
  have := IntKind.wrap_u64 x
  unfold u64w U64
  rw [this]
  omega
theorem nodup_sub : ∀ (l m : List Int), l.Nodup → (∀ x ∈ l, x ∈ m) → l.length ≤ m.length
  | [], _, _, _ => Nat.zero_le _
  | x :: r, m, h, hs => by
    have hx := hs x (by simp)
    have h2 := List.nodup_cons.1 h
    have ih := nodup_sub r (m.erase x) h2.2 fun y hy => (List.mem_erase_of_ne (fun (e : y = x) => h2.1 (by rw [← e]; exact hy))).2 (hs y (by simp [hy]))
    rw [List.length_erase_of_mem hx] at ih
    have := List.length_pos_of_mem hx
    simp
    omega
theorem nodup_nodes {l : List Int} (h : l.Nodup) (hr : ∀ x ∈ l, Nd x) : l.length ≤ 64 := by
  have hs : ∀ x ∈ l, x ∈ (List.range 64).map (fun (i : Nat) => (i : Int)) := fun x hx => by
    obtain ⟨h0, h1⟩ := hr x hx
    rw [List.mem_map]
    exact ⟨x.toNat, by rw [List.mem_range]; omega, by omega⟩
  have := nodup_sub l _ h hs
  simpa using this
theorem Det.Ok.sl {k : Nat} {d : Det} (h : d.Ok k) : d.s.length ≤ 64 := nodup_nodes h.s1 h.s2

/-! ## In memory -/

/-- Where its parts lie. -/
structure Bl where
  q : Nat
  r : Nat
  mq : Option Nat
  md : Option Nat
  v : Value
  vw : Value
  ve : Value
def Bl.cells (b : Bl) (d : Det) : Array Value := #[.pointer (some ⟨b.r, 0, none⟩), b.v, .map b.mq, .map b.md, b.vw, b.ve, .int .u64 d.la, .int .u64 d.no, .bool d.le]
def Bl.own (b : Bl) : Nat → Option Nat
  | 0 => some b.q
  | 1 => some b.r
  | 2 => b.mq
  | 3 => b.md
  | 4 => b.v.ownBlock
  | 5 => b.vw.ownBlock
  | 6 => b.ve.ownBlock
  | _ => none
/-- Each part has blocks of its own, above the table and below n. -/
structure Sep (o : Nat → Option Nat) (n : Nat) : Prop where
  one : ∀ i j g, o i = some g → o j = some g → i = j
  lt : ∀ i g, o i = some g → 1 < g ∧ g < n
theorem Sep.upd {o o' : Nat → Option Nat} {n n' : Nat} (h : Sep o n) (c : Nat) (h1 : 1 < n) (hn : n ≤ n') (hs : ∀ i, i ≠ c → o' i = o i) (hc : o' c = o c ∨ ∀ g, o' c = some g → n ≤ g ∧ g < n') : Sep o' n' := by
  have hlt : ∀ i g, o' i = some g → 1 < g ∧ g < n' := fun i g hg => by
    by_cases e : i = c
    · subst e
      rcases hc with e | e
      · rw [e] at hg; have := h.lt _ _ hg; omega
      · have := e g hg; omega
    · rw [hs i e] at hg; have := h.lt _ _ hg; omega
  refine ⟨fun i j g hi hj => ?_, hlt⟩
  rcases hc with e | e
  · have hs' : ∀ i, o' i = o i := fun i => by
      by_cases ei : i = c
      · subst ei; exact e
      · exact hs i ei
    rw [hs'] at hi hj
    exact h.one i j g hi hj
  · by_cases ei : i = c
    · by_cases ej : j = c
      · omega
      · subst ei
        rw [hs j ej] at hj
        have := h.lt _ _ hj
        have := e g hi
        omega
    · by_cases ej : j = c
      · subst ej
        rw [hs i ei] at hi
        have := h.lt _ _ hi
        have := e g hj
        omega
      · rw [hs i ei] at hi
        rw [hs j ej] at hj
        exact h.one i j g hi hj

/-- A detector of the node k, whose parts lie at b. -/
structure Dt (k : Nat) (b : Bl) (d : Det) (w : World) : Prop where
  ok : d.Ok k
  heap : w.heap[b.q]? = some (.cells (b.cells d) 94 (0, 0))
  roll : Rl b.r k d.f w
  row : Rn.Rd .i64 b.v d.s w
  qn : b.mq = none → d.Q = []
  qm : ∀ g, b.mq = some g → Ru.Mo g d.Q w
  dn : b.md = none → d.D = []
  dm : ∀ g, b.md = some g → Do.Mo g d.D w
  ws : OwE encW 133 0 b.vw d.W w
  es : OwE encE 112 0 b.ve d.E w
  tab : Bnd.Tab w
  sep : Sep b.own w.heap.size
section
variable {k : Nat} {b : Bl} {d : Det} {w w' : World}
theorem Dt.keep (h : Dt k b d w) (hz : w.heap.size ≤ w'.heap.size) (hw : ∀ i g, b.own i = some g → w'.heap[g]? = w.heap[g]?) (h1 : w'.heap[1]? = w.heap[1]?) : Dt k b d w' :=
  ⟨h.ok, (hw 0 _ rfl).trans h.heap, h.roll.keep (hw 1 _ rfl), h.row.keep fun g hg _ => hw 4 g hg, h.qn, fun g hg => (h.qm g hg).keep (hw 2 g hg), h.dn, fun g hg => (h.dm g hg).keep (hw 3 g hg),
    h.ws.keep fun g hg _ => hw 5 g hg, h.es.keep fun g hg _ => hw 6 g hg, h.tab.keep h1, ⟨h.sep.one, fun i g hg => by have := h.sep.lt i g hg; omega⟩⟩
theorem Dt.below (h : Dt k b d w) (hb : Below w.heap.size w w') : Dt k b d w' := h.keep hb.size (fun i g hg => hb.block g (h.sep.lt i g hg).2) (hb.block 1 h.tab.lt)
theorem Dt.drew (h : Dt k b d w) : Dt k b d w.drew := h.keep (Nat.le_refl _) (fun _ _ _ => rfl) rfl
theorem Dt.c0 (h : Dt k b d w) : w.cell? ⟨b.q, 0, none⟩ = some (.pointer (some ⟨b.r, 0, none⟩)) := by simp [World.cell?, h.heap, Bl.cells]
theorem Dt.c1 (h : Dt k b d w) : w.cell? ⟨b.q, 1, none⟩ = some b.v := by simp [World.cell?, h.heap, Bl.cells]
theorem Dt.c2 (h : Dt k b d w) : w.cell? ⟨b.q, 2, none⟩ = some (.map b.mq) := by simp [World.cell?, h.heap, Bl.cells]
theorem Dt.c3 (h : Dt k b d w) : w.cell? ⟨b.q, 3, none⟩ = some (.map b.md) := by simp [World.cell?, h.heap, Bl.cells]
theorem Dt.c4 (h : Dt k b d w) : w.cell? ⟨b.q, 4, none⟩ = some b.vw := by simp [World.cell?, h.heap, Bl.cells]
theorem Dt.c5 (h : Dt k b d w) : w.cell? ⟨b.q, 5, none⟩ = some b.ve := by simp [World.cell?, h.heap, Bl.cells]
theorem Dt.c6 (h : Dt k b d w) : w.cell? ⟨b.q, 6, none⟩ = some (.int .u64 d.la) := by simp [World.cell?, h.heap, Bl.cells]
theorem Dt.c7 (h : Dt k b d w) : w.cell? ⟨b.q, 7, none⟩ = some (.int .u64 d.no) := by simp [World.cell?, h.heap, Bl.cells]
theorem Dt.c8 (h : Dt k b d w) : w.cell? ⟨b.q, 8, none⟩ = some (.bool d.le) := by simp [World.cell?, h.heap, Bl.cells]
theorem Dt.free (h : Dt k b d w) (j : Nat) : w.frozen? ⟨b.q, j, none⟩ = false := free_of h.heap j
theorem Dt.qlt (h : Dt k b d w) : b.q < w.heap.size := (h.sep.lt 0 _ rfl).2
end

/-! ## A step: what it changes -/

/-- From the world w, in which the detector's parts lay at b, to w', in which they lie at b': all else is as it was, but block p. -/
structure Stp (p : Nat) (b : Bl) (w : World) (b' : Bl) (w' : World) : Prop where
  q : b'.q = b.q
  r : b'.r = b.r
  fr : ∀ i g, b'.own i = some g → (∃ j, b.own j = some g) ∨ w.heap.size ≤ g
  os : w'.os = w.os
  tape : w'.tape = w.tape
  output : w'.output = w.output
  size : w.heap.size ≤ w'.heap.size
  block : ∀ g, g < w.heap.size → g ≠ p → (∀ i, b.own i ≠ some g) → w'.heap[g]? = w.heap[g]?
section
variable {p : Nat} {b b1 b2 : Bl} {w w1 w2 : World}
theorem Stp.refl (p : Nat) (b : Bl) (w : World) : Stp p b w b w := ⟨rfl, rfl, fun i _ hg => .inl ⟨i, hg⟩, rfl, rfl, rfl, Nat.le_refl _, fun _ _ _ _ => rfl⟩
theorem Stp.of (h : Below w.heap.size w w1) : Stp p b w b w1 := ⟨rfl, rfl, fun i _ hg => .inl ⟨i, hg⟩, h.os, h.tape, h.output, h.size, fun g hg _ _ => h.block g hg⟩
theorem Stp.trans (h : Stp p b w b1 w1) (k : Stp p b1 w1 b2 w2) : Stp p b w b2 w2 := by
  refine ⟨k.q.trans h.q, k.r.trans h.r, fun i g hg => ?_, k.os.trans h.os, k.tape.trans h.tape, k.output.trans h.output, Nat.le_trans h.size k.size, fun g hg hp hn => ?_⟩
  · rcases k.fr i g hg with ⟨j, hj⟩ | hj
    · exact h.fr j g hj
    · exact .inr (Nat.le_trans h.size hj)
  · rw [k.block g (Nat.lt_of_lt_of_le hg h.size) hp fun i hi => ?_, h.block g hg hp hn]
    rcases h.fr i g hi with ⟨j, hj⟩ | hj
    · exact hn j hj
    · omega
theorem Stp.drew (h : Stp p b w b1 w1) : Stp p b w b1 w1.drew := ⟨h.q, h.r, h.fr, h.os, h.tape, h.output, h.size, h.block⟩
theorem Stp.then (h : Stp p b w b1 w1) (k : Below w1.heap.size w1 w2) : Stp p b w b1 w2 := h.trans (Stp.of k)
end

/-- A detector, and the lots l behind the pointer to block p. -/
structure Sx (k Bp p : Nat) (b : Bl) (d : Det) (l : List Int) (w : World) : Prop where
  dt : Dt k b d w
  lots : Rn.Lt Bp p l w
  lok : Rn.Ok l
  out : ∀ i g, b.own i = some g → g < Bp ∨ p < g
  low : 1 < Bp
section
variable {k Bp p : Nat} {b b' : Bl} {d d' : Det} {l l' : List Int} {w w' : World}
theorem Sx.below (h : Sx k Bp p b d l w) (hb : Below w.heap.size w w') : Sx k Bp p b d l w' := ⟨h.dt.below hb, h.lots.keep fun g _ hg => hb.block g (by have := h.lots.lt; omega), h.lok, h.out, h.low⟩
theorem Sx.drew (h : Sx k Bp p b d l w) : Sx k Bp p b d l w.drew := ⟨h.dt.drew, h.lots.keep fun _ _ _ => rfl, h.lok, h.out, h.low⟩
theorem Sx.np (h : Sx k Bp p b d l w) (i : Nat) : b.own i ≠ some p := fun e => by have := h.out i p e; have := h.lots.le; omega
/-- A block that is made newly is none of its parts. -/
theorem Sx.nn (h : Sx k Bp p b d l w) {g : Nat} (hg : w.heap.size ≤ g) (i : Nat) : b.own i ≠ some g := fun e => by have := h.dt.sep.lt i g e; omega
theorem Sx.pn (h : Sx k Bp p b d l w) {g : Nat} (hg : w.heap.size ≤ g) : g ≠ p := fun e => by have := h.lots.lt; omega
/-- Behind a step that touches no lots. -/
theorem Sx.step (h : Sx k Bp p b d l w) (hd : Dt k b' d' w') (hfr : ∀ i g, b'.own i = some g → (∃ j, b.own j = some g) ∨ w.heap.size ≤ g) (hl : Rn.Lt Bp p l' w') (hok : Rn.Ok l') : Sx k Bp p b' d' l' w' :=
  ⟨hd, hl, hok, fun i g hg => by
    rcases hfr i g hg with ⟨j, hj⟩ | hj
    · exact h.out j g hj
    · have := h.lots.lt; omega, h.low⟩
end
/-- What no step touches. -/
structure Away (p : Nat) (b : Bl) (w : World) (g : Nat) : Prop where
  lt : g < w.heap.size
  p : g ≠ p
  own : ∀ i, b.own i ≠ some g
theorem Stp.keep {p : Nat} {b b' : Bl} {w w' : World} (h : Stp p b w b' w') {g : Nat} (hg : Away p b w g) : w'.heap[g]? = w.heap[g]? := h.block g hg.lt hg.p hg.own
theorem Away.stp {p : Nat} {b b' : Bl} {w w' : World} {g : Nat} (hg : Away p b w g) (h : Stp p b w b' w') : Away p b' w' g :=
  ⟨Nat.lt_of_lt_of_le hg.lt h.size, hg.p, fun i e => by
    rcases h.fr i g e with ⟨j, hj⟩ | hj
    · exact hg.own j hj
    · have := hg.lt; omega⟩
theorem Sx.away {k Bp p : Nat} {b : Bl} {d : Det} {l : List Int} {w w' : World} (h : Sx k Bp p b d l w) {g : Nat} (hg : w.heap.size ≤ g) (hg' : g < w'.heap.size) : Away p b w' g := ⟨hg', h.pn hg, fun i => h.nn hg i⟩
end Go.Proofs.YtpoofjnfaijjjaaGreatDoor
namespace Go.Proofs.YtpoofjnfaijjjaaGreatDoor
open Go.RowKit Go.Proofs.YtpoofjnfaijjjaaGreatDoor.Ro

def Bl.xq (b : Bl) (d : Det) (x : Value) : Array Value := #[.pointer (some ⟨b.r, 0, none⟩), b.v, x, .map b.md, b.vw, b.ve, .int .u64 d.la, .int .u64 d.no, .bool d.le]
def Bl.xd (b : Bl) (d : Det) (x : Value) : Array Value := #[.pointer (some ⟨b.r, 0, none⟩), b.v, .map b.mq, x, b.vw, b.ve, .int .u64 d.la, .int .u64 d.no, .bool d.le]
def Bl.xs (b : Bl) (d : Det) (x : Value) : Array Value := #[.pointer (some ⟨b.r, 0, none⟩), x, .map b.mq, .map b.md, b.vw, b.ve, .int .u64 d.la, .int .u64 d.no, .bool d.le]
theorem hole_q (b : Bl) (d : Det) : Hole 2 (b.xq d) := ⟨fun _ => rfl, fun _ _ => rfl⟩
theorem hole_d (b : Bl) (d : Det) : Hole 3 (b.xd d) := ⟨fun _ => rfl, fun _ _ => rfl⟩
theorem hole_s (b : Bl) (d : Det) : Hole 1 (b.xs d) := ⟨fun _ => rfl, fun _ _ => rfl⟩
section
variable {k Bp p : Nat} {b b' : Bl} {d d' : Det} {l l' : List Int} {w w' : World}
theorem Dt.qu (h : Dt k b d w) : Ru.Qu (b.xq d) b.q b.mq d.Q w := ⟨hole_q b d, h.ok.qi, h.heap, h.qn, h.qm⟩
theorem Dt.du (h : Dt k b d w) : Do.Du (b.xd d) b.q b.md d.D w := ⟨hole_d b d, h.ok.di, h.heap, h.dn, h.dm⟩
/-- Blocks that the row may lie in. -/
def Bl.rows (b : Bl) (w : World) (g : Nat) : Prop := b.v.ownBlock = some g ∨ w.heap.size ≤ g
theorem Dt.rn (h : Dt k b d w) : Rn.Rn 1 (b.xs d) 94 (b.rows w) b.q d.s w :=
  ⟨hole_s b d, ⟨b.v, h.heap, h.row, fun g hg => ⟨.inl hg, (h.sep.lt 4 g hg).2⟩⟩, fun e => by
    rcases e with e | e
    · have := h.sep.one 4 0 b.q e rfl; omega
    · have := h.qlt; omega, h.qlt, fun _ hg => .inr hg⟩
theorem Sx.norow (h : Sx k Bp p b d l w) : ¬ b.rows w p := fun e => by
  rcases e with e | e
  · exact h.np 4 e
  · have := h.lots.lt; omega
theorem Sx.qout (h : Sx k Bp p b d l w) : b.q < Bp ∨ p < b.q := h.out 0 _ rfl
theorem sep_idx {i : Nat} : i = 0 ∨ i = 1 ∨ i = 2 ∨ i = 3 ∨ i = 4 ∨ i = 5 ∨ i = 6 ∨ 7 ≤ i := by omega
theorem own_hi (b : Bl) {i : Nat} (h : 7 ≤ i) : b.own i = none := by
  obtain ⟨j, rfl⟩ : ∃ j, i = j + 7 := ⟨i - 7, by omega⟩
  rfl
/-- Two places that differ in one part. -/
theorem own_but {b b' : Bl} (c : Nat) (h0 : c ≠ 0 → b'.q = b.q) (h1 : c ≠ 1 → b'.r = b.r) (h2 : c ≠ 2 → b'.mq = b.mq) (h3 : c ≠ 3 → b'.md = b.md) (h4 : c ≠ 4 → b'.v = b.v) (h5 : c ≠ 5 → b'.vw = b.vw) (h6 : c ≠ 6 → b'.ve = b.ve) : ∀ i, i ≠ c → b'.own i = b.own i := fun i hi => by
  rcases sep_idx (i := i) with rfl | rfl | rfl | rfl | rfl | rfl | rfl | h
  · exact congrArg some (h0 (Ne.symm hi))
  · exact congrArg some (h1 (Ne.symm hi))
  · exact h2 (Ne.symm hi)
  · exact h3 (Ne.symm hi)
  · exact congrArg Value.ownBlock (h4 (Ne.symm hi))
  · exact congrArg Value.ownBlock (h5 (Ne.symm hi))
  · exact congrArg Value.ownBlock (h6 (Ne.symm hi))
  · rw [own_hi b h, own_hi b' h]
theorem fr_of {c : Nat} (hs : ∀ i, i ≠ c → b'.own i = b.own i) (hc : b'.own c = b.own c ∨ ∀ g, b'.own c = some g → w.heap.size ≤ g) : ∀ i g, b'.own i = some g → (∃ j, b.own j = some g) ∨ w.heap.size ≤ g := fun i g hg => by
  by_cases e : i = c
  · subst e
    rcases hc with e | e
    · exact .inl ⟨_, e ▸ hg⟩
    · exact .inr (e g hg)
  · exact .inl ⟨i, (hs i e) ▸ hg⟩
/-- A step that touches its own parts alone. -/
theorem Sx.touch (h : Sx k Bp p b d l w) (hd : Dt k b' d' w') (hq : b'.q = b.q) (hr : b'.r = b.r) (hfr : ∀ i g, b'.own i = some g → (∃ j, b.own j = some g) ∨ w.heap.size ≤ g) (ho : w'.os = w.os) (ht : w'.tape = w.tape) (hu : w'.output = w.output) (hz : w.heap.size ≤ w'.heap.size) (hb : ∀ g, g < w.heap.size → (∀ i, b.own i ≠ some g) → w'.heap[g]? = w.heap[g]?) :
    Sx k Bp p b' d' l w' ∧ Stp p b w b' w' :=
  ⟨h.step hd hfr (h.lots.keep fun g h1 h2 => hb g (by have := h.lots.lt; omega) fun i e => by have := h.out i g e; omega) h.lok, ⟨hq, hr, hfr, ho, ht, hu, hz, fun g hg _ hn => hb g hg hn⟩⟩

theorem Sx.setQ (h : Sx k Bp p b d l w) {m' : Option Nat} {L' : List Ru.Itm} (hQ : Ru.Qu (b.xq d) b.q m' L' w') (hm : Ru.Mv b.q b.mq m' w w') (hl : L'.length ≤ 32) :
    Sx k Bp p { b with mq := m' } { d with Q := L' } l w' ∧ Stp p b w { b with mq := m' } w' := by
  have hD := h.dt
  have hs : ∀ i, i ≠ 2 → Bl.own { b with mq := m' } i = b.own i := own_but 2 (fun _ => rfl) (fun _ => rfl) (fun e => absurd rfl e) (fun _ => rfl) (fun _ => rfl) (fun _ => rfl) (fun _ => rfl)
  have hc : Bl.own { b with mq := m' } 2 = b.own 2 ∨ ∀ g, Bl.own { b with mq := m' } 2 = some g → w.heap.size ≤ g := hm.at_
  have hk : ∀ i g, i ≠ 0 → i ≠ 2 → b.own i = some g → w'.heap[g]? = w.heap[g]? := fun i g h0 h2 hg =>
    hm.block g (hD.sep.lt i g hg).2 (fun e => h0 (hD.sep.one i 0 g hg (by rw [e]; rfl))) (fun e => h2 (hD.sep.one i 2 g hg e.symm))
  refine h.touch ?_ rfl rfl (fr_of hs hc) hm.os hm.tape hm.output hm.size fun g hg hn => hm.block g hg (fun e => hn 0 (by rw [e]; rfl)) (fun e => hn 2 e.symm)
  refine ⟨⟨hD.ok.k64, hD.ok.inv, hQ.qi, hl, hD.ok.di, hD.ok.s1, hD.ok.s2, hD.ok.W, hD.ok.E, hD.ok.el, hD.ok.la, hD.ok.no⟩, hQ.heap, hD.roll.keep (hk 1 _ (by decide) (by decide) rfl), hD.row.keep fun g hg _ => hk 4 g (by decide) (by decide) hg, hQ.none_, hQ.some_, hD.dn, fun g hg => (hD.dm g hg).keep (hk 3 g (by decide) (by decide) hg), hD.ws.keep fun g hg _ => hk 5 g (by decide) (by decide) hg, hD.es.keep fun g hg _ => hk 6 g (by decide) (by decide) hg,
    hD.tab.keep (hm.block 1 hD.tab.lt (fun e => by have := hD.sep.lt 0 _ rfl; omega) (fun e => by have := hD.sep.lt 2 _ e.symm; omega)), ?_⟩
  exact hD.sep.upd 2 hD.tab.lt hm.size hs (hc.imp id fun e g hg => ⟨e g hg, hQ.mlt g hg⟩)

theorem Sx.setD (h : Sx k Bp p b d l w) {m' : Option Nat} {L' : List Do.Dbt} (hQ : Do.Du (b.xd d) b.q m' L' w') (hm : Do.Mv b.q b.md m' w w') :
    Sx k Bp p { b with md := m' } { d with D := L' } l w' ∧ Stp p b w { b with md := m' } w' := by
  have hD := h.dt
  have hs : ∀ i, i ≠ 3 → Bl.own { b with md := m' } i = b.own i := own_but 3 (fun _ => rfl) (fun _ => rfl) (fun _ => rfl) (fun e => absurd rfl e) (fun _ => rfl) (fun _ => rfl) (fun _ => rfl)
  have hc : Bl.own { b with md := m' } 3 = b.own 3 ∨ ∀ g, Bl.own { b with md := m' } 3 = some g → w.heap.size ≤ g := hm.at_
  have hk : ∀ i g, i ≠ 0 → i ≠ 3 → b.own i = some g → w'.heap[g]? = w.heap[g]? := fun i g h0 h2 hg =>
    hm.block g (hD.sep.lt i g hg).2 (fun e => h0 (hD.sep.one i 0 g hg (by rw [e]; rfl))) (fun e => h2 (hD.sep.one i 3 g hg e.symm))
  refine h.touch ?_ rfl rfl (fr_of hs hc) hm.os hm.tape hm.output hm.size fun g hg hn => hm.block g hg (fun e => hn 0 (by rw [e]; rfl)) (fun e => hn 3 e.symm)
  refine ⟨⟨hD.ok.k64, hD.ok.inv, hD.ok.qi, hD.ok.ql, hQ.di, hD.ok.s1, hD.ok.s2, hD.ok.W, hD.ok.E, hD.ok.el, hD.ok.la, hD.ok.no⟩, hQ.heap, hD.roll.keep (hk 1 _ (by decide) (by decide) rfl), hD.row.keep fun g hg _ => hk 4 g (by decide) (by decide) hg, hD.qn, fun g hg => (hD.qm g hg).keep (hk 2 g (by decide) (by decide) hg), hQ.none_, hQ.some_, hD.ws.keep fun g hg _ => hk 5 g (by decide) (by decide) hg, hD.es.keep fun g hg _ => hk 6 g (by decide) (by decide) hg,
    hD.tab.keep (hm.block 1 hD.tab.lt (fun e => by have := hD.sep.lt 0 _ rfl; omega) (fun e => by have := hD.sep.lt 3 _ e.symm; omega)), ?_⟩
  exact hD.sep.upd 3 hD.tab.lt hm.size hs (hc.imp id fun e g hg => ⟨e g hg, hQ.mlt g hg⟩)

theorem Sx.setS (h : Sx k Bp p b d l w) {s' l' : List Int} (hR : Rn.Rn 1 (b.xs d) 94 (b.rows w) b.q s' w') (hL : Rn.Lt Bp p l' w') (hM : Rn.Mv b.q p w w') (hok : Rn.Ok l') (h1 : s'.Nodup) (h2 : ∀ x ∈ s', Nd x) :
    ∃ b', Sx k Bp p b' { d with s := s' } l' w' ∧ Stp p b w b' w' ∧ b'.vw = b.vw := by
  have hD := h.dt
  obtain ⟨v', hh, hr, hg⟩ := hR.ex
  have hs : ∀ i, i ≠ 4 → Bl.own { b with v := v' } i = b.own i := own_but 4 (fun _ => rfl) (fun _ => rfl) (fun _ => rfl) (fun _ => rfl) (fun e => absurd rfl e) (fun _ => rfl) (fun _ => rfl)
  have hc : Bl.own { b with v := v' } 4 = b.own 4 ∨ ∀ g, Bl.own { b with v := v' } 4 = some g → w.heap.size ≤ g := by
    cases e : v'.ownBlock with
    | none => exact .inr fun g hg' => by rw [show Bl.own { b with v := v' } 4 = none from e] at hg'; cases hg'
    | some g =>
      rcases (hg g e).1 with e' | e'
      · exact .inl (e.trans e'.symm)
      · exact .inr fun g' hg' => by rw [show Bl.own { b with v := v' } 4 = some g from e] at hg'; cases hg'; exact e'
  have hk : ∀ i g, i ≠ 0 → b.own i = some g → w'.heap[g]? = w.heap[g]? := fun i g h0 hg =>
    hM.block g (hD.sep.lt i g hg).2 (fun e => h0 (hD.sep.one i 0 g hg (by rw [e]; rfl))) (fun e => h.np i (e ▸ hg))
  refine ⟨{ b with v := v' }, h.step ?_ (fr_of hs hc) hL hok, ⟨rfl, rfl, fr_of hs hc, hM.os, hM.tape, hM.output, hM.size, fun g hg hp hn => hM.block g hg (fun e => hn 0 (by rw [e]; rfl)) hp⟩, rfl⟩
  refine ⟨⟨hD.ok.k64, hD.ok.inv, hD.ok.qi, hD.ok.ql, hD.ok.di, h1, h2, hD.ok.W, hD.ok.E, hD.ok.el, hD.ok.la, hD.ok.no⟩, hh, hD.roll.keep (hk 1 _ (by decide) rfl), hr, hD.qn, fun g hg => (hD.qm g hg).keep (hk 2 g (by decide) hg), hD.dn, fun g hg => (hD.dm g hg).keep (hk 3 g (by decide) hg), hD.ws.keep fun g hg _ => hk 5 g (by decide) hg, hD.es.keep fun g hg _ => hk 6 g (by decide) hg,
    hD.tab.keep (hM.block 1 hD.tab.lt (fun e => by have := hD.sep.lt 0 _ rfl; omega) (fun e => by have := h.low; have := h.lots.le; omega)), ?_⟩
  exact hD.sep.upd 4 hD.tab.lt hM.size hs (hc.imp id fun e g hg' => ⟨e g hg', (hg g hg').2⟩)

theorem Sx.setF (h : Sx k Bp p b d l w) {f' : Tab} (hR : Rl b.r k f' w') (hM : Ro.But w.heap.size b.r w w') (hI : Inv k f') : Sx k Bp p b { d with f := f' } l w' ∧ Stp p b w b w' := by
  have hD := h.dt
  have hk : ∀ i g, i ≠ 1 → b.own i = some g → w'.heap[g]? = w.heap[g]? := fun i g h0 hg =>
    hM.block g (hD.sep.lt i g hg).2 (fun e => h0 (hD.sep.one i 1 g hg (by rw [e]; rfl)))
  refine h.touch ?_ rfl rfl (fun i g hg => .inl ⟨i, hg⟩) hM.os hM.tape hM.output hM.size fun g hg hn => hM.block g hg (fun e => hn 1 (by rw [e]; rfl))
  exact ⟨⟨hD.ok.k64, hI, hD.ok.qi, hD.ok.ql, hD.ok.di, hD.ok.s1, hD.ok.s2, hD.ok.W, hD.ok.E, hD.ok.el, hD.ok.la, hD.ok.no⟩, (hk 0 _ (by decide) rfl).trans hD.heap, hR, hD.row.keep fun g hg _ => hk 4 g (by decide) hg, hD.qn, fun g hg => (hD.qm g hg).keep (hk 2 g (by decide) hg), hD.dn, fun g hg => (hD.dm g hg).keep (hk 3 g (by decide) hg), hD.ws.keep fun g hg _ => hk 5 g (by decide) hg, hD.es.keep fun g hg _ => hk 6 g (by decide) hg,
    hD.tab.keep (hM.block 1 hD.tab.lt (fun e => by have := hD.sep.lt 1 _ rfl; omega)), ⟨hD.sep.one, fun i g hg => by have := hD.sep.lt i g hg; have := hM.size; omega⟩⟩

theorem heap_put (hD : Dt k b d w) (j : Nat) (v : Value) : (w.setCell ⟨b.q, j, none⟩ v).heap[b.q]? = some (.cells ((b.cells d).setIfInBounds j v) 94 (0, 0)) := by
  simp [World.setCell, Array.getElem?_modify, hD.heap]
/-- A number, or a flag, is stored. -/
theorem Sx.setN (h : Sx k Bp p b d l w) (j : Nat) (v : Value) (hc : (b.cells d).setIfInBounds j v = b.cells d') (hok : d'.Ok k) (hf : d'.f = d.f) (hs : d'.s = d.s) (hQ : d'.Q = d.Q) (hDd : d'.D = d.D) (hW : d'.W = d.W) (hE : d'.E = d.E) :
    Sx k Bp p b d' l (w.setCell ⟨b.q, j, none⟩ v) ∧ Stp p b w b (w.setCell ⟨b.q, j, none⟩ v) := by
  have hD := h.dt
  have hb : ∀ g, g ≠ b.q → (w.setCell ⟨b.q, j, none⟩ v).heap[g]? = w.heap[g]? := fun g hg => Below.heap_setCell _ _ _ _ hg
  have hk : ∀ i g, i ≠ 0 → b.own i = some g → (w.setCell ⟨b.q, j, none⟩ v).heap[g]? = w.heap[g]? := fun i g h0 hg => hb g (fun e => h0 (hD.sep.one i 0 g hg (by rw [e]; rfl)))
  refine h.touch ?_ rfl rfl (fun i g hg => .inl ⟨i, hg⟩) rfl rfl rfl (by simp [World.setCell]) fun g hg hn => hb g (fun e => hn 0 (by rw [e]; rfl))
  refine ⟨hok, by rw [heap_put hD, hc], by rw [hf]; exact hD.roll.keep (hk 1 _ (by decide) rfl), by rw [hs]; exact hD.row.keep fun g hg _ => hk 4 g (by decide) hg, by rw [hQ]; exact hD.qn, by rw [hQ]; exact fun g hg => (hD.qm g hg).keep (hk 2 g (by decide) hg), by rw [hDd]; exact hD.dn, by rw [hDd]; exact fun g hg => (hD.dm g hg).keep (hk 3 g (by decide) hg), by rw [hW]; exact hD.ws.keep fun g hg _ => hk 5 g (by decide) hg, by rw [hE]; exact hD.es.keep fun g hg _ => hk 6 g (by decide) hg,
    hD.tab.keep (hb 1 (fun e => by have := hD.sep.lt 0 _ rfl; omega)), ⟨hD.sep.one, fun i g hg => by have := hD.sep.lt i g hg; simp [World.setCell]; omega⟩⟩
/-- A new row of watches is stored. -/
theorem Sx.setW (h : Sx k Bp p b d l w) {v' : Value} {W' : List Wch} (ho : OwE encW 133 0 v' W' w') (hg : w.grownBy w' b.vw.ownBlock) (hv : v'.ownBlock = b.vw.ownBlock ∨ ∀ g, v'.ownBlock = some g → w.heap.size ≤ g) (hW : ∀ x ∈ W', WchOk x) :
    Sx k Bp p { b with vw := v' } { d with W := W' } l (w'.setCell ⟨b.q, 4, none⟩ v') ∧ Stp p b w { b with vw := v' } (w'.setCell ⟨b.q, 4, none⟩ v') := by
  have hD := h.dt
  have hs : ∀ i, i ≠ 5 → Bl.own { b with vw := v' } i = b.own i := own_but 5 (fun _ => rfl) (fun _ => rfl) (fun _ => rfl) (fun _ => rfl) (fun _ => rfl) (fun e => absurd rfl e) (fun _ => rfl)
  have hc : Bl.own { b with vw := v' } 5 = b.own 5 ∨ ∀ g, Bl.own { b with vw := v' } 5 = some g → w.heap.size ≤ g := hv
  have hz : (w'.setCell ⟨b.q, 4, none⟩ v').heap.size = w'.heap.size := by simp [World.setCell]
  have hb : ∀ g, g < w.heap.size → g ≠ b.q → b.vw.ownBlock ≠ some g → (w'.setCell ⟨b.q, 4, none⟩ v').heap[g]? = w.heap[g]? := fun g h1 h2 h3 => (Below.heap_setCell _ _ _ _ h2).trans (hg.block g h1 (fun e => h3 e.symm))
  have hk : ∀ i g, i ≠ 0 → i ≠ 5 → b.own i = some g → (w'.setCell ⟨b.q, 4, none⟩ v').heap[g]? = w.heap[g]? := fun i g h0 h5 hg => hb g (hD.sep.lt i g hg).2 (fun e => h0 (hD.sep.one i 0 g hg (by rw [e]; rfl))) (fun e => h5 (hD.sep.one i 5 g hg e))
  have hq' : w'.heap[b.q]? = w.heap[b.q]? := hg.block b.q hD.qlt (fun e => by have := hD.sep.one 0 5 b.q rfl e.symm; omega)
  have hh : (w'.setCell ⟨b.q, 4, none⟩ v').heap[b.q]? = some (.cells (Bl.cells { b with vw := v' } { d with W := W' }) 94 (0, 0)) := by
    simp [World.setCell, Array.getElem?_modify, hq', hD.heap, Bl.cells]
  have hvq : ∀ g, v'.ownBlock = some g → g ≠ b.q := fun g e e' => by
    rcases hv with e2 | e2
    · rw [e2] at e; have := hD.sep.one 5 0 g e (by rw [e']; rfl); omega
    · have := e2 g e; have := hD.qlt; omega
  refine h.touch ?_ rfl rfl (fr_of hs hc) hg.os hg.tape hg.output (by rw [hz]; exact hg.size) fun g hg' hn => hb g hg' (fun e => hn 0 (by rw [e]; rfl)) (hn 5)
  refine ⟨⟨hD.ok.k64, hD.ok.inv, hD.ok.qi, hD.ok.ql, hD.ok.di, hD.ok.s1, hD.ok.s2, hW, hD.ok.E, hD.ok.el, hD.ok.la, hD.ok.no⟩, hh, hD.roll.keep (hk 1 _ (by decide) (by decide) rfl), hD.row.keep fun g hg _ => hk 4 g (by decide) (by decide) hg, hD.qn, fun g hg => (hD.qm g hg).keep (hk 2 g (by decide) (by decide) hg), hD.dn, fun g hg => (hD.dm g hg).keep (hk 3 g (by decide) (by decide) hg), ho.keep fun g hg' _ => Below.heap_setCell _ _ _ _ (hvq g hg'), hD.es.keep fun g hg _ => hk 6 g (by decide) (by decide) hg,
    hD.tab.keep (hb 1 hD.tab.lt (fun e => by have := hD.sep.lt 0 _ rfl; omega) (fun e => by have := hD.sep.lt 5 _ e; omega)), ?_⟩
  refine hD.sep.upd 5 hD.tab.lt (by rw [hz]; exact hg.size) hs (hc.imp id fun e g hg' => ⟨e g hg', ?_⟩)
  rw [hz]
  exact (ho.lt g hg').2
/-- A new row of errands is stored. -/
theorem Sx.setE (h : Sx k Bp p b d l w) {v' : Value} {E' : List Ern} (ho : OwE encE 112 0 v' E' w') (hg : w.grownBy w' b.ve.ownBlock) (hv : v'.ownBlock = b.ve.ownBlock ∨ ∀ g, v'.ownBlock = some g → w.heap.size ≤ g) (hE : ∀ x ∈ E', ErnOk x) (hel : E'.length ≤ 32) :
    Sx k Bp p { b with ve := v' } { d with E := E' } l (w'.setCell ⟨b.q, 5, none⟩ v') ∧ Stp p b w { b with ve := v' } (w'.setCell ⟨b.q, 5, none⟩ v') := by
  have hD := h.dt
  have hs : ∀ i, i ≠ 6 → Bl.own { b with ve := v' } i = b.own i := own_but 6 (fun _ => rfl) (fun _ => rfl) (fun _ => rfl) (fun _ => rfl) (fun _ => rfl) (fun _ => rfl) (fun e => absurd rfl e)
  have hc : Bl.own { b with ve := v' } 6 = b.own 6 ∨ ∀ g, Bl.own { b with ve := v' } 6 = some g → w.heap.size ≤ g := hv
  have hz : (w'.setCell ⟨b.q, 5, none⟩ v').heap.size = w'.heap.size := by simp [World.setCell]
  have hb : ∀ g, g < w.heap.size → g ≠ b.q → b.ve.ownBlock ≠ some g → (w'.setCell ⟨b.q, 5, none⟩ v').heap[g]? = w.heap[g]? := fun g h1 h2 h3 => (Below.heap_setCell _ _ _ _ h2).trans (hg.block g h1 (fun e => h3 e.symm))
  have hk : ∀ i g, i ≠ 0 → i ≠ 6 → b.own i = some g → (w'.setCell ⟨b.q, 5, none⟩ v').heap[g]? = w.heap[g]? := fun i g h0 h5 hg => hb g (hD.sep.lt i g hg).2 (fun e => h0 (hD.sep.one i 0 g hg (by rw [e]; rfl))) (fun e => h5 (hD.sep.one i 6 g hg e))
  have hq' : w'.heap[b.q]? = w.heap[b.q]? := hg.block b.q hD.qlt (fun e => by have := hD.sep.one 0 6 b.q rfl e.symm; omega)
  have hh : (w'.setCell ⟨b.q, 5, none⟩ v').heap[b.q]? = some (.cells (Bl.cells { b with ve := v' } { d with E := E' }) 94 (0, 0)) := by
    simp [World.setCell, Array.getElem?_modify, hq', hD.heap, Bl.cells]
  have hvq : ∀ g, v'.ownBlock = some g → g ≠ b.q := fun g e e' => by
    rcases hv with e2 | e2
    · rw [e2] at e; have := hD.sep.one 6 0 g e (by rw [e']; rfl); omega
    · have := e2 g e; have := hD.qlt; omega
  refine h.touch ?_ rfl rfl (fr_of hs hc) hg.os hg.tape hg.output (by rw [hz]; exact hg.size) fun g hg' hn => hb g hg' (fun e => hn 0 (by rw [e]; rfl)) (hn 6)
  refine ⟨⟨hD.ok.k64, hD.ok.inv, hD.ok.qi, hD.ok.ql, hD.ok.di, hD.ok.s1, hD.ok.s2, hD.ok.W, hE, hel, hD.ok.la, hD.ok.no⟩, hh, hD.roll.keep (hk 1 _ (by decide) (by decide) rfl), hD.row.keep fun g hg _ => hk 4 g (by decide) (by decide) hg, hD.qn, fun g hg => (hD.qm g hg).keep (hk 2 g (by decide) (by decide) hg), hD.dn, fun g hg => (hD.dm g hg).keep (hk 3 g (by decide) (by decide) hg), hD.ws.keep fun g hg _ => hk 5 g (by decide) (by decide) hg, ho.keep fun g hg' _ => Below.heap_setCell _ _ _ _ (hvq g hg'),
    hD.tab.keep (hb 1 hD.tab.lt (fun e => by have := hD.sep.lt 0 _ rfl; omega) (fun e => by have := hD.sep.lt 6 _ e; omega)), ?_⟩
  refine hD.sep.upd 6 hD.tab.lt (by rw [hz]; exact hg.size) hs (hc.imp id fun e g hg' => ⟨e g hg', ?_⟩)
  rw [hz]
  exact (ho.lt g hg').2
/-- Lots alone were drawn. -/
theorem Sx.setL (h : Sx k Bp p b d l w) (hL : Rn.Lt Bp p l' w') (hB : Rn.But w.heap.size p w w') (hok : Rn.Ok l') : Sx k Bp p b d l' w' ∧ Stp p b w b w' :=
  ⟨⟨h.dt.keep hB.size (fun i g hg => hB.block g (h.dt.sep.lt i g hg).2 (fun e => h.np i (e ▸ hg))) (hB.block 1 h.dt.tab.lt (fun e => by have := h.low; have := h.lots.le; omega)), hL, hok, h.out, h.low⟩,
    ⟨rfl, rfl, fun i _ hg => .inl ⟨i, hg⟩, hB.os, hB.tape, hB.output, hB.size, fun g hg hp _ => hB.block g hg hp⟩⟩
end
end Go.Proofs.YtpoofjnfaijjjaaGreatDoor
