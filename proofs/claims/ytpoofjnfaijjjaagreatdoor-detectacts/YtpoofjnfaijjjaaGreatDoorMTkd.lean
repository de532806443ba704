/-
  A detector in memory, with the lots that are handed to it; what a call changes of it. What a step of one part makes of a detector. A detector's leaves: Live, All, Now, me, many, knows, isNode; a struct's first field; notes. suspect, knows. learn. takeIn.
-/
import Derived.Test.YtpoofjnfaijjjaaGreatDoorMDet
import Derived.Test.YtpoofjnfaijjjaaGreatDoorMNRfj
namespace Go.Proofs.YtpoofjnfaijjjaaGreatDoor
open Go.RowKit Go.Proofs.YtpoofjnfaijjjaaGreatDoor.Ro
abbrev U64 (x : Int) : Prop := 0 ≤ x ∧ x ≤ 18446744073709551615
abbrev Nd (x : Int) : Prop := 0 ≤ x ∧ x < 64
def encW : Enc Wch := ⟨4, fun x => [.int .i64 x.n, .int .u64 x.q, .int .u64 x.a, .bool x.h], fun _ => rfl, fun x v hv => by
  simp only [List.mem_cons, List.not_mem_nil, or_false] at hv
  rcases hv with rfl | rfl | rfl | rfl <;> rfl, by decide⟩
def encE : Enc Ern := ⟨5, fun x => [.int .i64 x.n, .int .u64 x.q, .int .u64 x.a, .int .i64 x.f, .int .u64 x.t], fun _ => rfl, fun x v hv => by
  simp only [List.mem_cons, List.not_mem_nil, or_false] at hv
  rcases hv with rfl | rfl | rfl | rfl | rfl <;> rfl, by decide⟩
structure WchOk (x : Wch) : Prop where
  n : Nd x.n
  q : U64 x.q
  a : U64 x.a
structure ErnOk (x : Ern) : Prop where
  n : Nd x.n
  q : U64 x.q
  a : U64 x.a
  f : Nd x.f
  t : U64 x.t
structure Det.Ok (k : Nat) (d : Det) : Prop where
  k64 : k < 64
  inv : Inv k d.f
  qi : Ru.Qi d.Q
  ql : d.Q.length ≤ 32
  di : Do.Di d.D
  s1 : d.s.Nodup
  s2 : ∀ x ∈ d.s, Nd x
  W : ∀ x ∈ d.W, WchOk x
  E : ∀ x ∈ d.E, ErnOk x
  el : d.E.length ≤ 32
  la : U64 d.la
  no : U64 d.no
theorem u64w_ok (x : Int) : U64 (u64w x) := by
  have := IntKind.wrap_u64 x
  unfold u64w U64
  rw [this]
  omega
theorem nodup_sub : ∀ (l m : List Int), l.Nodup → (∀ x ∈ l, x ∈ m) → l.length ≤ m.length
  | [], _, _, _ => Nat.zero_le _
  | x :: r, m, h, hs => by
    have hx := hs x (by simp)
    have h2 := List.nodup_cons.1 h
    have ih := nodup_sub r (m.erase x) h2.2 fun y hy => (List.mem_erase_of_ne (fun (e : y = x) => h2.1 (by rw [← e]; exact hy))).2 (hs y (by simp [hy]))
    rw [List.length_erase_of_mem hx] at ih
    have := List.length_pos_of_mem hx
    simp
    omega
theorem nodup_nodes {l : List Int} (h : l.Nodup) (hr : ∀ x ∈ l, Nd x) : l.length ≤ 64 := by
  have hs : ∀ x ∈ l, x ∈ (List.range 64).map (fun (i : Nat) => (i : Int)) := fun x hx => by
    obtain ⟨h0, h1⟩ := hr x hx
    rw [List.mem_map]
    exact ⟨x.toNat, by rw [List.mem_range]; omega, by omega⟩
  have := nodup_sub l _ h hs
  simpa using this
theorem Det.Ok.sl {k : Nat} {d : Det} (h : d.Ok k) : d.s.length ≤ 64 := nodup_nodes h.s1 h.s2
structure Bl where
  q : Nat
  r : Nat
  mq : Option Nat
  md : Option Nat
  v : Value
  vw : Value
  ve : Value
def Bl.cells (b : Bl) (d : Det) : Array Value := #[.pointer (some ⟨b.r, 0, none⟩), b.v, .map b.mq, .map b.md, b.vw, b.ve, .int .u64 d.la, .int .u64 d.no, .bool d.le]
def Bl.own (b : Bl) : Nat → Option Nat
  | 0 => some b.q
  | 1 => some b.r
  | 2 => b.mq
  | 3 => b.md
  | 4 => b.v.ownBlock
  | 5 => b.vw.ownBlock
  | 6 => b.ve.ownBlock
  | _ => none
structure Sep (o : Nat → Option Nat) (n : Nat) : Prop where
  one : ∀ i j g, o i = some g → o j = some g → i = j
  lt : ∀ i g, o i = some g → 1 < g ∧ g < n
theorem Sep.upd {o o' : Nat → Option Nat} {n n' : Nat} (h : Sep o n) (c : Nat) (h1 : 1 < n) (hn : n ≤ n') (hs : ∀ i, i ≠ c → o' i = o i) (hc : o' c = o c ∨ ∀ g, o' c = some g → n ≤ g ∧ g < n') : Sep o' n' := by
  have hlt : ∀ i g, o' i = some g → 1 < g ∧ g < n' := fun i g hg => by
    by_cases e : i = c
    · subst e
      rcases hc with e | e
      · rw [e] at hg; have := h.lt _ _ hg; omega
      · have := e g hg; omega
    · rw [hs i e] at hg; have := h.lt _ _ hg; omega
  refine ⟨fun i j g hi hj => ?_, hlt⟩
  rcases hc with e | e
  · have hs' : ∀ i, o' i = o i := fun i => by
      by_cases ei : i = c
      · subst ei; exact e
      · exact hs i ei
    rw [hs'] at hi hj
    exact h.one i j g hi hj
  · by_cases ei : i = c
    · by_cases ej : j = c
      · omega
      · subst ei
        rw [hs j ej] at hj
        have := h.lt _ _ hj
        have := e g hi
        omega
    · by_cases ej : j = c
      · subst ej
        rw [hs i ei] at hi
        have := h.lt _ _ hi
        have := e g hj
        omega
      · rw [hs i ei] at hi
        rw [hs j ej] at hj
        exact h.one i j g hi hj
structure Dt (k : Nat) (b : Bl) (d : Det) (w : World) : Prop where
  ok : d.Ok k
  heap : w.heap[b.q]? = some (.cells (b.cells d) 94 (0, 0))
  roll : Rl b.r k d.f w
  row : Rn.Rd .i64 b.v d.s w
  qn : b.mq = none → d.Q = []
  qm : ∀ g, b.mq = some g → Ru.Mo g d.Q w
  dn : b.md = none → d.D = []
  dm : ∀ g, b.md = some g → Do.Mo g d.D w
  ws : OwE encW 133 0 b.vw d.W w
  es : OwE encE 112 0 b.ve d.E w
  tab : Bnd.Tab w
  sep : Sep b.own w.heap.size
section
variable {k : Nat} {b : Bl} {d : Det} {w w' : World}
theorem Dt.keep (h : Dt k b d w) (hz : w.heap.size ≤ w'.heap.size) (hw : ∀ i g, b.own i = some g → w'.heap[g]? = w.heap[g]?) (h1 : w'.heap[1]? = w.heap[1]?) : Dt k b d w' :=
  ⟨h.ok, (hw 0 _ rfl).trans h.heap, h.roll.keep (hw 1 _ rfl), h.row.keep fun g hg _ => hw 4 g hg, h.qn, fun g hg => (h.qm g hg).keep (hw 2 g hg), h.dn, fun g hg => (h.dm g hg).keep (hw 3 g hg),
    h.ws.keep fun g hg _ => hw 5 g hg, h.es.keep fun g hg _ => hw 6 g hg, h.tab.keep h1, ⟨h.sep.one, fun i g hg => by have := h.sep.lt i g hg; omega⟩⟩
theorem Dt.below (h : Dt k b d w) (hb : Below w.heap.size w w') : Dt k b d w' := h.keep hb.size (fun i g hg => hb.block g (h.sep.lt i g hg).2) (hb.block 1 h.tab.lt)
theorem Dt.drew (h : Dt k b d w) : Dt k b d w.drew := h.keep (Nat.le_refl _) (fun _ _ _ => rfl) rfl
theorem Dt.c0 (h : Dt k b d w) : w.cell? ⟨b.q, 0, none⟩ = some (.pointer (some ⟨b.r, 0, none⟩)) := by simp [World.cell?, h.heap, Bl.cells]
theorem Dt.c4 (h : Dt k b d w) : w.cell? ⟨b.q, 4, none⟩ = some b.vw := by simp [World.cell?, h.heap, Bl.cells]
theorem Dt.c5 (h : Dt k b d w) : w.cell? ⟨b.q, 5, none⟩ = some b.ve := by simp [World.cell?, h.heap, Bl.cells]
theorem Dt.c6 (h : Dt k b d w) : w.cell? ⟨b.q, 6, none⟩ = some (.int .u64 d.la) := by simp [World.cell?, h.heap, Bl.cells]
theorem Dt.c7 (h : Dt k b d w) : w.cell? ⟨b.q, 7, none⟩ = some (.int .u64 d.no) := by simp [World.cell?, h.heap, Bl.cells]
theorem Dt.c8 (h : Dt k b d w) : w.cell? ⟨b.q, 8, none⟩ = some (.bool d.le) := by simp [World.cell?, h.heap, Bl.cells]
theorem Dt.free (h : Dt k b d w) (j : Nat) : w.frozen? ⟨b.q, j, none⟩ = false := free_of h.heap j
theorem Dt.qlt (h : Dt k b d w) : b.q < w.heap.size := (h.sep.lt 0 _ rfl).2
end
structure Stp (p : Nat) (b : Bl) (w : World) (b' : Bl) (w' : World) : Prop where
  q : b'.q = b.q
  r : b'.r = b.r
  fr : ∀ i g, b'.own i = some g → (∃ j, b.own j = some g) ∨ w.heap.size ≤ g
  os : w'.os = w.os
  tape : w'.tape = w.tape
  output : w'.output = w.output
  size : w.heap.size ≤ w'.heap.size
  block : ∀ g, g < w.heap.size → g ≠ p → (∀ i, b.own i ≠ some g) → w'.heap[g]? = w.heap[g]?
section
variable {p : Nat} {b b1 b2 : Bl} {w w1 w2 : World}
theorem Stp.refl (p : Nat) (b : Bl) (w : World) : Stp p b w b w := ⟨rfl, rfl, fun i _ hg => .inl ⟨i, hg⟩, rfl, rfl, rfl, Nat.le_refl _, fun _ _ _ _ => rfl⟩
theorem Stp.of (h : Below w.heap.size w w1) : Stp p b w b w1 := ⟨rfl, rfl, fun i _ hg => .inl ⟨i, hg⟩, h.os, h.tape, h.output, h.size, fun g hg _ _ => h.block g hg⟩
theorem Stp.trans (h : Stp p b w b1 w1) (k : Stp p b1 w1 b2 w2) : Stp p b w b2 w2 := by
  refine ⟨k.q.trans h.q, k.r.trans h.r, fun i g hg => ?_, k.os.trans h.os, k.tape.trans h.tape, k.output.trans h.output, Nat.le_trans h.size k.size, fun g hg hp hn => ?_⟩
  · rcases k.fr i g hg with ⟨j, hj⟩ | hj
    · exact h.fr j g hj
    · exact .inr (Nat.le_trans h.size hj)
  · rw [k.block g (Nat.lt_of_lt_of_le hg h.size) hp fun i hi => ?_, h.block g hg hp hn]
    rcases h.fr i g hi with ⟨j, hj⟩ | hj
    · exact hn j hj
    · omega
theorem Stp.drew (h : Stp p b w b1 w1) : Stp p b w b1 w1.drew := ⟨h.q, h.r, h.fr, h.os, h.tape, h.output, h.size, h.block⟩
theorem Stp.then (h : Stp p b w b1 w1) (k : Below w1.heap.size w1 w2) : Stp p b w b1 w2 := h.trans (Stp.of k)
end
structure Sx (k Bp p : Nat) (b : Bl) (d : Det) (l : List Int) (w : World) : Prop where
  dt : Dt k b d w
  lots : Rn.Lt Bp p l w
  lok : Rn.Ok l
  out : ∀ i g, b.own i = some g → g < Bp ∨ p < g
  low : 1 < Bp
section
variable {k Bp p : Nat} {b b' : Bl} {d d' : Det} {l l' : List Int} {w w' : World}
theorem Sx.below (h : Sx k Bp p b d l w) (hb : Below w.heap.size w w') : Sx k Bp p b d l w' := ⟨h.dt.below hb, h.lots.keep fun g _ hg => hb.block g (by have := h.lots.lt; omega), h.lok, h.out, h.low⟩
theorem Sx.drew (h : Sx k Bp p b d l w) : Sx k Bp p b d l w.drew := ⟨h.dt.drew, h.lots.keep fun _ _ _ => rfl, h.lok, h.out, h.low⟩
theorem Sx.np (h : Sx k Bp p b d l w) (i : Nat) : b.own i ≠ some p := fun e => by have := h.out i p e; have := h.lots.le; omega
theorem Sx.nn (h : Sx k Bp p b d l w) {g : Nat} (hg : w.heap.size ≤ g) (i : Nat) : b.own i ≠ some g := fun e => by have := h.dt.sep.lt i g e; omega
theorem Sx.pn (h : Sx k Bp p b d l w) {g : Nat} (hg : w.heap.size ≤ g) : g ≠ p := fun e => by have := h.lots.lt; omega
theorem Sx.step (h : Sx k Bp p b d l w) (hd : Dt k b' d' w') (hfr : ∀ i g, b'.own i = some g → (∃ j, b.own j = some g) ∨ w.heap.size ≤ g) (hl : Rn.Lt Bp p l' w') (hok : Rn.Ok l') : Sx k Bp p b' d' l' w' :=
  ⟨hd, hl, hok, fun i g hg => by
    rcases hfr i g hg with ⟨j, hj⟩ | hj
    · exact h.out j g hj
    · have := h.lots.lt; omega, h.low⟩
end
structure Away (p : Nat) (b : Bl) (w : World) (g : Nat) : Prop where
  lt : g < w.heap.size
  p : g ≠ p
  own : ∀ i, b.own i ≠ some g
theorem Stp.keep {p : Nat} {b b' : Bl} {w w' : World} (h : Stp p b w b' w') {g : Nat} (hg : Away p b w g) : w'.heap[g]? = w.heap[g]? := h.block g hg.lt hg.p hg.own
theorem Away.stp {p : Nat} {b b' : Bl} {w w' : World} {g : Nat} (hg : Away p b w g) (h : Stp p b w b' w') : Away p b' w' g :=
  ⟨Nat.lt_of_lt_of_le hg.lt h.size, hg.p, fun i e => by
    rcases h.fr i g e with ⟨j, hj⟩ | hj
    · exact hg.own j hj
    · have := hg.lt; omega⟩
theorem Sx.away {k Bp p : Nat} {b : Bl} {d : Det} {l : List Int} {w w' : World} (h : Sx k Bp p b d l w) {g : Nat} (hg : w.heap.size ≤ g) (hg' : g < w'.heap.size) : Away p b w' g := ⟨hg', h.pn hg, fun i => h.nn hg i⟩
def Bl.xq (b : Bl) (d : Det) (x : Value) : Array Value := #[.pointer (some ⟨b.r, 0, none⟩), b.v, x, .map b.md, b.vw, b.ve, .int .u64 d.la, .int .u64 d.no, .bool d.le]
def Bl.xd (b : Bl) (d : Det) (x : Value) : Array Value := #[.pointer (some ⟨b.r, 0, none⟩), b.v, .map b.mq, x, b.vw, b.ve, .int .u64 d.la, .int .u64 d.no, .bool d.le]
def Bl.xs (b : Bl) (d : Det) (x : Value) : Array Value := #[.pointer (some ⟨b.r, 0, none⟩), x, .map b.mq, .map b.md, b.vw, b.ve, .int .u64 d.la, .int .u64 d.no, .bool d.le]
theorem hole_q (b : Bl) (d : Det) : Hole 2 (b.xq d) := ⟨fun _ => rfl, fun _ _ => rfl⟩
theorem hole_d (b : Bl) (d : Det) : Hole 3 (b.xd d) := ⟨fun _ => rfl, fun _ _ => rfl⟩
theorem hole_s (b : Bl) (d : Det) : Hole 1 (b.xs d) := ⟨fun _ => rfl, fun _ _ => rfl⟩
section
variable {k Bp p : Nat} {b b' : Bl} {d d' : Det} {l l' : List Int} {w w' : World}
theorem Dt.qu (h : Dt k b d w) : Ru.Qu (b.xq d) b.q b.mq d.Q w := ⟨hole_q b d, h.ok.qi, h.heap, h.qn, h.qm⟩
theorem Dt.du (h : Dt k b d w) : Do.Du (b.xd d) b.q b.md d.D w := ⟨hole_d b d, h.ok.di, h.heap, h.dn, h.dm⟩
def Bl.rows (b : Bl) (w : World) (g : Nat) : Prop := b.v.ownBlock = some g ∨ w.heap.size ≤ g
theorem Dt.rn (h : Dt k b d w) : Rn.Rn 1 (b.xs d) 94 (b.rows w) b.q d.s w :=
  ⟨hole_s b d, ⟨b.v, h.heap, h.row, fun g hg => ⟨.inl hg, (h.sep.lt 4 g hg).2⟩⟩, fun e => by
    rcases e with e | e
    · have := h.sep.one 4 0 b.q e rfl; omega
    · have := h.qlt; omega, h.qlt, fun _ hg => .inr hg⟩
theorem Sx.norow (h : Sx k Bp p b d l w) : ¬ b.rows w p := fun e => by
  rcases e with e | e
  · exact h.np 4 e
  · have := h.lots.lt; omega
theorem Sx.qout (h : Sx k Bp p b d l w) : b.q < Bp ∨ p < b.q := h.out 0 _ rfl
theorem sep_idx {i : Nat} : i = 0 ∨ i = 1 ∨ i = 2 ∨ i = 3 ∨ i = 4 ∨ i = 5 ∨ i = 6 ∨ 7 ≤ i := by omega
theorem own_hi (b : Bl) {i : Nat} (h : 7 ≤ i) : b.own i = none := by
  obtain ⟨j, rfl⟩ : ∃ j, i = j + 7 := ⟨i - 7, by omega⟩
  rfl
theorem own_but {b b' : Bl} (c : Nat) (h0 : c ≠ 0 → b'.q = b.q) (h1 : c ≠ 1 → b'.r = b.r) (h2 : c ≠ 2 → b'.mq = b.mq) (h3 : c ≠ 3 → b'.md = b.md) (h4 : c ≠ 4 → b'.v = b.v) (h5 : c ≠ 5 → b'.vw = b.vw) (h6 : c ≠ 6 → b'.ve = b.ve) : ∀ i, i ≠ c → b'.own i = b.own i := fun i hi => by
  rcases sep_idx (i := i) with rfl | rfl | rfl | rfl | rfl | rfl | rfl | h
  · exact congrArg some (h0 (Ne.symm hi))
  · exact congrArg some (h1 (Ne.symm hi))
  · exact h2 (Ne.symm hi)
  · exact h3 (Ne.symm hi)
  · exact congrArg Value.ownBlock (h4 (Ne.symm hi))
  · exact congrArg Value.ownBlock (h5 (Ne.symm hi))
  · exact congrArg Value.ownBlock (h6 (Ne.symm hi))
  · rw [own_hi b h, own_hi b' h]
theorem fr_of {c : Nat} (hs : ∀ i, i ≠ c → b'.own i = b.own i) (hc : b'.own c = b.own c ∨ ∀ g, b'.own c = some g → w.heap.size ≤ g) : ∀ i g, b'.own i = some g → (∃ j, b.own j = some g) ∨ w.heap.size ≤ g := fun i g hg => by
  by_cases e : i = c
  · subst e
    rcases hc with e | e
    · exact .inl ⟨_, e ▸ hg⟩
    · exact .inr (e g hg)
  · exact .inl ⟨i, (hs i e) ▸ hg⟩
theorem Sx.touch (h : Sx k Bp p b d l w) (hd : Dt k b' d' w') (hq : b'.q = b.q) (hr : b'.r = b.r) (hfr : ∀ i g, b'.own i = some g → (∃ j, b.own j = some g) ∨ w.heap.size ≤ g) (ho : w'.os = w.os) (ht : w'.tape = w.tape) (hu : w'.output = w.output) (hz : w.heap.size ≤ w'.heap.size) (hb : ∀ g, g < w.heap.size → (∀ i, b.own i ≠ some g) → w'.heap[g]? = w.heap[g]?) :
    Sx k Bp p b' d' l w' ∧ Stp p b w b' w' :=
  ⟨h.step hd hfr (h.lots.keep fun g h1 h2 => hb g (by have := h.lots.lt; omega) fun i e => by have := h.out i g e; omega) h.lok, ⟨hq, hr, hfr, ho, ht, hu, hz, fun g hg _ hn => hb g hg hn⟩⟩
theorem Sx.setQ (h : Sx k Bp p b d l w) {m' : Option Nat} {L' : List Ru.Itm} (hQ : Ru.Qu (b.xq d) b.q m' L' w') (hm : Ru.Mv b.q b.mq m' w w') (hl : L'.length ≤ 32) :
    Sx k Bp p { b with mq := m' } { d with Q := L' } l w' ∧ Stp p b w { b with mq := m' } w' := by
  have hD := h.dt
  have hs : ∀ i, i ≠ 2 → Bl.own { b with mq := m' } i = b.own i := own_but 2 (fun _ => rfl) (fun _ => rfl) (fun e => absurd rfl e) (fun _ => rfl) (fun _ => rfl) (fun _ => rfl) (fun _ => rfl)
  have hc : Bl.own { b with mq := m' } 2 = b.own 2 ∨ ∀ g, Bl.own { b with mq := m' } 2 = some g → w.heap.size ≤ g := hm.at_
  have hk : ∀ i g, i ≠ 0 → i ≠ 2 → b.own i = some g → w'.heap[g]? = w.heap[g]? := fun i g h0 h2 hg =>
    hm.block g (hD.sep.lt i g hg).2 (fun e => h0 (hD.sep.one i 0 g hg (by rw [e]; rfl))) (fun e => h2 (hD.sep.one i 2 g hg e.symm))
  refine h.touch ?_ rfl rfl (fr_of hs hc) hm.os hm.tape hm.output hm.size fun g hg hn => hm.block g hg (fun e => hn 0 (by rw [e]; rfl)) (fun e => hn 2 e.symm)
  refine ⟨⟨hD.ok.k64, hD.ok.inv, hQ.qi, hl, hD.ok.di, hD.ok.s1, hD.ok.s2, hD.ok.W, hD.ok.E, hD.ok.el, hD.ok.la, hD.ok.no⟩, hQ.heap, hD.roll.keep (hk 1 _ (by decide) (by decide) rfl), hD.row.keep fun g hg _ => hk 4 g (by decide) (by decide) hg, hQ.none_, hQ.some_, hD.dn, fun g hg => (hD.dm g hg).keep (hk 3 g (by decide) (by decide) hg), hD.ws.keep fun g hg _ => hk 5 g (by decide) (by decide) hg, hD.es.keep fun g hg _ => hk 6 g (by decide) (by decide) hg,
    hD.tab.keep (hm.block 1 hD.tab.lt (fun e => by have := hD.sep.lt 0 _ rfl; omega) (fun e => by have := hD.sep.lt 2 _ e.symm; omega)), ?_⟩
  exact hD.sep.upd 2 hD.tab.lt hm.size hs (hc.imp id fun e g hg => ⟨e g hg, hQ.mlt g hg⟩)
theorem Sx.setD (h : Sx k Bp p b d l w) {m' : Option Nat} {L' : List Do.Dbt} (hQ : Do.Du (b.xd d) b.q m' L' w') (hm : Do.Mv b.q b.md m' w w') :
    Sx k Bp p { b with md := m' } { d with D := L' } l w' ∧ Stp p b w { b with md := m' } w' := by
  have hD := h.dt
  have hs : ∀ i, i ≠ 3 → Bl.own { b with md := m' } i = b.own i := own_but 3 (fun _ => rfl) (fun _ => rfl) (fun _ => rfl) (fun e => absurd rfl e) (fun _ => rfl) (fun _ => rfl) (fun _ => rfl)
  have hc : Bl.own { b with md := m' } 3 = b.own 3 ∨ ∀ g, Bl.own { b with md := m' } 3 = some g → w.heap.size ≤ g := hm.at_
  have hk : ∀ i g, i ≠ 0 → i ≠ 3 → b.own i = some g → w'.heap[g]? = w.heap[g]? := fun i g h0 h2 hg =>
    hm.block g (hD.sep.lt i g hg).2 (fun e => h0 (hD.sep.one i 0 g hg (by rw [e]; rfl))) (fun e => h2 (hD.sep.one i 3 g hg e.symm))
  refine h.touch ?_ rfl rfl (fr_of hs hc) hm.os hm.tape hm.output hm.size fun g hg hn => hm.block g hg (fun e => hn 0 (by rw [e]; rfl)) (fun e => hn 3 e.symm)
  refine ⟨⟨hD.ok.k64, hD.ok.inv, hD.ok.qi, hD.ok.ql, hQ.di, hD.ok.s1, hD.ok.s2, hD.ok.W, hD.ok.E, hD.ok.el, hD.ok.la, hD.ok.no⟩, hQ.heap, hD.roll.keep (hk 1 _ (by decide) (by decide) rfl), hD.row.keep fun g hg _ => hk 4 g (by decide) (by decide) hg, hD.qn, fun g hg => (hD.qm g hg).keep (hk 2 g (by decide) (by decide) hg), hQ.none_, hQ.some_, hD.ws.keep fun g hg _ => hk 5 g (by decide) (by decide) hg, hD.es.keep fun g hg _ => hk 6 g (by decide) (by decide) hg,
    hD.tab.keep (hm.block 1 hD.tab.lt (fun e => by have := hD.sep.lt 0 _ rfl; omega) (fun e => by have := hD.sep.lt 3 _ e.symm; omega)), ?_⟩
  exact hD.sep.upd 3 hD.tab.lt hm.size hs (hc.imp id fun e g hg => ⟨e g hg, hQ.mlt g hg⟩)
theorem Sx.setS (h : Sx k Bp p b d l w) {s' l' : List Int} (hR : Rn.Rn 1 (b.xs d) 94 (b.rows w) b.q s' w') (hL : Rn.Lt Bp p l' w') (hM : Rn.Mv b.q p w w') (hok : Rn.Ok l') (h1 : s'.Nodup) (h2 : ∀ x ∈ s', Nd x) :
    ∃ b', Sx k Bp p b' { d with s := s' } l' w' ∧ Stp p b w b' w' ∧ b'.vw = b.vw := by
  have hD := h.dt
  obtain ⟨v', hh, hr, hg⟩ := hR.ex
  have hs : ∀ i, i ≠ 4 → Bl.own { b with v := v' } i = b.own i := own_but 4 (fun _ => rfl) (fun _ => rfl) (fun _ => rfl) (fun _ => rfl) (fun e => absurd rfl e) (fun _ => rfl) (fun _ => rfl)
  have hc : Bl.own { b with v := v' } 4 = b.own 4 ∨ ∀ g, Bl.own { b with v := v' } 4 = some g → w.heap.size ≤ g := by
    cases e : v'.ownBlock with
    | none => exact .inr fun g hg' => by rw [show Bl.own { b with v := v' } 4 = none from e] at hg'; cases hg'
    | some g =>
      rcases (hg g e).1 with e' | e'
      · exact .inl (e.trans e'.symm)
      · exact .inr fun g' hg' => by rw [show Bl.own { b with v := v' } 4 = some g from e] at hg'; cases hg'; exact e'
  have hk : ∀ i g, i ≠ 0 → b.own i = some g → w'.heap[g]? = w.heap[g]? := fun i g h0 hg =>
    hM.block g (hD.sep.lt i g hg).2 (fun e => h0 (hD.sep.one i 0 g hg (by rw [e]; rfl))) (fun e => h.np i (e ▸ hg))
  refine ⟨{ b with v := v' }, h.step ?_ (fr_of hs hc) hL hok, ⟨rfl, rfl, fr_of hs hc, hM.os, hM.tape, hM.output, hM.size, fun g hg hp hn => hM.block g hg (fun e => hn 0 (by rw [e]; rfl)) hp⟩, rfl⟩
  refine ⟨⟨hD.ok.k64, hD.ok.inv, hD.ok.qi, hD.ok.ql, hD.ok.di, h1, h2, hD.ok.W, hD.ok.E, hD.ok.el, hD.ok.la, hD.ok.no⟩, hh, hD.roll.keep (hk 1 _ (by decide) rfl), hr, hD.qn, fun g hg => (hD.qm g hg).keep (hk 2 g (by decide) hg), hD.dn, fun g hg => (hD.dm g hg).keep (hk 3 g (by decide) hg), hD.ws.keep fun g hg _ => hk 5 g (by decide) hg, hD.es.keep fun g hg _ => hk 6 g (by decide) hg,
    hD.tab.keep (hM.block 1 hD.tab.lt (fun e => by have := hD.sep.lt 0 _ rfl; omega) (fun e => by have := h.low; have := h.lots.le; omega)), ?_⟩
  exact hD.sep.upd 4 hD.tab.lt hM.size hs (hc.imp id fun e g hg' => ⟨e g hg', (hg g hg').2⟩)
theorem Sx.setF (h : Sx k Bp p b d l w) {f' : Tab} (hR : Rl b.r k f' w') (hM : Ro.But w.heap.size b.r w w') (hI : Inv k f') : Sx k Bp p b { d with f := f' } l w' ∧ Stp p b w b w' := by
  have hD := h.dt
  have hk : ∀ i g, i ≠ 1 → b.own i = some g → w'.heap[g]? = w.heap[g]? := fun i g h0 hg =>
    hM.block g (hD.sep.lt i g hg).2 (fun e => h0 (hD.sep.one i 1 g hg (by rw [e]; rfl)))
  refine h.touch ?_ rfl rfl (fun i g hg => .inl ⟨i, hg⟩) hM.os hM.tape hM.output hM.size fun g hg hn => hM.block g hg (fun e => hn 1 (by rw [e]; rfl))
  exact ⟨⟨hD.ok.k64, hI, hD.ok.qi, hD.ok.ql, hD.ok.di, hD.ok.s1, hD.ok.s2, hD.ok.W, hD.ok.E, hD.ok.el, hD.ok.la, hD.ok.no⟩, (hk 0 _ (by decide) rfl).trans hD.heap, hR, hD.row.keep fun g hg _ => hk 4 g (by decide) hg, hD.qn, fun g hg => (hD.qm g hg).keep (hk 2 g (by decide) hg), hD.dn, fun g hg => (hD.dm g hg).keep (hk 3 g (by decide) hg), hD.ws.keep fun g hg _ => hk 5 g (by decide) hg, hD.es.keep fun g hg _ => hk 6 g (by decide) hg,
    hD.tab.keep (hM.block 1 hD.tab.lt (fun e => by have := hD.sep.lt 1 _ rfl; omega)), ⟨hD.sep.one, fun i g hg => by have := hD.sep.lt i g hg; have := hM.size; omega⟩⟩
theorem heap_put (hD : Dt k b d w) (j : Nat) (v : Value) : (w.setCell ⟨b.q, j, none⟩ v).heap[b.q]? = some (.cells ((b.cells d).setIfInBounds j v) 94 (0, 0)) := by
  simp [World.setCell, Array.getElem?_modify, hD.heap]
theorem Sx.setN (h : Sx k Bp p b d l w) (j : Nat) (v : Value) (hc : (b.cells d).setIfInBounds j v = b.cells d') (hok : d'.Ok k) (hf : d'.f = d.f) (hs : d'.s = d.s) (hQ : d'.Q = d.Q) (hDd : d'.D = d.D) (hW : d'.W = d.W) (hE : d'.E = d.E) :
    Sx k Bp p b d' l (w.setCell ⟨b.q, j, none⟩ v) ∧ Stp p b w b (w.setCell ⟨b.q, j, none⟩ v) := by
  have hD := h.dt
  have hb : ∀ g, g ≠ b.q → (w.setCell ⟨b.q, j, none⟩ v).heap[g]? = w.heap[g]? := fun g hg => Below.heap_setCell _ _ _ _ hg
  have hk : ∀ i g, i ≠ 0 → b.own i = some g → (w.setCell ⟨b.q, j, none⟩ v).heap[g]? = w.heap[g]? := fun i g h0 hg => hb g (fun e => h0 (hD.sep.one i 0 g hg (by rw [e]; rfl)))
  refine h.touch ?_ rfl rfl (fun i g hg => .inl ⟨i, hg⟩) rfl rfl rfl (by simp [World.setCell]) fun g hg hn => hb g (fun e => hn 0 (by rw [e]; rfl))
  refine ⟨hok, by rw [heap_put hD, hc], by rw [hf]; exact hD.roll.keep (hk 1 _ (by decide) rfl), by rw [hs]; exact hD.row.keep fun g hg _ => hk 4 g (by decide) hg, by rw [hQ]; exact hD.qn, by rw [hQ]; exact fun g hg => (hD.qm g hg).keep (hk 2 g (by decide) hg), by rw [hDd]; exact hD.dn, by rw [hDd]; exact fun g hg => (hD.dm g hg).keep (hk 3 g (by decide) hg), by rw [hW]; exact hD.ws.keep fun g hg _ => hk 5 g (by decide) hg, by rw [hE]; exact hD.es.keep fun g hg _ => hk 6 g (by decide) hg,
    hD.tab.keep (hb 1 (fun e => by have := hD.sep.lt 0 _ rfl; omega)), ⟨hD.sep.one, fun i g hg => by have := hD.sep.lt i g hg; simp [World.setCell]; omega⟩⟩
theorem Sx.setW (h : Sx k Bp p b d l w) {v' : Value} {W' : List Wch} (ho : OwE encW 133 0 v' W' w') (hg : w.grownBy w' b.vw.ownBlock) (hv : v'.ownBlock = b.vw.ownBlock ∨ ∀ g, v'.ownBlock = some g → w.heap.size ≤ g) (hW : ∀ x ∈ W', WchOk x) :
    Sx k Bp p { b with vw := v' } { d with W := W' } l (w'.setCell ⟨b.q, 4, none⟩ v') ∧ Stp p b w { b with vw := v' } (w'.setCell ⟨b.q, 4, none⟩ v') := by
  have hD := h.dt
  have hs : ∀ i, i ≠ 5 → Bl.own { b with vw := v' } i = b.own i := own_but 5 (fun _ => rfl) (fun _ => rfl) (fun _ => rfl) (fun _ => rfl) (fun _ => rfl) (fun e => absurd rfl e) (fun _ => rfl)
  have hc : Bl.own { b with vw := v' } 5 = b.own 5 ∨ ∀ g, Bl.own { b with vw := v' } 5 = some g → w.heap.size ≤ g := hv
  have hz : (w'.setCell ⟨b.q, 4, none⟩ v').heap.size = w'.heap.size := by simp [World.setCell]
  have hb : ∀ g, g < w.heap.size → g ≠ b.q → b.vw.ownBlock ≠ some g → (w'.setCell ⟨b.q, 4, none⟩ v').heap[g]? = w.heap[g]? := fun g h1 h2 h3 => (Below.heap_setCell _ _ _ _ h2).trans (hg.block g h1 (fun e => h3 e.symm))
  have hk : ∀ i g, i ≠ 0 → i ≠ 5 → b.own i = some g → (w'.setCell ⟨b.q, 4, none⟩ v').heap[g]? = w.heap[g]? := fun i g h0 h5 hg => hb g (hD.sep.lt i g hg).2 (fun e => h0 (hD.sep.one i 0 g hg (by rw [e]; rfl))) (fun e => h5 (hD.sep.one i 5 g hg e))
  have hq' : w'.heap[b.q]? = w.heap[b.q]? := hg.block b.q hD.qlt (fun e => by have := hD.sep.one 0 5 b.q rfl e.symm; omega)
  have hh : (w'.setCell ⟨b.q, 4, none⟩ v').heap[b.q]? = some (.cells (Bl.cells { b with vw := v' } { d with W := W' }) 94 (0, 0)) := by
    simp [World.setCell, Array.getElem?_modify, hq', hD.heap, Bl.cells]
  have hvq : ∀ g, v'.ownBlock = some g → g ≠ b.q := fun g e e' => by
    rcases hv with e2 | e2
    · rw [e2] at e; have := hD.sep.one 5 0 g e (by rw [e']; rfl); omega
    · have := e2 g e; have := hD.qlt; omega
  refine h.touch ?_ rfl rfl (fr_of hs hc) hg.os hg.tape hg.output (by rw [hz]; exact hg.size) fun g hg' hn => hb g hg' (fun e => hn 0 (by rw [e]; rfl)) (hn 5)
  refine ⟨⟨hD.ok.k64, hD.ok.inv, hD.ok.qi, hD.ok.ql, hD.ok.di, hD.ok.s1, hD.ok.s2, hW, hD.ok.E, hD.ok.el, hD.ok.la, hD.ok.no⟩, hh, hD.roll.keep (hk 1 _ (by decide) (by decide) rfl), hD.row.keep fun g hg _ => hk 4 g (by decide) (by decide) hg, hD.qn, fun g hg => (hD.qm g hg).keep (hk 2 g (by decide) (by decide) hg), hD.dn, fun g hg => (hD.dm g hg).keep (hk 3 g (by decide) (by decide) hg), ho.keep fun g hg' _ => Below.heap_setCell _ _ _ _ (hvq g hg'), hD.es.keep fun g hg _ => hk 6 g (by decide) (by decide) hg,
    hD.tab.keep (hb 1 hD.tab.lt (fun e => by have := hD.sep.lt 0 _ rfl; omega) (fun e => by have := hD.sep.lt 5 _ e; omega)), ?_⟩
  refine hD.sep.upd 5 hD.tab.lt (by rw [hz]; exact hg.size) hs (hc.imp id fun e g hg' => ⟨e g hg', ?_⟩)
  rw [hz]
  exact (ho.lt g hg').2
theorem Sx.setE (h : Sx k Bp p b d l w) {v' : Value} {E' : List Ern} (ho : OwE encE 112 0 v' E' w') (hg : w.grownBy w' b.ve.ownBlock) (hv : v'.ownBlock = b.ve.ownBlock ∨ ∀ g, v'.ownBlock = some g → w.heap.size ≤ g) (hE : ∀ x ∈ E', ErnOk x) (hel : E'.length ≤ 32) :
    Sx k Bp p { b with ve := v' } { d with E := E' } l (w'.setCell ⟨b.q, 5, none⟩ v') ∧ Stp p b w { b with ve := v' } (w'.setCell ⟨b.q, 5, none⟩ v') := by
  have hD := h.dt
  have hs : ∀ i, i ≠ 6 → Bl.own { b with ve := v' } i = b.own i := own_but 6 (fun _ => rfl) (fun _ => rfl) (fun _ => rfl) (fun _ => rfl) (fun _ => rfl) (fun _ => rfl) (fun e => absurd rfl e)
  have hc : Bl.own { b with ve := v' } 6 = b.own 6 ∨ ∀ g, Bl.own { b with ve := v' } 6 = some g → w.heap.size ≤ g := hv
  have hz : (w'.setCell ⟨b.q, 5, none⟩ v').heap.size = w'.heap.size := by simp [World.setCell]
  have hb : ∀ g, g < w.heap.size → g ≠ b.q → b.ve.ownBlock ≠ some g → (w'.setCell ⟨b.q, 5, none⟩ v').heap[g]? = w.heap[g]? := fun g h1 h2 h3 => (Below.heap_setCell _ _ _ _ h2).trans (hg.block g h1 (fun e => h3 e.symm))
  have hk : ∀ i g, i ≠ 0 → i ≠ 6 → b.own i = some g → (w'.setCell ⟨b.q, 5, none⟩ v').heap[g]? = w.heap[g]? := fun i g h0 h5 hg => hb g (hD.sep.lt i g hg).2 (fun e => h0 (hD.sep.one i 0 g hg (by rw [e]; rfl))) (fun e => h5 (hD.sep.one i 6 g hg e))
  have hq' : w'.heap[b.q]? = w.heap[b.q]? := hg.block b.q hD.qlt (fun e => by have := hD.sep.one 0 6 b.q rfl e.symm; omega)
  have hh : (w'.setCell ⟨b.q, 5, none⟩ v').heap[b.q]? = some (.cells (Bl.cells { b with ve := v' } { d with E := E' }) 94 (0, 0)) := by
    simp [World.setCell, Array.getElem?_modify, hq', hD.heap, Bl.cells]
  have hvq : ∀ g, v'.ownBlock = some g → g ≠ b.q := fun g e e' => by
    rcases hv with e2 | e2
    · rw [e2] at e; have := hD.sep.one 6 0 g e (by rw [e']; rfl); omega
    · have := e2 g e; have := hD.qlt; omega
  refine h.touch ?_ rfl rfl (fr_of hs hc) hg.os hg.tape hg.output (by rw [hz]; exact hg.size) fun g hg' hn => hb g hg' (fun e => hn 0 (by rw [e]; rfl)) (hn 6)
  refine ⟨⟨hD.ok.k64, hD.ok.inv, hD.ok.qi, hD.ok.ql, hD.ok.di, hD.ok.s1, hD.ok.s2, hD.ok.W, hE, hel, hD.ok.la, hD.ok.no⟩, hh, hD.roll.keep (hk 1 _ (by decide) (by decide) rfl), hD.row.keep fun g hg _ => hk 4 g (by decide) (by decide) hg, hD.qn, fun g hg => (hD.qm g hg).keep (hk 2 g (by decide) (by decide) hg), hD.dn, fun g hg => (hD.dm g hg).keep (hk 3 g (by decide) (by decide) hg), hD.ws.keep fun g hg _ => hk 5 g (by decide) (by decide) hg, ho.keep fun g hg' _ => Below.heap_setCell _ _ _ _ (hvq g hg'),
    hD.tab.keep (hb 1 hD.tab.lt (fun e => by have := hD.sep.lt 0 _ rfl; omega) (fun e => by have := hD.sep.lt 6 _ e; omega)), ?_⟩
  refine hD.sep.upd 6 hD.tab.lt (by rw [hz]; exact hg.size) hs (hc.imp id fun e g hg' => ⟨e g hg', ?_⟩)
  rw [hz]
  exact (ho.lt g hg').2
theorem Sx.setL (h : Sx k Bp p b d l w) (hL : Rn.Lt Bp p l' w') (hB : Rn.But w.heap.size p w w') (hok : Rn.Ok l') : Sx k Bp p b d l' w' ∧ Stp p b w b w' :=
  ⟨⟨h.dt.keep hB.size (fun i g hg => hB.block g (h.dt.sep.lt i g hg).2 (fun e => h.np i (e ▸ hg))) (hB.block 1 h.dt.tab.lt (fun e => by have := h.low; have := h.lots.le; omega)), hL, hok, h.out, h.low⟩,
    ⟨rfl, rfl, fun i _ hg => .inl ⟨i, hg⟩, hB.os, hB.tape, hB.output, hB.size, fun g hg hp _ => hB.block g hg hp⟩⟩
end
theorem run_node (n i s : Int) (w : World) : (Instr.field 39 (.agg #[.int .i64 n, .int .u64 i, .int .i64 s]) 0).run Tryz.prog w = .ok (.int .i64 n) w := by simp [Instr.field, go_sem, asAgg]
theorem below_alloc (w : World) (o : Obj) : Below w.heap.size w (w.alloc o) := (Below.refl _ _).alloc (Nat.le_refl _) _
theorem bA {a w : World} (h : Below a.heap.size a w) (o : Obj) : Below a.heap.size a (w.alloc o) := h.alloc h.size o
theorem bD {a w : World} (h : Below a.heap.size a w) : Below a.heap.size a w.drew := Below.drew' h
theorem bT {a w w' : World} (h : Below a.heap.size a w) (k : Below w.heap.size w w') : Below a.heap.size a w' := h.trans (k.mono h.size)
theorem bS3 {a w : World} {g : Nat} (h : Below a.heap.size a w) (hg : a.heap.size ≤ g) (x y z : Value) : Below a.heap.size a (((w.setCell ⟨g, 0, none⟩ x).setCell ⟨g, 1, none⟩ y).setCell ⟨g, 2, none⟩ z) := below_set3 h hg x y z
section
variable {k Bp p : Nat} {b : Bl} {d : Det} {l : List Int} {w : World}
theorem Det.Ok.me (h : d.Ok k) : (ud (d.f k)).n = k := by
  obtain ⟨i, hi⟩ := h.inv.mine
  rw [hi]; rfl
theorem Det.Ok.mi (h : d.Ok k) : U64 (ud (d.f k)).i := by
  obtain ⟨i, hi⟩ := h.inv.mine
  have := (h.inv.may k _ hi).2.2
  rw [hi]; exact this
theorem me_any (h : Sx k Bp p b d l w) : Calls Tryz.prog 44 #[.pointer (some ⟨b.q, 0, none⟩)] w fun e w' => e = .returned (.int .i64 k) ∧ Below w.heap.size w w' := by
  have hc := h.dt.c0
  have hm := mine_any b.r k d.f h.dt.ok.k64 w h.dt.roll
  have hfd := run_node (ud (d.f k)).n (ud (d.f k)).i (ud (d.f k)).s
  rw [h.dt.ok.me] at hm hfd
  go_enter Tryz.func44, Tryz.ntmps44
  go_wp2_with fail
  refine hm.mono ?_
  rintro e w1 ⟨rfl, hb⟩
  go_wp2_with fail
  go_ret
  exact ⟨rfl, hb⟩
theorem live_any (h : Sx k Bp p b d l w) : Calls Tryz.prog 27 #[.pointer (some ⟨b.q, 0, none⟩)] w fun e w' => e = .returned (.int .u64 d.live) ∧ Below w.heap.size w w' := by
  have hc := h.dt.c0
  have hm := rlive_any b.r k d.f w h.dt.roll
  unfold Det.live
  go_enter Tryz.func27, Tryz.ntmps27
  go_wp2_with fail
  refine hm.mono ?_
  rintro e w1 ⟨rfl, hb⟩
  go_wp2_with fail
  go_ret
  exact ⟨rfl, hb⟩
theorem dall_any (h : Sx k Bp p b d l w) : Calls Tryz.prog 28 #[.pointer (some ⟨b.q, 0, none⟩)] w fun e w' => (∃ v, e = .returned v ∧ Ro.Own w.heap.size v (allS d.f) w') ∧ Below w.heap.size w w' := by
  have hc := h.dt.c0
  have hm := all_any b.r k d.f w h.dt.roll
  go_enter Tryz.func28, Tryz.ntmps28
  go_wp2_with fail
  refine hm.mono ?_
  rintro e w1 ⟨⟨v, rfl, ho⟩, hb⟩
  obtain ⟨a, cap, rfl⟩ : ∃ a cap, v = .slice a (allS d.f).length cap := by
    obtain ⟨a, cap, e, _⟩ := ho.ru
    exact ⟨a, cap, e⟩
  go_wp2_with fail
  go_ret
  exact ⟨⟨_, rfl, ho⟩, hb⟩
theorem now_any (h : Sx k Bp p b d l w) : Calls Tryz.prog 59 #[.pointer (some ⟨b.q, 0, none⟩)] w fun e w' => e = .returned (.int .u64 d.no) ∧ w' = w := by
  have hc := h.dt.c7
  go_enter Tryz.func59, Tryz.ntmps59
  go_wp2_with fail
  go_ret
  exact ⟨rfl, rfl⟩
theorem many_any (h : Sx k Bp p b d l w) : Calls Tryz.prog 129 #[.pointer (some ⟨b.q, 0, none⟩)] w fun e w' => e = .returned (.int .i64 d.many) ∧ Below w.heap.size w w' := by
  have hm := live_any h
  unfold Det.many
  have hlt : d.live < Bnd.lim := bandS_lt _
  generalize d.live = x at *
  go_enter Tryz.func129, Tryz.ntmps129
  go_wp2_with fail
  refine hm.mono ?_
  rintro e w1 ⟨rfl, hb⟩
  go_wp2_with fail
  refine (Bnd.many_any x hlt w1).mono ?_
  rintro e w2 ⟨rfl, rfl⟩
  go_wp2_with fail
  go_ret
  exact ⟨rfl, hb⟩
theorem many_range (d : Det) : 0 ≤ d.many ∧ d.many ≤ 64 := by
  have := Bnd.many_le d.live
  unfold Det.many
  omega
theorem isnode_any (n : Int) (w : World) : Calls Tryz.prog 100 #[.int .i64 n] w fun e w' => e = .returned (.bool (nodeB n)) ∧ w' = w := by
  unfold nodeB
  go_enter Tryz.func100, Tryz.ntmps100
  by_cases h : 0 ≤ n
  · go_wp2_with fail
    go_ret
    exact ⟨by simp [h], rfl⟩
  · go_wp2_with fail
    go_ret
    exact ⟨by simp; omega, rfl⟩
theorem leave_any (h : Sx k Bp p b d l w) : Calls Tryz.prog 19 #[.pointer (some ⟨b.q, 0, none⟩)] w fun e w' => e = .returned (.int .i64 (if d.le = true then 5 else 0)) ∧ Sx k Bp p b { d with le := true } l w' ∧ Stp p b w b w' := by
  have hc := h.dt.c8
  have hf := h.dt.free 8
  have hok := h.dt.ok
  obtain ⟨h1, h2⟩ := h.setN (d' := { d with le := true }) 8 (.bool true) rfl ⟨hok.k64, hok.inv, hok.qi, hok.ql, hok.di, hok.s1, hok.s2, hok.W, hok.E, hok.el, hok.la, hok.no⟩ rfl rfl rfl rfl rfl rfl
  cases hle : d.le
  case true =>
    have e : ({ d with le := true } : Det) = d := by rw [← hle]
    rw [hle] at hc
    go_enter Tryz.func19, Tryz.ntmps19
    go_wp2_with fail
    go_ret
    exact ⟨rfl, by assumption, Stp.refl _ _ _⟩
  case false =>
    rw [hle] at hc
    go_enter Tryz.func19, Tryz.ntmps19
    go_wp2_with fail
    go_ret
    exact ⟨rfl, h1, h2⟩
end
section
variable {k Bp p : Nat} {b : Bl} {d : Det} {l : List Int} {w : World}
set_option maxRecDepth 100000 in
set_option maxHeartbeats 1000000 in
theorem suspect_any (h : Sx k Bp p b d l w) (u : Upd) (from_ : Int) (hu : U64 u.i) : Calls Tryz.prog 86 #[.pointer (some ⟨b.q, 0, none⟩), .agg #[.int .i64 u.n, .int .u64 u.i, .int .i64 u.s], .int .i64 from_] w fun e w' => e = .returned (.tuple #[]) ∧ ∃ b', Sx k Bp p b' (d.susp u from_) l w' ∧ Stp p b w b' w' ∧ b'.vw = b.vw := by
  have ba := below_alloc w (.cells #[.int .i64 u.n, .int .u64 u.i, .int .i64 u.s] 39)
  have hX := Bx.new 39 u.n u.i u.s w
  have h1 := h.below ba
  obtain ⟨w1, HW1⟩ : ∃ w1, Hid (w1 = w.alloc (.cells #[.int .i64 u.n, .int .u64 u.i, .int .i64 u.s] 39)) := ⟨_, rfl⟩
  rw [← HW1.out] at ba hX h1
  have x0 := hX.c0
  have x1 := hX.c1
  have x2 := hX.c2
  have c7 := h1.dt.c7
  have HB : Hid (two < 2 ^ 64) := by unfold Hid; decide
  have hno := h.dt.ok.no
  have hmr := many_range d
  unfold Det.susp
  have hr := fun w' hQ => Do.raise_any (X := b.xd d) b.q b.md d.D u.n u.i u.s from_ d.no d.many two hu hno HB (by omega) w' hQ
  generalize Do.raiseS d.D u.n u.i u.s from_ d.no d.many two = R at *
  have hm := fun w' (h' : Sx k Bp p b d l w') => many_any h'
  clear HB hmr
  generalize d.many = nd at *
  go_enter Tryz.func86, Tryz.ntmps86
  go_upto_region 1 with fail
  rw [← HW1.out]
  go_region_with (first
    | (go_at_call 129; refine (hm _ (by first | exact h1.drew | exact h1)).mono ?_; rintro e w2 ⟨rfl, hb2⟩; have h2 := h1.drew.below hb2; have hX2 := hX.drew.below hb2; have x0 := hX2.c0; have x1 := hX2.c1; have x2 := hX2.c2; have c7 := h2.dt.c7)
    | (go_at_call 128; refine (hr _ h2.dt.du).mono ?_; rintro e w3 ⟨rfl, m', hQ3, hM3⟩))
  all_goals
    go_wp2_with fail
    go_end0
    obtain ⟨a1, a2⟩ := h2.setD hQ3 hM3
    exact ⟨rfl, _, a1, ((Stp.of ba).drew.then hb2).trans a2, rfl⟩
set_option maxRecDepth 100000 in
set_option maxHeartbeats 1000000 in
theorem knows_any (h : Sx k Bp p b d l w) (u : Upd) : Calls Tryz.prog 85 #[.pointer (some ⟨b.q, 0, none⟩), .agg #[.int .i64 u.n, .int .u64 u.i, .int .i64 u.s]] w fun e w' => e = .returned (.bool (d.knows u)) ∧ Below w.heap.size w w' := by
  have ba := below_alloc w (.cells #[.int .i64 u.n, .int .u64 u.i, .int .i64 u.s] 39)
  have hX := Bx.new 39 u.n u.i u.s w
  have h1 := h.below ba
  obtain ⟨w1, HW1⟩ : ∃ w1, Hid (w1 = w.alloc (.cells #[.int .i64 u.n, .int .u64 u.i, .int .i64 u.s] 39)) := ⟨_, rfl⟩
  rw [← HW1.out] at ba hX h1
  have x0 := hX.c0
  have x1 := hX.c1
  have x2 := hX.c2
  have c0 := h1.dt.c0
  have hg := fun w' hR => get_any b.r k u.n d.f w' hR
  have hE := run_eqlU (ud (getS d.f u.n)) u
  obtain ⟨r, HR⟩ : ∃ r, Hid (d.knows u = r) := ⟨_, rfl⟩
  rw [HR.out]
  have hkn : r = ((getS d.f u.n).isSome && eqU (ud (getS d.f u.n)) u) := HR.out.symm
  generalize (getS d.f u.n).isSome = sm at *
  generalize eqU (ud (getS d.f u.n)) u = eq at *
  generalize ud (getS d.f u.n) = y at *
  subst hkn
  have hsz : Hid (w.heap.size < w1.heap.size) := hX.lt
  have hold : ∀ w', Below w1.heap.size w1 w' → Below w1.heap.size w1 w' ∧ w'.cell? ⟨b.q, 0, none⟩ = some (.pointer (some ⟨b.r, 0, none⟩)) ∧ w'.cell? ⟨w.heap.size, 0, none⟩ = some (.int .i64 u.n) := fun w' hb => ⟨hb, (h1.below hb).dt.c0, (hX.below hb).c0⟩
  have hB0 : Below w1.heap.size w1 w1 := Below.refl _ _
  have hB1 : Below w1.heap.size w1 w1.drew := bD hB0
  cases sm <;> cases eq
  all_goals
    go_enter Tryz.func85, Tryz.ntmps85
    go_upto_region 1 with fail
    rw [← HW1.out]
    go_region_held3 (fun w' => Below w1.heap.size w1 w' ∧ w'.cell? ⟨b.q, 0, none⟩ = some (.pointer (some ⟨b.r, 0, none⟩)) ∧ w'.cell? ⟨w.heap.size, 0, none⟩ = some (.int .i64 u.n)) ((refine hold _ ?_; (first | assumption | (refine bD (bA ?_ _); assumption) | (refine bA ?_ _; assumption) | (refine bS3 ?_ (Nat.le_refl _) _ _ _; assumption) | (refine bS3 (bA ?_ _) (Below.size (by assumption)) _ _ _; assumption)))) ((first
      | (go_at_call 102; refine (hg _ (by first | exact (h1.below hB1).dt.roll | exact (h1.below (bD (bA hB0 _))).dt.roll)).mono ?_; rintro e w2 ⟨rfl, hb2⟩; (first | have hB2 := bT hB1 hb2 | (have hB2 := bT (bD (bA hB0 _)) hb2; have hC := (Bx.new 39 0 0 0 w1).drew.below hb2; have z0 := hC.c0; have z1 := hC.c1; have z2 := hC.c2; have f0 := hC.free 0; have f1 := hC.free 1; have f2 := hC.free 2)))))
  all_goals
    rename_i hH
    obtain ⟨hB3, _, _⟩ := hH
    have hX3 := hX.below hB3
    have v0 := hX3.c0
    have v1 := hX3.c1
    have v2 := hX3.c2
    (first | have hY := hC.set y.n y.i y.s | have hY := Bx.new 39 y.n y.i y.s w2)
    have y0 := hY.c0
    have y1 := hY.c1
    have y2 := hY.c2
    go_wp2_with fail
    go_ret
    exact ⟨rfl, ba.trans (hB3.mono ba.size)⟩
end
theorem bx_stp {T : TypeId} {g : Nat} {n i s : Int} {p : Nat} {b b' : Bl} {w w' : World} (hX : Bx T g n i s w) (hA : Away p b w g) (hS : Stp p b w b' w') : Bx T g n i s w' := hX.keep (hS.keep hA)
theorem Away.drew {p : Nat} {b : Bl} {w : World} {g : Nat} (h : Away p b w g) : Away p b w.drew g := ⟨h.lt, h.p, h.own⟩
theorem wf_of {x : Int} (h : Nd x) : (Lit.int .i64 x).wf = true := Do.wf_node h.1 h.2
theorem join_perm {s : List Int} {x : Int} (l : List Int) (h : x ∉ s) : (Rn.joinS s x l).1.Perm (x :: s) := by
  unfold Rn.joinS
  rw [if_neg h]
  refine List.perm_middle.trans ?_
  rw [List.take_append_drop]
theorem join_nodup {s : List Int} (hs : s.Nodup) (x : Int) (l : List Int) : (Rn.joinS s x l).1.Nodup := by
  by_cases h : x ∈ s
  · unfold Rn.joinS; rw [if_pos h]; exact hs
  · exact ((join_perm l h).nodup_iff).2 (List.nodup_cons.2 ⟨h, hs⟩)
theorem join_range {s : List Int} (hs : ∀ y ∈ s, Nd y) {x : Int} (hx : Nd x) (l : List Int) : ∀ y ∈ (Rn.joinS s x l).1, Nd y := by
  by_cases h : x ∈ s
  · unfold Rn.joinS; rw [if_pos h]; exact hs
  · intro y hy
    rcases List.mem_cons.1 ((join_perm l h).mem_iff.1 hy) with e | e
    · rw [e]; exact hx
    · exact hs y e
section
variable {k Bp p : Nat} {b : Bl} {d : Det} {l : List Int} {w : World}
theorem rput_any (h : Sx k Bp p b d l w) (u : Upd) (hu : U64 u.i) : Calls Tryz.prog 32 #[.pointer (some ⟨b.q, 2, none⟩), .agg #[.int .i64 u.n, .int .u64 u.i, .int .i64 u.s]] w fun e w' => (∃ z, e = .returned (.int .i64 z)) ∧ ∃ b', Sx k Bp p b' (d.tell u) l w' ∧ Stp p b w b' w' ∧ b'.vw = b.vw :=
  (Ru.put_any (X := b.xq d) b.q b.mq d.Q h.dt.ok.ql u.n u.i u.s hu w h.dt.qu).mono fun _ _ ⟨he, _, hQ, hM⟩ => ⟨⟨_, he⟩, _, (h.setQ hQ hM (Ru.putQ_length h.dt.ok.ql _)).1, (h.setQ hQ hM (Ru.putQ_length h.dt.ok.ql _)).2, rfl⟩
theorem rdrop_any (h : Sx k Bp p b d l w) (n : Int) (hn : Nd n) : Calls Tryz.prog 81 #[.pointer (some ⟨b.q, 3, none⟩), .int .i64 n] w fun e w' => (∃ z, e = .returned (.bool z)) ∧ ∃ b', Sx k Bp p b' { d with D := Do.lessD d.D n } l w' ∧ Stp p b w b' w' ∧ b'.vw = b.vw :=
  (Do.drop_any (X := b.xd d) b.q b.md d.D n (wf_of hn) w h.dt.du).mono fun _ _ ⟨he, hQ, hM⟩ => ⟨⟨_, he⟩, _, (h.setD hQ hM).1, (h.setD hQ hM).2, rfl⟩
theorem djoin_any (h : Sx k Bp p b d l w) (n : Int) (hn : Nd n) : Calls Tryz.prog 127 #[.pointer (some ⟨b.q, 1, none⟩), .int .i64 n, .pointer (some ⟨p, 0, none⟩)] w fun e w' => e = .returned (.tuple #[]) ∧ ∃ b', Sx k Bp p b' { d with s := (Rn.joinS d.s n l).1 } (Rn.joinS d.s n l).2 w' ∧ Stp p b w b' w' ∧ b'.vw = b.vw :=
  (Rn.rjoin_any (X := b.xs d) (G := b.rows w) Bp b.q p d.s l n w (by have := h.dt.ok.sl; omega) h.dt.rn h.lots h.lok h.qout h.norow).mono fun _ _ ⟨he, hR, hL, hM⟩ => ⟨he, h.setS hR hL hM (Rn.joinS_ok _ _ h.lok) (join_nodup h.dt.ok.s1 _ _) (join_range h.dt.ok.s2 hn _)⟩
set_option maxRecDepth 100000 in
set_option maxHeartbeats 1000000 in
theorem learn_any (h : Sx k Bp p b d l w) (u : Upd) (from_ : Int) (was : Bool) (hn : Nd u.n) (hu : U64 u.i) :
    Calls Tryz.prog 84 #[.pointer (some ⟨b.q, 0, none⟩), .agg #[.int .i64 u.n, .int .u64 u.i, .int .i64 u.s], .int .i64 from_, .bool was, .pointer (some ⟨p, 0, none⟩)] w fun e w' => e = .returned (.tuple #[]) ∧ ∃ b', Sx k Bp p b' (d.learn u from_ was l).1 (d.learn u from_ was l).2 w' ∧ Stp p b w b' w' ∧ b'.vw = b.vw := by
  have ba := below_alloc w (.cells #[.int .i64 u.n, .int .u64 u.i, .int .i64 u.s] 39)
  have hX := Bx.new 39 u.n u.i u.s w
  have h1 := h.below ba
  have hA1 := h.away (w' := w.alloc (.cells #[.int .i64 u.n, .int .u64 u.i, .int .i64 u.s] 39)) (Nat.le_refl _) hX.lt
  obtain ⟨w1, HW1⟩ : ∃ w1, Hid (w1 = w.alloc (.cells #[.int .i64 u.n, .int .u64 u.i, .int .i64 u.s] 39)) := ⟨_, rfl⟩
  rw [← HW1.out] at ba hX h1 hA1
  have x0 := hX.c0
  have x1 := hX.c1
  have x2 := hX.c2
  obtain ⟨R, HR⟩ : ∃ R, Hid (d.learn u from_ was l = R) := ⟨_, rfl⟩
  rw [HR.out]
  cases hs1 : (u.s == 1)
  case true =>
    have e1 : u.s = 1 := by simpa using hs1
    obtain rfl : R = ((d.tell u).susp u from_, l) := by rw [← HR.out]; unfold Det.learn; rw [if_pos e1]
    clear e1
    go_enter Tryz.func84, Tryz.ntmps84
    go_upto_region 1 with fail
    rw [← HW1.out]
    go_region_with (go_at_call 32; refine (rput_any h1.drew u hu).mono ?_; rintro e w2 ⟨⟨z, rfl⟩, b2, h2, s2, u2⟩)
    have hX2 := bx_stp hX.drew hA1.drew s2
    clear x0 x1 x2
    have x0 := hX2.c0
    have x1 := hX2.c1
    have x2 := hX2.c2
    have hq : b2.q = b.q := s2.q
    have hsus := suspect_any h2 u from_ hu
    rw [hq] at hsus
    go_wp2_with fail
    refine hsus.mono ?_
    rintro e w3 ⟨rfl, b3, h3, s3, u3⟩
    go_wp2_with fail
    refine bodyPost_ret (results_none rfl _ _ _) rfl ?_
    exact ⟨rfl, b3, h3, ((Stp.of ba).drew.trans s2).trans s3, u3.trans u2⟩
  case false =>
    have e1 : ¬ u.s = 1 := by simpa using hs1
    have HR' : Hid (R = if u.s = 0 ∧ was = false then ({ d.tell u with D := Do.lessD d.D u.n, s := (Rn.joinS d.s u.n l).1 }, (Rn.joinS d.s u.n l).2) else ({ d.tell u with D := Do.lessD d.D u.n }, l)) := by
      show _ = _
      rw [← HR.out]; unfold Det.learn; rw [if_neg e1]
    clear e1
    cases hs0 : (u.s == 0) <;> cases was
    all_goals
      have hs0' : Hid ((u.s == 0) = _) := hs0
      go_enter Tryz.func84, Tryz.ntmps84
      go_upto_region 1 with fail
      rw [← HW1.out]
      go_region_with (go_at_call 32; refine (rput_any h1.drew u hu).mono ?_; rintro e w2 ⟨⟨z, rfl⟩, b2, h2, s2, u2⟩)
      have hX2 := bx_stp hX.drew hA1.drew s2
      have hA2 := hA1.drew.stp s2
      clear x0 x1 x2
      have x0 := hX2.c0
      have x1 := hX2.c1
      have x2 := hX2.c2
      have hq : b2.q = b.q := s2.q
      go_wp2_with fail
      go_region_with (go_at_call 81; rw [← hq]; refine (rdrop_any h2.drew u.n hn).mono ?_; rintro e w3 ⟨⟨z, rfl⟩, b3, h3, s3, u3⟩)
      have hX3 := bx_stp hX2.drew hA2.drew s3
      clear x0 x1 x2
      have x0 := hX3.c0
      have x1 := hX3.c1
      have x2 := hX3.c2
      have hq3 : b3.q = b.q := s3.q.trans hq
      have S3 : Stp p b w b3 w3 := ((Stp.of ba).drew.trans s2).drew.trans s3
      go_wp2_with fail
    · go_end0
      rw [HR'.out, if_neg (by have := hs0'.out; simp at this; simp [this])]
      exact ⟨rfl, b3, h3, S3, u3.trans u2⟩
    · go_end0
      rw [HR'.out, if_neg (by simp)]
      exact ⟨rfl, b3, h3, S3, u3.trans u2⟩
    · go_region_with (go_at_call 127; rw [← hq3]; refine (djoin_any h3.drew u.n hn).mono ?_; rintro e w4 ⟨rfl, b4, h4, s4, u4⟩)
      go_wp2_with fail
      go_end0
      rw [HR'.out, if_pos (by have := hs0'.out; simp at this; simp [this])]
      exact ⟨rfl, b4, h4, S3.drew.trans s4, u4.trans (u3.trans u2)⟩
    · go_end0
      rw [HR'.out, if_neg (by simp)]
      exact ⟨rfl, b3, h3, S3, u3.trans u2⟩
end
theorem hear_took {k : Nat} {f : Tab} {u : Upd} (h : (hearS k f u).1.1 = true) : Nd u.n := by
  cases hm : mayU u
  · rw [hear_not k f hm] at h; cases h
  · have := (may_iff u).1 hm
    exact ⟨this.1, this.2.1⟩
section
variable {k Bp p : Nat} {b : Bl} {d : Det} {l : List Int} {w : World}
theorem rhear_any (h : Sx k Bp p b d l w) (u : Upd) (hu : U64 u.i) : Calls Tryz.prog 83 #[.pointer (some ⟨b.r, 0, none⟩), .agg #[.int .i64 u.n, .int .u64 u.i, .int .i64 u.s]] w fun e w' => e = .returned (.tuple #[.bool (hearS k d.f u).1.1, .int .i64 (hearS k d.f u).1.2]) ∧ Sx k Bp p b { d with f := (hearS k d.f u).2 } l w' ∧ Stp p b w b w' :=
  (hear_any b.r k d.f u h.dt.ok.k64 hu.1 hu.2 w h.dt.roll).mono fun _ _ ⟨he, hR, hB⟩ => ⟨he, h.setF hR hB (hear_inv h.dt.ok.inv hu)⟩
theorem rmine_any (h : Sx k Bp p b d l w) : Calls Tryz.prog 33 #[.pointer (some ⟨b.r, 0, none⟩)] w fun e w' => e = .returned (.agg #[.int .i64 (ud (d.f k)).n, .int .u64 (ud (d.f k)).i, .int .i64 (ud (d.f k)).s]) ∧ Below w.heap.size w w' := mine_any b.r k d.f h.dt.ok.k64 w h.dt.roll
structure Jx (k Bp p : Nat) (b : Bl) (d : Det) (l : List Int) (g : Nat) (u : Upd) (w0 w : World) : Prop where
  st : Sx k Bp p b d l w
  box : Bx 39 g u.n u.i u.s w
  below : Below w0.heap.size w0 w
theorem Jx.later {g : Nat} {u : Upd} {w0 w' : World} (h : Jx k Bp p b d l g u w0 w) (hb : Below w.heap.size w w') : Jx k Bp p b d l g u w0 w' := ⟨h.st.below hb, h.box.below hb, bT h.below hb⟩
theorem Jx.drew {g : Nat} {u : Upd} {w0 : World} (h : Jx k Bp p b d l g u w0 w) : Jx k Bp p b d l g u w0 w.drew := ⟨h.st.drew, h.box.drew, bD h.below⟩
theorem Jx.on {g : Nat} {u : Upd} {w0 w' : World} {x : Kept (Jx k Bp p b d l g u w0)} (hb : Below x.at_.heap.size x.at_ w') : ∃ y : Kept (Jx k Bp p b d l g u w0), w' = y.at_ := ⟨⟨w', x.is.later hb⟩, rfl⟩
theorem Jx.st' {g : Nat} {u : Upd} {w0 : World} {x : Kept (Jx k Bp p b d l g u w0)} : Sx k Bp p b d l x.at_ := x.is.st
set_option maxRecDepth 100000 in
set_option maxHeartbeats 4000000 in
theorem takein_any (h : Sx k Bp p b d l w) (u : Upd) (from_ : Int) (hu : U64 u.i) :
    Calls Tryz.prog 43 #[.pointer (some ⟨b.q, 0, none⟩), .agg #[.int .i64 u.n, .int .u64 u.i, .int .i64 u.s], .int .i64 from_, .pointer (some ⟨p, 0, none⟩)] w fun e w' => e = .returned (.int .i64 (d.take k u from_ l).1) ∧ ∃ b', Sx k Bp p b' (d.take k u from_ l).2.1 (d.take k u from_ l).2.2 w' ∧ Stp p b w b' w' ∧ b'.vw = b.vw := by
  have ba := below_alloc w (.cells #[.int .i64 u.n, .int .u64 u.i, .int .i64 u.s] 39)
  have hX := Bx.new 39 u.n u.i u.s w
  have h1 := h.below ba
  have hA1 := h.away (w' := w.alloc (.cells #[.int .i64 u.n, .int .u64 u.i, .int .i64 u.s] 39)) (Nat.le_refl _) hX.lt
  obtain ⟨w1, HW1⟩ : ∃ w1, Hid (w1 = w.alloc (.cells #[.int .i64 u.n, .int .u64 u.i, .int .i64 u.s] 39)) := ⟨_, rfl⟩
  rw [← HW1.out] at ba hX h1 hA1
  have x0 := hX.c0
  have x1 := hX.c1
  have x2 := hX.c2
  have hlim : d.live < Bnd.lim := bandS_lt _
  have htk := hear_took (k := k) (f := d.f) (u := u)
  have hhr := fun w' (h' : Sx k Bp p b d l w') => rhear_any h' u hu
  have hJ : Jx k Bp p b d l w.heap.size u w1 w1 := ⟨h1, hX, Below.refl _ _⟩
  have hne : Nonempty (Kept (Jx k Bp p b d l w.heap.size u w1)) := ⟨⟨_, hJ⟩⟩
  have k0 : ∀ x : Kept (Jx k Bp p b d l w.heap.size u w1), x.at_.cell? ⟨w.heap.size, 0, none⟩ = some (.int .i64 u.n) := fun x => x.is.box.c0
  obtain ⟨R, HR⟩ : ∃ R, Hid (d.take k u from_ l = R) := ⟨_, rfl⟩
  rw [HR.out]
  have HR' : Hid (R = _) := HR.out.symm
  unfold Det.take at HR'
  clear HR
  have hlv := fun w' (h' : Sx k Bp p b d l w') => live_any h'
  have hhas := fun w' => Bnd.has_any d.live hlim u.n w'
  clear hlim
  generalize Bnd.hasS d.live u.n = was at *
  generalize d.live = lv at *
  generalize hearS k d.f u = r at *
  obtain ⟨⟨tk, z⟩, f'⟩ := r
  dsimp only at htk hhr HR'
  cases hz1 : (z == 1)
  case true =>
    obtain rfl : z = 1 := by simpa using hz1
    rw [if_pos (Or.inl rfl)] at HR'
    clear htk hz1
    go_enter Tryz.func43, Tryz.ntmps43
    go_upto_region 1 with fail
    rw [← HW1.out]
    refine wp_region_kept (Jx k Bp p b d l w.heap.size u w1) (by kernel_rfl) (by kernel_rfl) hJ.drew ?_
    repeat (go_big_quiet_step (first
      | (refine (hlv _ Jx.st').mono ?_; rintro e w4 ⟨rfl, hb4⟩; exact ⟨rfl, Jx.on hb4⟩)
      | (refine (hhas _).mono ?_; rintro e w4 ⟨rfl, hw4⟩; exact ⟨rfl, _, hw4⟩)))
    refine wpQuiet_nil ?_
    intro w2 hJ2
    have h2 := hJ2.st
    have hX2 := hJ2.box
    have hb2 := hJ2.below
    have x0 := hX2.c0
    have x1 := hX2.c1
    have x2 := hX2.c2
    have hA2 := hA1.stp (Stp.of hb2)
    have c0 := h2.dt.c0
    go_wp2_with fail
    have hS2 := And.intro c0 (And.intro x0 (And.intro x1 x2))
    go_region_held3 (fun w' => w'.cell? ⟨b.q, 0, none⟩ = some (.pointer (some ⟨b.r, 0, none⟩)) ∧ w'.cell? ⟨w.heap.size, 0, none⟩ = some (.int .i64 u.n) ∧ w'.cell? ⟨w.heap.size, 1, none⟩ = some (.int .u64 u.i) ∧ w'.cell? ⟨w.heap.size, 2, none⟩ = some (.int .i64 u.s)) (first | exact hS2 | exact hS3) ((first
      | (go_at_call 83; refine (hhr _ h2.drew).mono ?_; rintro e w3 ⟨rfl, h3, s3⟩; have hX3 := bx_stp hX2.drew hA2.drew s3; have hS3 := And.intro h3.dt.c0 (And.intro hX3.c0 (And.intro hX3.c1 hX3.c2)))))
    clear x0 x1 x2 c0
    have x0 := hX3.c0
    have x1 := hX3.c1
    have x2 := hX3.c2
    have c0 := h3.dt.c0
    have S3 : Stp p b w b w3 := ((Stp.of ba).then hb2).drew.trans s3
    clear h1 h2 hX hX2 hA1 hA2 hb2 s3 ba hJ hJ2 hne k0 hS2 hS3
    go_wp2_with fail
    go_ret
    rw [HR'.out]
    exact ⟨rfl, b, h3, S3, rfl⟩
  case false =>
  cases hz60 : (z == 60)
  case true =>
    obtain rfl : z = 60 := by simpa using hz60
    rw [if_pos (Or.inr rfl)] at HR'
    clear htk hz60 hz1
    go_enter Tryz.func43, Tryz.ntmps43
    go_upto_region 1 with fail
    rw [← HW1.out]
    refine wp_region_kept (Jx k Bp p b d l w.heap.size u w1) (by kernel_rfl) (by kernel_rfl) hJ.drew ?_
    repeat (go_big_quiet_step (first
      | (refine (hlv _ Jx.st').mono ?_; rintro e w4 ⟨rfl, hb4⟩; exact ⟨rfl, Jx.on hb4⟩)
      | (refine (hhas _).mono ?_; rintro e w4 ⟨rfl, hw4⟩; exact ⟨rfl, _, hw4⟩)))
    refine wpQuiet_nil ?_
    intro w2 hJ2
    have h2 := hJ2.st
    have hX2 := hJ2.box
    have hb2 := hJ2.below
    have x0 := hX2.c0
    have x1 := hX2.c1
    have x2 := hX2.c2
    have hA2 := hA1.stp (Stp.of hb2)
    have c0 := h2.dt.c0
    go_wp2_with fail
    have hS2 := And.intro c0 (And.intro x0 (And.intro x1 x2))
    go_region_held3 (fun w' => w'.cell? ⟨b.q, 0, none⟩ = some (.pointer (some ⟨b.r, 0, none⟩)) ∧ w'.cell? ⟨w.heap.size, 0, none⟩ = some (.int .i64 u.n) ∧ w'.cell? ⟨w.heap.size, 1, none⟩ = some (.int .u64 u.i) ∧ w'.cell? ⟨w.heap.size, 2, none⟩ = some (.int .i64 u.s)) (first | exact hS2 | exact hS3) ((first
      | (go_at_call 83; refine (hhr _ h2.drew).mono ?_; rintro e w3 ⟨rfl, h3, s3⟩; have hX3 := bx_stp hX2.drew hA2.drew s3; have hS3 := And.intro h3.dt.c0 (And.intro hX3.c0 (And.intro hX3.c1 hX3.c2)))))
    clear x0 x1 x2 c0
    have x0 := hX3.c0
    have x1 := hX3.c1
    have x2 := hX3.c2
    have c0 := h3.dt.c0
    have S3 : Stp p b w b w3 := ((Stp.of ba).then hb2).drew.trans s3
    clear h1 h2 hX hX2 hA1 hA2 hb2 s3 ba hJ hJ2 hne k0 hS2 hS3
    go_wp2_with fail
    go_ret
    rw [HR'.out]
    exact ⟨rfl, b, h3, S3, rfl⟩
  case false =>
  rw [if_neg (by simp at hz1 hz60; omega)] at HR'
  cases tk
  case true =>
    rw [if_pos rfl] at HR'
    have hn := htk rfl
    clear htk
    go_enter Tryz.func43, Tryz.ntmps43
    go_upto_region 1 with fail
    rw [← HW1.out]
    refine wp_region_kept (Jx k Bp p b d l w.heap.size u w1) (by kernel_rfl) (by kernel_rfl) hJ.drew ?_
    repeat (go_big_quiet_step (first
      | (refine (hlv _ Jx.st').mono ?_; rintro e w4 ⟨rfl, hb4⟩; exact ⟨rfl, Jx.on hb4⟩)
      | (refine (hhas _).mono ?_; rintro e w4 ⟨rfl, hw4⟩; exact ⟨rfl, _, hw4⟩)))
    refine wpQuiet_nil ?_
    intro w2 hJ2
    have h2 := hJ2.st
    have hX2 := hJ2.box
    have hb2 := hJ2.below
    have x0 := hX2.c0
    have x1 := hX2.c1
    have x2 := hX2.c2
    have hA2 := hA1.stp (Stp.of hb2)
    have c0 := h2.dt.c0
    go_wp2_with fail
    have hS2 := And.intro c0 (And.intro x0 (And.intro x1 x2))
    go_region_held3 (fun w' => w'.cell? ⟨b.q, 0, none⟩ = some (.pointer (some ⟨b.r, 0, none⟩)) ∧ w'.cell? ⟨w.heap.size, 0, none⟩ = some (.int .i64 u.n) ∧ w'.cell? ⟨w.heap.size, 1, none⟩ = some (.int .u64 u.i) ∧ w'.cell? ⟨w.heap.size, 2, none⟩ = some (.int .i64 u.s)) (first | exact hS2 | exact hS3) ((first
      | (go_at_call 83; refine (hhr _ h2.drew).mono ?_; rintro e w3 ⟨rfl, h3, s3⟩; have hX3 := bx_stp hX2.drew hA2.drew s3; have hS3 := And.intro h3.dt.c0 (And.intro hX3.c0 (And.intro hX3.c1 hX3.c2)))))
    clear x0 x1 x2 c0
    have x0 := hX3.c0
    have x1 := hX3.c1
    have x2 := hX3.c2
    have c0 := h3.dt.c0
    have S3 : Stp p b w b w3 := ((Stp.of ba).then hb2).drew.trans s3
    clear h1 h2 hX hX2 hA1 hA2 hb2 s3 ba hJ hJ2 hne k0 hS2 hS3
    go_wp2_with fail
    refine (learn_any h3 u from_ was hn hu).mono ?_
    rintro e w4 ⟨rfl, b4, h4, s4, u4⟩
    go_wp2_with fail
    go_ret
    rw [HR'.out]
    exact ⟨rfl, b4, h4, S3.trans s4, u4⟩
  case false =>
  clear htk
  rw [if_neg (by simp)] at HR'
  cases hz0 : (z == 0)
  case true =>
    obtain rfl : z = 0 := by simpa using hz0
    rw [if_pos rfl] at HR'
    clear hz0 hz1 hz60
    go_enter Tryz.func43, Tryz.ntmps43
    go_upto_region 1 with fail
    rw [← HW1.out]
    refine wp_region_kept (Jx k Bp p b d l w.heap.size u w1) (by kernel_rfl) (by kernel_rfl) hJ.drew ?_
    repeat (go_big_quiet_step (first
      | (refine (hlv _ Jx.st').mono ?_; rintro e w4 ⟨rfl, hb4⟩; exact ⟨rfl, Jx.on hb4⟩)
      | (refine (hhas _).mono ?_; rintro e w4 ⟨rfl, hw4⟩; exact ⟨rfl, _, hw4⟩)))
    refine wpQuiet_nil ?_
    intro w2 hJ2
    have h2 := hJ2.st
    have hX2 := hJ2.box
    have hb2 := hJ2.below
    have x0 := hX2.c0
    have x1 := hX2.c1
    have x2 := hX2.c2
    have hA2 := hA1.stp (Stp.of hb2)
    have c0 := h2.dt.c0
    go_wp2_with fail
    have hS2 := And.intro c0 (And.intro x0 (And.intro x1 x2))
    go_region_held3 (fun w' => w'.cell? ⟨b.q, 0, none⟩ = some (.pointer (some ⟨b.r, 0, none⟩)) ∧ w'.cell? ⟨w.heap.size, 0, none⟩ = some (.int .i64 u.n) ∧ w'.cell? ⟨w.heap.size, 1, none⟩ = some (.int .u64 u.i) ∧ w'.cell? ⟨w.heap.size, 2, none⟩ = some (.int .i64 u.s)) (first | exact hS2 | exact hS3) ((first
      | (go_at_call 83; refine (hhr _ h2.drew).mono ?_; rintro e w3 ⟨rfl, h3, s3⟩; have hX3 := bx_stp hX2.drew hA2.drew s3; have hS3 := And.intro h3.dt.c0 (And.intro hX3.c0 (And.intro hX3.c1 hX3.c2)))))
    clear x0 x1 x2 c0
    have x0 := hX3.c0
    have x1 := hX3.c1
    have x2 := hX3.c2
    have c0 := h3.dt.c0
    have S3 : Stp p b w b w3 := ((Stp.of ba).then hb2).drew.trans s3
    clear h1 h2 hX hX2 hA1 hA2 hb2 s3 ba hJ hJ2 hne k0 hS2 hS3
    go_wp2_with fail
    go_region_with (first
      | (go_at_call 33; refine (rmine_any h3.drew).mono ?_; rintro e w4 ⟨rfl, hb4⟩; have h4 := h3.drew.below hb4)
      | (go_at_call 32; refine (rput_any h4 (ud (f' k)) h4.dt.ok.mi).mono ?_; rintro e w5 ⟨⟨zz, rfl⟩, b5, h5, s5, u5⟩))
    all_goals
      go_wp2_with fail
      go_ret
      rw [HR'.out]
      exact ⟨rfl, b5, h5, (S3.drew.then hb4).trans s5, u5⟩
  case false =>
  rw [if_neg (by simpa using hz0)] at HR'
  cases hs1 : (u.s == 1)
  case false =>
    rw [if_neg (by simp at hs1; simp [hs1])] at HR'
    go_enter Tryz.func43, Tryz.ntmps43
    go_upto_region 1 with fail
    rw [← HW1.out]
    refine wp_region_kept (Jx k Bp p b d l w.heap.size u w1) (by kernel_rfl) (by kernel_rfl) hJ.drew ?_
    repeat (go_big_quiet_step (first
      | (refine (hlv _ Jx.st').mono ?_; rintro e w4 ⟨rfl, hb4⟩; exact ⟨rfl, Jx.on hb4⟩)
      | (refine (hhas _).mono ?_; rintro e w4 ⟨rfl, hw4⟩; exact ⟨rfl, _, hw4⟩)))
    refine wpQuiet_nil ?_
    intro w2 hJ2
    have h2 := hJ2.st
    have hX2 := hJ2.box
    have hb2 := hJ2.below
    have x0 := hX2.c0
    have x1 := hX2.c1
    have x2 := hX2.c2
    have hA2 := hA1.stp (Stp.of hb2)
    have c0 := h2.dt.c0
    go_wp2_with fail
    have hS2 := And.intro c0 (And.intro x0 (And.intro x1 x2))
    go_region_held3 (fun w' => w'.cell? ⟨b.q, 0, none⟩ = some (.pointer (some ⟨b.r, 0, none⟩)) ∧ w'.cell? ⟨w.heap.size, 0, none⟩ = some (.int .i64 u.n) ∧ w'.cell? ⟨w.heap.size, 1, none⟩ = some (.int .u64 u.i) ∧ w'.cell? ⟨w.heap.size, 2, none⟩ = some (.int .i64 u.s)) (first | exact hS2 | exact hS3) ((first
      | (go_at_call 83; refine (hhr _ h2.drew).mono ?_; rintro e w3 ⟨rfl, h3, s3⟩; have hX3 := bx_stp hX2.drew hA2.drew s3; have hS3 := And.intro h3.dt.c0 (And.intro hX3.c0 (And.intro hX3.c1 hX3.c2)))))
    clear x0 x1 x2 c0
    have x0 := hX3.c0
    have x1 := hX3.c1
    have x2 := hX3.c2
    have c0 := h3.dt.c0
    have S3 : Stp p b w b w3 := ((Stp.of ba).then hb2).drew.trans s3
    clear h1 h2 hX hX2 hA1 hA2 hb2 s3 ba hJ hJ2 hne k0 hS2 hS3
    go_wp2_with fail
    go_ret
    rw [HR'.out]
    exact ⟨rfl, b, h3, S3, rfl⟩
  case true =>
  obtain ⟨kn, HK⟩ : ∃ kn, Hid (({ d with f := f' } : Det).knows u = kn) := ⟨_, rfl⟩
  have hs1' : Hid (u.s = 1) := by have := hs1; simp at this; exact this
  rw [HK.out] at HR'
  cases kn
  case false =>
    rw [if_neg (by simp)] at HR'
    go_enter Tryz.func43, Tryz.ntmps43
    go_upto_region 1 with fail
    rw [← HW1.out]
    refine wp_region_kept (Jx k Bp p b d l w.heap.size u w1) (by kernel_rfl) (by kernel_rfl) hJ.drew ?_
    repeat (go_big_quiet_step (first
      | (refine (hlv _ Jx.st').mono ?_; rintro e w4 ⟨rfl, hb4⟩; exact ⟨rfl, Jx.on hb4⟩)
      | (refine (hhas _).mono ?_; rintro e w4 ⟨rfl, hw4⟩; exact ⟨rfl, _, hw4⟩)))
    refine wpQuiet_nil ?_
    intro w2 hJ2
    have h2 := hJ2.st
    have hX2 := hJ2.box
    have hb2 := hJ2.below
    have x0 := hX2.c0
    have x1 := hX2.c1
    have x2 := hX2.c2
    have hA2 := hA1.stp (Stp.of hb2)
    have c0 := h2.dt.c0
    go_wp2_with fail
    have hS2 := And.intro c0 (And.intro x0 (And.intro x1 x2))
    go_region_held3 (fun w' => w'.cell? ⟨b.q, 0, none⟩ = some (.pointer (some ⟨b.r, 0, none⟩)) ∧ w'.cell? ⟨w.heap.size, 0, none⟩ = some (.int .i64 u.n) ∧ w'.cell? ⟨w.heap.size, 1, none⟩ = some (.int .u64 u.i) ∧ w'.cell? ⟨w.heap.size, 2, none⟩ = some (.int .i64 u.s)) (first | exact hS2 | exact hS3) ((first
      | (go_at_call 83; refine (hhr _ h2.drew).mono ?_; rintro e w3 ⟨rfl, h3, s3⟩; have hX3 := bx_stp hX2.drew hA2.drew s3; have hS3 := And.intro h3.dt.c0 (And.intro hX3.c0 (And.intro hX3.c1 hX3.c2)))))
    clear x0 x1 x2 c0
    have x0 := hX3.c0
    have x1 := hX3.c1
    have x2 := hX3.c2
    have c0 := h3.dt.c0
    have S3 : Stp p b w b w3 := ((Stp.of ba).then hb2).drew.trans s3
    clear h1 h2 hX hX2 hA1 hA2 hb2 s3 ba hJ hJ2 hne k0 hS2 hS3
    go_wp2_with fail
    refine (knows_any h3 u).mono ?_
    rw [HK.out]
    rintro e w4 ⟨rfl, hb4⟩
    go_wp2_with fail
    go_ret
    rw [HR'.out]
    exact ⟨rfl, b, h3.below hb4, S3.then hb4, rfl⟩
  case true =>
    rw [if_pos ⟨hs1'.out, rfl⟩] at HR'
    go_enter Tryz.func43, Tryz.ntmps43
    go_upto_region 1 with fail
    rw [← HW1.out]
    refine wp_region_kept (Jx k Bp p b d l w.heap.size u w1) (by kernel_rfl) (by kernel_rfl) hJ.drew ?_
    repeat (go_big_quiet_step (first
      | (refine (hlv _ Jx.st').mono ?_; rintro e w4 ⟨rfl, hb4⟩; exact ⟨rfl, Jx.on hb4⟩)
      | (refine (hhas _).mono ?_; rintro e w4 ⟨rfl, hw4⟩; exact ⟨rfl, _, hw4⟩)))
    refine wpQuiet_nil ?_
    intro w2 hJ2
    have h2 := hJ2.st
    have hX2 := hJ2.box
    have hb2 := hJ2.below
    have x0 := hX2.c0
    have x1 := hX2.c1
    have x2 := hX2.c2
    have hA2 := hA1.stp (Stp.of hb2)
    have c0 := h2.dt.c0
    go_wp2_with fail
    have hS2 := And.intro c0 (And.intro x0 (And.intro x1 x2))
    go_region_held3 (fun w' => w'.cell? ⟨b.q, 0, none⟩ = some (.pointer (some ⟨b.r, 0, none⟩)) ∧ w'.cell? ⟨w.heap.size, 0, none⟩ = some (.int .i64 u.n) ∧ w'.cell? ⟨w.heap.size, 1, none⟩ = some (.int .u64 u.i) ∧ w'.cell? ⟨w.heap.size, 2, none⟩ = some (.int .i64 u.s)) (first | exact hS2 | exact hS3) ((first
      | (go_at_call 83; refine (hhr _ h2.drew).mono ?_; rintro e w3 ⟨rfl, h3, s3⟩; have hX3 := bx_stp hX2.drew hA2.drew s3; have hS3 := And.intro h3.dt.c0 (And.intro hX3.c0 (And.intro hX3.c1 hX3.c2)))))
    clear x0 x1 x2 c0
    have x0 := hX3.c0
    have x1 := hX3.c1
    have x2 := hX3.c2
    have c0 := h3.dt.c0
    have S3 : Stp p b w b w3 := ((Stp.of ba).then hb2).drew.trans s3
    clear h1 h2 hX hX2 hA1 hA2 hb2 s3 ba hJ hJ2 hne k0 hS2 hS3
    go_wp2_with fail
    refine (knows_any h3 u).mono ?_
    rw [HK.out]
    rintro e w4 ⟨rfl, hb4⟩
    have h4 := h3.below hb4
    have hX4 := hX3.below hb4
    clear x0 x1 x2
    have x0 := hX4.c0
    have x1 := hX4.c1
    have x2 := hX4.c2
    go_wp2_with fail
    refine (suspect_any h4 u from_ hu).mono ?_
    rintro e w5 ⟨rfl, b5, h5, s5, u5⟩
    go_wp2_with fail
    go_ret
    rw [HR'.out]
    exact ⟨rfl, b5, h5, (S3.then hb4).trans s5, u5⟩
end
end Go.Proofs.YtpoofjnfaijjjaaGreatDoor
