/-
  What is shown: that a ping is answered. What happens to a detector: a slice of acts, opened.
-/
import Derived.Test.YtpoofjnfaijjjaaGreatDoorMSym
import Derived.Test.YtpoofjnfaijjjaaGreatDoorMNwd
import Derived.Test.YtpoofjnfaijjjaaGreatDoorMTik
import Derived.Test.YtpoofjnfaijjjaaGreatDoorMClu
import Derived.ProofKit
import Derived.OpenShut
namespace Go.Proofs.YtpoofjnfaijjjaaGreatDoor
open Go.RowKit Go.Proofs.YtpoofjnfaijjjaaGreatDoor.Ro
section
variable {k Bp p : Nat} {b b' : Bl} {d : Det} {l : List Int} {w w0 w' : World}
theorem Dt.sx (h : Dt k b d w) (hb : Below w.heap.size w w') (hl : Rn.Lt w.heap.size p l w') (hok : Rn.Ok l) : Sx k w.heap.size p b d l w' :=
  ⟨h.below hb, hl, hok, fun i g e => .inl (h.sep.lt i g e).2, h.tab.lt⟩
/-- All of it was made since. -/
structure Und (p : Nat) (b : Bl) (w0 w : World) : Prop where
  below : Below w0.heap.size w0 w
  p : w0.heap.size ≤ p
  own : ∀ i g, b.own i = some g → w0.heap.size ≤ g
theorem Und.stp (h : Und p b w0 w) (s : Stp p b w b' w') : Und p b' w0 w' := by
  have hz := h.below.size
  refine ⟨⟨s.os.trans h.below.os, s.tape.trans h.below.tape, s.output.trans h.below.output, Nat.le_trans hz s.size, fun g hg => ?_⟩, h.p, fun i g e => ?_⟩
  · rw [s.block g (by omega) (fun e => by have := h.p; omega) (fun i e => by have := h.own i g e; omega), h.below.block g hg]
  · rcases s.fr i g e with ⟨j, hj⟩ | hj
    · exact h.own j g hj
    · omega
theorem OwE.atN {g cap : Nat} {T : TypeId} {B : Nat} {v : Value} {X : List NtX} (h : OwE encN T B v X w) (hv : v = .slice (some ⟨g, 0, none⟩) X.length cap) (j : Nat) (hj : j < X.length) :
    w.cell? ⟨g, j * 6, none⟩ = some (.int .i64 X[j].n.k) ∧ w.cell? ⟨g, j * 6 + 1, none⟩ = some (.int .i64 X[j].n.f) ∧ w.cell? ⟨g, j * 6 + 2, none⟩ = some (.int .i64 X[j].n.t) ∧ w.cell? ⟨g, j * 6 + 3, none⟩ = some (.int .u64 X[j].n.q) ∧ w.cell? ⟨g, j * 6 + 4, none⟩ = some (.int .i64 X[j].n.o) ∧ w.cell? ⟨g, j * 6 + 5, none⟩ = some (.slice X[j].a X[j].L X[j].c) := by
  obtain ⟨a, c, e, _, _, h3⟩ := h.rd
  rw [hv] at e; cases e
  rcases h3 with h3 | ⟨g', off, e, h3⟩
  · omega
  · cases e
    have h0 := fun c hc => h3 j c hj hc
    simp only [Nat.zero_add] at h0
    exact ⟨h0 0 (by decide), h0 1 (by decide), h0 2 (by decide), h0 3 (by decide), h0 4 (by decide), h0 5 (by decide)⟩
theorem map_one {α β : Type} {f : α → β} {X : List α} {y : β} (h : X.map f = [y]) : ∃ x, X = [x] ∧ f x = y := by
  cases X with
  | nil => cases h
  | cons x r =>
    cases r with
    | nil => exact ⟨x, rfl, by simpa using h⟩
    | cons z r => simp at h
theorem ok_nil : Rn.Ok [] := fun x hx => by cases hx
theorem rd_nil (w : World) : Rn.Rd .u64 (.slice none 0 0) [] w := ⟨none, 0, rfl, Nat.le_refl _, Nat.zero_le _, fun _ => rfl, Or.inl rfl⟩
end
set_option maxRecDepth 100000 in
set_option maxHeartbeats 4000000 in
theorem shown_any (w : World) (hT : Bnd.Tab w) : Calls Tryz.prog 8 #[] w fun e w' => e = .returned (.bool true) ∧ Below w.heap.size w w' := by
  have hn1 := dnew_any 1 w hT
  have hln := fun w => Rn.new_any (.slice none 0 0) [] w (Nat.zero_le _) (rd_nil w)
  go_enter Tryz.func8, Tryz.ntmps8
  go_upto_region 4 with (first
    | (go_at_call 9; go_must (refine hn1.mono ?_; rintro e w1 ⟨h1, _, b1⟩; obtain ⟨bA, rfl, hA, oA⟩ := h1 1 rfl (by decide)))
    | (go_at_call 11; go_must (refine (hln w1).mono ?_; rintro e w2 ⟨⟨p2, rfl, hL2⟩, b2⟩; have hA2 := hA.sx b2 hL2 ok_nil; have hkn := know_any hA2 ⟨2, 0, 0⟩ u0; rw [show (((1 : Nat) : Int)) = 1 from rfl, sh1] at hkn))
    | (go_at_call 17; go_must (refine hkn.mono ?_; rintro e w3 ⟨rfl, b3, hA3, s3⟩)))
  have hU2 : Und p2 bA w w2 := ⟨bT b1 b2, by have := b1.size; have := hL2.le; omega, oA⟩
  have hU3 := hU2.stp s3
  have hA3 : Dt 1 b3 shA w3 := hA3.dt
  have hqA : b3.q = bA.q := s3.q
  clear hn1 h1 hkn hA hA2 hL2 s3 hU2 b1 b2
  have bd3 := hU3.below
  have hz3 := bd3.size
  go_upto_region 5 with (first
    | (go_at_call 11; go_must (refine (hln w3).mono ?_; rintro e w4 ⟨⟨p4, rfl, hL4⟩, b4⟩; have hA4 := hA3.sx b4 hL4 ok_nil; have htk := tick_any hA4 (by rw [shW]; exact Nat.zero_le _); rw [hqA] at htk))
    | (go_at_call 13; go_must (refine htk.mono ?_; rintro e w5 ⟨v5, X5, b5, rfl, hs5, hX5, hA5, s5⟩)))
  have hU4 : Und p4 b3 w w4 := ⟨bT bd3 b4, by have := hL4.le; omega, hU3.own⟩
  have hU5 := hU4.stp s5
  rw [sh2] at hX5
  obtain ⟨x, rfl, hx⟩ := map_one hX5
  obtain ⟨a5, c5, rfl⟩ : ∃ a c, v5 = .slice a 1 c := by obtain ⟨a, cap, e, _⟩ := hs5.row.len; exact ⟨a, cap, e⟩
  obtain ⟨g5, rfl⟩ : ∃ g, a5 = some ⟨g, 0, none⟩ := by
    rcases hs5.row.2 with ⟨e, h0⟩ | ⟨g, cap, cur, e, _⟩
    · cases h0
    · cases e; exact ⟨g, rfl⟩
  obtain ⟨x0, x1, x2, x3, x4, x5⟩ := hs5.row.atN rfl 0 (by simp)
  have hnew := hs5.news x (by simp)
  obtain ⟨N, na, nl, nc⟩ := x
  obtain rfl : N = shN := hx
  dsimp only [List.getElem_cons_zero, shN] at x0 x1 x2 x3 x4 x5
  have bd5 := hU5.below
  clear hU4 hA3 hA4 htk b4 hL4 hU3 bd3 hX5 s5 hqA
  have hT5 : Bnd.Tab w5 := hT.below hT.lt bd5
  have hn2 := dnew_any 2 w5 hT5
  go_upto_region 8 with (go_at_call 9; go_must (refine hn2.mono ?_; rintro e w6 ⟨h1, _, b6⟩; obtain ⟨bC, rfl, hC, oC⟩ := h1 2 rfl (by decide)))
  have hg5 : g5 < w5.heap.size := (Array.getElem?_eq_some_iff.1 (owe_type hs5.row rfl).choose_spec).1
  have k6 : w6.heap[g5]? = w5.heap[g5]? := b6.block g5 hg5
  have y0 := (World.cell?_of_block (w := w5) (a := ⟨g5, 0, none⟩) k6).trans x0
  have y1 := (World.cell?_of_block (w := w5) (a := ⟨g5, 1, none⟩) k6).trans x1
  have y2 := (World.cell?_of_block (w := w5) (a := ⟨g5, 2, none⟩) k6).trans x2
  have y3 := (World.cell?_of_block (w := w5) (a := ⟨g5, 3, none⟩) k6).trans x3
  have y4 := (World.cell?_of_block (w := w5) (a := ⟨g5, 4, none⟩) k6).trans x4
  have y5 := (World.cell?_of_block (w := w5) (a := ⟨g5, 5, none⟩) k6).trans x5
  have hS6 := And.intro y0 (And.intro y1 (And.intro y2 (And.intro y3 (And.intro y4 y5))))
  have hz6 := b6.size
  have hnr := hnew.below b6
  have hnlt : ∀ g, (Value.slice na nl nc).ownBlock = some g → g < w5.heap.size := fun g e => (hnew.lt g e).2
  clear x0 x1 x2 x3 x4 x5 y0 y1 y2 y3 y4 y5 hn2 h1
  have hz5 := bd5.size
  go_region_held3 (fun w' => w'.cell? ⟨g5, 0, none⟩ = some (.int .i64 1) ∧ w'.cell? ⟨g5, 1, none⟩ = some (.int .i64 1) ∧ w'.cell? ⟨g5, 2, none⟩ = some (.int .i64 2) ∧ w'.cell? ⟨g5, 3, none⟩ = some (.int .u64 1) ∧ w'.cell? ⟨g5, 4, none⟩ = some (.int .i64 0) ∧ w'.cell? ⟨g5, 5, none⟩ = some (.slice na nl nc)) (first | exact hS6 | exact hS7 | exact hS8) ((first
    | (go_at_call 11; go_must (refine (hln _).mono ?_; rintro e w7 ⟨⟨p7, rfl, hL7⟩, b7⟩; have hC7 := hC.drew.sx b7 hL7 ok_nil; have k7 : w7.heap[g5]? = w6.heap[g5]? := b7.block g5 (Nat.lt_of_lt_of_le hg5 hz6); have hS7 := And.intro ((World.cell?_of_block (w := w6) (a := ⟨g5, 0, none⟩) k7).trans hS6.1) (And.intro ((World.cell?_of_block (w := w6) (a := ⟨g5, 1, none⟩) k7).trans hS6.2.1) (And.intro ((World.cell?_of_block (w := w6) (a := ⟨g5, 2, none⟩) k7).trans hS6.2.2.1) (And.intro ((World.cell?_of_block (w := w6) (a := ⟨g5, 3, none⟩) k7).trans hS6.2.2.2.1) (And.intro ((World.cell?_of_block (w := w6) (a := ⟨g5, 4, none⟩) k7).trans hS6.2.2.2.2.1) ((World.cell?_of_block (w := w6) (a := ⟨g5, 5, none⟩) k7).trans hS6.2.2.2.2.2)))))))
    | (go_at_call 15; go_must (refine (hear_any hC7 shN na nl nc (hnr.ru.keep fun g e hlt => b7.block g hlt) (.inr fun g e => ⟨by exact Nat.lt_of_lt_of_le (Nat.lt_of_lt_of_le (hnlt g e) hz6) b7.size, fun e' => by have := hnlt g e; have := hL7.le; have e6 : w6.drew.heap.size = w6.heap.size := rfl; omega, fun i e' => by have := hnlt g e; have := oC i g e'; omega⟩) (by decide) (by decide) (by rw [shW2]; exact Nat.zero_le _) ⟨by decide, by decide⟩).mono ?_; rintro e w8 ⟨v8, X8, b8, rfl, hs8, hX8, hC8, s8⟩; have k8 := s8.keep (g := g5) ⟨Nat.lt_of_lt_of_le (Nat.lt_of_lt_of_le hg5 hz6) b7.size, (fun e' => by have := hL7.le; have e6 : w6.drew.heap.size = w6.heap.size := rfl; omega), (fun i e' => by have := oC i g5 e'; omega)⟩; have hS8 := And.intro ((World.cell?_of_block (w := w7) (a := ⟨g5, 0, none⟩) k8).trans hS7.1) (And.intro ((World.cell?_of_block (w := w7) (a := ⟨g5, 1, none⟩) k8).trans hS7.2.1) (And.intro ((World.cell?_of_block (w := w7) (a := ⟨g5, 2, none⟩) k8).trans hS7.2.2.1) (And.intro ((World.cell?_of_block (w := w7) (a := ⟨g5, 3, none⟩) k8).trans hS7.2.2.2.1) (And.intro ((World.cell?_of_block (w := w7) (a := ⟨g5, 4, none⟩) k8).trans hS7.2.2.2.2.1) ((World.cell?_of_block (w := w7) (a := ⟨g5, 5, none⟩) k8).trans hS7.2.2.2.2.2)))))))))
  have hU7 : Und p7 bC w w7 := ⟨bT (bD (bT bd5 b6)) b7, by have := hL7.le; have e6 : w6.drew.heap.size = w6.heap.size := rfl; omega, fun i g e => by have := oC i g e; omega⟩
  have hU8 := hU7.stp s8
  have hk := sh4
  rw [← hX8] at hk
  obtain ⟨⟨n8, a8, l8, c8⟩, rfl, hn8⟩ := map_one (X := X8) (f := fun x => x.n.k) (by rw [← hk, List.map_map]; rfl)
  obtain ⟨a9, c9, rfl⟩ : ∃ a c, v8 = .slice a 1 c := by obtain ⟨a, cap, e, _⟩ := hs8.row.len; exact ⟨a, cap, e⟩
  obtain ⟨g8, rfl⟩ : ∃ g, a9 = some ⟨g, 0, none⟩ := by
    rcases hs8.row.2 with ⟨e, h0⟩ | ⟨g, cap, cur, e, _⟩
    · cases h0
    · cases e; exact ⟨g, rfl⟩
  obtain ⟨x0, _⟩ := hs8.row.atN rfl 0 (by simp)
  dsimp only [List.getElem_cons_zero] at x0 hn8
  rw [hn8] at x0
  have he8 := sh3
  have hall := dall_any hC8
  rw [show b8.q = bC.q from s8.q] at hall
  go_wp2_with (go_at_call 28; go_must (refine hall.mono ?_; rintro e w9 ⟨⟨v9, rfl, hO9⟩, b9⟩; obtain ⟨a9, c9', rfl⟩ : ∃ a c, v9 = .slice a 2 c := (by obtain ⟨a, cap, e, _⟩ := hO9.ru; rw [sh5] at e; exact ⟨a, cap, e⟩)))
  go_ret
  exact ⟨rfl, bT hU8.below b9⟩
end Go.Proofs.YtpoofjnfaijjjaaGreatDoor
namespace Go.Proofs.YtpoofjnfaijjjaaGreatDoor
open Go.RowKit Go.Deep Go.ChangeShapes Go.Proofs.YtpoofjnfaijjjaaGreatDoor.Ro

/-- An act: which kind, a note and the slice that its news are, an update. -/
structure Ac where
  kind : Int
  x : NtX
  U : Upd
structure AcOk (A : Ac) : Prop where
  q : U64 A.x.n.q
  u : ∀ u ∈ A.x.n.u, U64 u.i
  U : U64 A.U.i
abbrev acC (A : Ac) : List Value := [.int .i64 A.kind, .int .i64 A.x.n.k, .int .i64 A.x.n.f, .int .i64 A.x.n.t, .int .u64 A.x.n.q, .int .i64 A.x.n.o, .slice A.x.a A.x.L A.x.c, .int .i64 A.U.n, .int .u64 A.U.i, .int .i64 A.U.s]
theorem u64_of {n : Int} (h : (Lit.int .u64 n).wf = true) : U64 n := by simpa [Lit.wf, IntKind.min, IntKind.max, IntKind.signed, IntKind.bits, U64] using h
/-- The slice v reads as the acts l. -/
def Ra (v : Value) (l : List Ac) (w : World) : Prop :=
  ∃ a cap, v = .slice a l.length cap ∧ (l.length = 0 ∨ ∃ g off, a = some ⟨g, off, none⟩ ∧ ∀ j (hj : j < l.length) c v, (acC l[j])[c]? = some v → w.cell? ⟨g, off + j * 10 + c, none⟩ = some v)
def IsActs (w : World) (a : Option Addr) (len cap : Nat) (l : List Ac) : Prop := l.length = len ∧ Ra (.slice a len cap) l w ∧ ∀ A ∈ l, AcOk A ∧ Ro.Ru (.slice A.x.a A.x.L A.x.c) A.x.n.u w

section
variable {H : Type} {enc : TypeId × Value → H} {w : World}
theorem trod_upds {n : Nat} {v : Value} {x : DataW H × List MemPlace} (h : DataW.trod enc Tryz.prog w 0 (fun _ => true) true n 35 [v] = some x) :
    ∃ a L c l, v = .slice a L c ∧ Ro.Ru (.slice a L c) l w ∧ ∀ u ∈ l, U64 u.i := by
  have hv : ∃ a L c, v = .slice a L c := by
    rcases open_slice Tryz.underlying35 h with ⟨hcs, _⟩ | ⟨a', l', c', m, n, D, Pl, hcs, _⟩
    · exact ⟨_, _, _, by simpa using hcs⟩
    · exact ⟨_, _, _, by simpa using hcs⟩
  obtain ⟨a, L, c, rfl⟩ := hv
  obtain ⟨l, h1, h2, h3⟩ := open_upds ⟨n, h⟩
  exact ⟨a, L, c, l, rfl, h2, fun u hu => u64_of (h3 u hu).i⟩
set_option maxRecDepth 100000 in
theorem trod_note {n : Nat} {cs : List Value} {x : DataW H × List MemPlace} (h : DataW.trod enc Tryz.prog w 0 (fun _ => true) true n 37 cs = some x) :
    ∃ N : NtX, U64 N.n.q ∧ (∀ u ∈ N.n.u, U64 u.i) ∧ Ro.Ru (.slice N.a N.L N.c) N.n.u w ∧ cs = [.int .i64 N.n.k, .int .i64 N.n.f, .int .i64 N.n.t, .int .u64 N.n.q, .int .i64 N.n.o, .slice N.a N.L N.c] := by
  have hc : Tryz.prog.cellsOf 37 = 6 := by kernel_rfl
  have hc3 : Tryz.prog.cellsOf 3 = 1 := by kernel_rfl
  have hcu : Tryz.prog.cellsOf 34 = 1 := by kernel_rfl
  have hcs : Tryz.prog.cellsOf 35 = 1 := by kernel_rfl
  obtain ⟨xs, m, _, _, hlen, hxl, hf⟩ := DataW.trod_struct Tryz.underlying37 h
  rw [hc] at hlen
  match cs, hlen with
  | [a, b, c, d, e, f], _ =>
    match xs, hxl with
    | [y0, y1, y2, y3, y4, y5], _ =>
      have f0 := hf 0 _ rfl
      have f1 := hf 1 _ rfl
      have f2 := hf 2 _ rfl
      have f3 := hf 3 _ rfl
      have f4 := hf 4 _ rfl
      have f5 := hf 5 _ rfl
      simp [hc3, hcu, hcs] at f0 f1 f2 f3 f4 f5
      obtain ⟨n0, rfl, _⟩ := trod_one Tryz.underlying3 f0
      obtain ⟨n1, rfl, _⟩ := trod_one Tryz.underlying3 f1
      obtain ⟨n2, rfl, _⟩ := trod_one Tryz.underlying3 f2
      obtain ⟨n3, rfl, w3⟩ := trod_one Tryz.underlying34 f3
      obtain ⟨n4, rfl, _⟩ := trod_one Tryz.underlying3 f4
      obtain ⟨a, L, c, l, rfl, r, hu⟩ := trod_upds f5
      exact ⟨⟨⟨n0, n1, n2, n3, n4, l⟩, a, L, c⟩, u64_of w3, hu, r, rfl⟩
set_option maxRecDepth 100000 in
theorem trod_act {n : Nat} {cs : List Value} {x : DataW H × List MemPlace} (h : DataW.trod enc Tryz.prog w 0 (fun _ => true) true n 41 cs = some x) :
    ∃ A : Ac, AcOk A ∧ Ro.Ru (.slice A.x.a A.x.L A.x.c) A.x.n.u w ∧ cs = acC A := by
  have hc : Tryz.prog.cellsOf 41 = 10 := by kernel_rfl
  have hcN : Tryz.prog.cellsOf 37 = 6 := by kernel_rfl
  have hcU : Tryz.prog.cellsOf 39 = 3 := by kernel_rfl
  have hc3 : Tryz.prog.cellsOf 3 = 1 := by kernel_rfl
  have hcu : Tryz.prog.cellsOf 34 = 1 := by kernel_rfl
  obtain ⟨xs, m, _, _, hlen, hxl, hf⟩ := DataW.trod_struct Tryz.underlying41 h
  rw [hc] at hlen
  match cs, hlen with
  | [c0, c1, c2, c3, c4, c5, c6, c7, c8, c9], _ =>
    match xs, hxl with
    | [y0, y1, y2], _ =>
      have f0 := hf 0 _ rfl
      have f1 := hf 1 _ rfl
      have f2 := hf 2 _ rfl
      simp [hcN, hcU, hc3] at f0 f1 f2
      obtain ⟨n0, rfl, _⟩ := trod_one Tryz.underlying3 f0
      obtain ⟨N, hq, hu, hr, e⟩ := trod_note f1
      simp at e
      obtain ⟨rfl, rfl, rfl, rfl, rfl, rfl⟩ := e
      obtain ⟨z0, z1, z2, m', _, _, g0, g1, g2⟩ := trod_struct3 Tryz.underlying39 f2
      simp [hc3, hcu] at g0 g1 g2
      obtain ⟨n1, rfl, _⟩ := trod_one Tryz.underlying3 g0
      obtain ⟨n2, rfl, w2⟩ := trod_one Tryz.underlying34 g1
      obtain ⟨n3, rfl, _⟩ := trod_one Tryz.underlying3 g2
      exact ⟨⟨n0, N, ⟨n1, n2, n3⟩⟩, ⟨hq, hu, u64_of w2⟩, hr, rfl⟩
end

theorem open_acts {H : Type} {enc : TypeId × Value → H} {W : World} {a : Option Addr} {len cap : Nat} {d : DataW H} {ps : List MemPlace} (h : DataW.Trod enc Tryz.prog W 0 (fun _ => true) true 23 (.slice a len cap) d ps) : ∃ l, IsActs W a len cap l := by
  obtain ⟨fuel, hf0⟩ := h
  have hf : DataW.trod enc Tryz.prog W 0 (fun _ => true) true fuel 23 [.slice a len cap] = some (d, ps) := hf0
  have hC : Tryz.prog.cellsOf 41 = 10 := by kernel_rfl
  rcases open_slice Tryz.underlying23 hf with ⟨hcs, _⟩ | ⟨a', l', c', m, n, D, Pl, hcs, _, hlc, hm, hmm, _, hel⟩
  · simp at hcs
    obtain ⟨rfl, rfl, rfl⟩ := hcs
    exact ⟨[], rfl, ⟨_, _, rfl, Or.inl rfl⟩, fun u hu => by cases hu⟩
  · simp at hcs
    obtain ⟨rfl, rfl, rfl⟩ := hcs
    simp at hmm
    subst hmm
    rw [hC] at hel
    have key : ∀ j, ∃ A : Ac, j < len → AcOk A ∧ Ro.Ru (.slice A.x.a A.x.L A.x.c) A.x.n.u W ∧ ∀ c v, (acC A)[c]? = some v → W.cell? ((a'.add (j * 10)).add c) = some v := by
      intro j
      by_cases hj : j < len
      · obtain ⟨cs', hc, hy⟩ := hel j (by omega)
        obtain ⟨_, hlen, hcell⟩ := World.cells?_some hc
        obtain ⟨A, h1, hr, h2⟩ := trod_act hy
        refine ⟨A, fun _ => ⟨h1, hr, fun c v hv => ?_⟩⟩
        have hc6 : c < 10 := (List.getElem?_eq_some_iff.1 hv).1
        rw [hcell c hc6, h2]
        exact hv
      · exact ⟨⟨0, ⟨⟨0, 0, 0, 0, 0, []⟩, none, 0, 0⟩, ⟨0, 0, 0⟩⟩, fun h => absurd h hj⟩
    obtain ⟨f, hf⟩ : ∃ f : Nat → Ac, ∀ j, j < len → AcOk (f j) ∧ Ro.Ru (.slice (f j).x.a (f j).x.L (f j).x.c) (f j).x.n.u W ∧ ∀ c v, (acC (f j))[c]? = some v → W.cell? ((a'.add (j * 10)).add c) = some v :=
      ⟨fun j => Classical.choose (key j), fun j hj => Classical.choose_spec (key j) hj⟩
    clear key
    refine ⟨(List.range len).map f, by simp, ⟨_, _, by simp; exact ⟨rfl, rfl⟩, ?_⟩, fun u hu => ?_⟩
    · rcases Nat.eq_zero_or_pos len with h0 | h0
      · exact Or.inl (by simpa using h0)
      · right
        obtain ⟨b, off, spot⟩ := a'
        have hspot : spot = none := by
          have := (hf 0 h0).2.2 0 _ rfl
          simpa [Addr.add] using World.cell?_spot this
        subst hspot
        refine ⟨b, off, rfl, fun j hj => ?_⟩
        simp at hj
        have hs := (hf j hj).2.2
        simp only [List.getElem_map, List.getElem_range]
        simp only [add_flat] at hs
        exact hs
    · obtain ⟨j, hj, rfl⟩ := List.mem_map.1 hu
      have := hf j (List.mem_range.1 hj)
      exact ⟨this.1, this.2.1⟩
theorem Ra.at_ {a : Option Addr} {len cap : Nat} {l : List Ac} {w : World} (h : Ra (.slice a len cap) l w) {j : Nat} (hj : j < l.length) : ∃ g off, a = some ⟨g, off, none⟩ ∧ g < w.heap.size ∧ ∀ c v, (acC l[j])[c]? = some v → w.cell? ⟨g, off + j * 10 + c, none⟩ = some v := by
  obtain ⟨_, _, e, h3⟩ := h
  cases e
  rcases h3 with h3 | ⟨g, off, rfl, h3⟩
  · omega
  · exact ⟨g, off, rfl, World.block_lt_of_cell? _ _ (h3 j hj 0 _ rfl), h3 j hj⟩
end Go.Proofs.YtpoofjnfaijjjaaGreatDoor
