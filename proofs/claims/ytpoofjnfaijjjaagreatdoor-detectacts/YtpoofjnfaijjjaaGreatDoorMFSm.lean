/-
  The reference's notes in boxes, and in rows. The code's detector and the reference's, beside one another. The reference's New, Know, Leave. The reference's Same, where both are the same. The notes that both say are the same.
-/
import Derived.Test.YtpoofjnfaijjjaaGreatDoorMFTk
namespace Go.Proofs.YtpoofjnfaijjjaaGreatDoor.Fx
open Go.RowKit Go.Proofs.YtpoofjnfaijjjaaGreatDoor Go.Proofs.YtpoofjnfaijjjaaGreatDoor.Ro
structure Bn (g : Nat) (k f t q o : Int) (v : Value) (w : World) : Prop where
  heap : w.heap[g]? = some (.cells (ntC k f t q o v) 52 (0, 0))
section
variable {g : Nat} {k f t q o : Int} {v : Value} {w w' : World}
theorem Bn.c0 (h : Bn g k f t q o v w) : w.cell? ⟨g, 0, none⟩ = some (.int .i64 k) := by simp [World.cell?, h.heap]
theorem Bn.c1 (h : Bn g k f t q o v w) : w.cell? ⟨g, 1, none⟩ = some (.int .i64 f) := by simp [World.cell?, h.heap]
theorem Bn.c2 (h : Bn g k f t q o v w) : w.cell? ⟨g, 2, none⟩ = some (.int .i64 t) := by simp [World.cell?, h.heap]
theorem Bn.c3 (h : Bn g k f t q o v w) : w.cell? ⟨g, 3, none⟩ = some (.int .u64 q) := by simp [World.cell?, h.heap]
theorem Bn.c4 (h : Bn g k f t q o v w) : w.cell? ⟨g, 4, none⟩ = some (.int .i64 o) := by simp [World.cell?, h.heap]
theorem Bn.c5 (h : Bn g k f t q o v w) : w.cell? ⟨g, 5, none⟩ = some v := by simp [World.cell?, h.heap]
theorem Bn.free (h : Bn g k f t q o v w) (j : Nat) : w.frozen? ⟨g, j, none⟩ = false := free_of h.heap j
theorem Bn.lt (h : Bn g k f t q o v w) : g < w.heap.size := (Array.getElem?_eq_some_iff.1 h.heap).1
theorem Bn.keep (h : Bn g k f t q o v w) (e : w'.heap[g]? = w.heap[g]?) : Bn g k f t q o v w' := ⟨e.trans h.heap⟩
theorem Bn.below (h : Bn g k f t q o v w) (b : Below w.heap.size w w') : Bn g k f t q o v w' := h.keep (b.block g h.lt)
theorem Bn.drew (h : Bn g k f t q o v w) : Bn g k f t q o v w.drew := ⟨h.heap⟩
theorem Bn.new (k f t q o : Int) (v : Value) (w : World) : Bn w.heap.size k f t q o v (w.alloc (.cells (ntC k f t q o v) 52)) := ⟨heap_alloc_new w _⟩
theorem Bn.set1 (h : Bn g k f t q o v w) (x : Int) : Bn g k x t q o v (w.setCell ⟨g, 1, none⟩ (.int .i64 x)) := ⟨by simp [World.setCell, Array.getElem?_modify, h.heap]⟩
theorem Bn.set5 (h : Bn g k f t q o v w) (x : Value) : Bn g k f t q o x (w.setCell ⟨g, 5, none⟩ x) := ⟨by simp [World.setCell, Array.getElem?_modify, h.heap]⟩
theorem Bn.other (h : Bn g k f t q o v w) {a : Addr} (ha : g ≠ a.block) (x : Value) : Bn g k f t q o v (w.setCell a x) := h.keep (Below.heap_setCell _ _ _ _ ha)
theorem Bn.set6 (h : Bn g k f t q o v w) (k' f' t' q' o' : Int) (v' : Value) :
    Bn g k' f' t' q' o' v' ((((((w.setCell ⟨g, 0, none⟩ (.int .i64 k')).setCell ⟨g, 1, none⟩ (.int .i64 f')).setCell ⟨g, 2, none⟩ (.int .i64 t')).setCell ⟨g, 3, none⟩ (.int .u64 q')).setCell ⟨g, 4, none⟩ (.int .i64 o')).setCell ⟨g, 5, none⟩ v') :=
  ⟨by simp [World.setCell, Array.getElem?_modify, h.heap]⟩
theorem Bn.grown {row : Option Nat} (h : Bn g k f t q o v w) (hg : w.grownBy w' row) (hr : row ≠ some g) : Bn g k f t q o v w' := h.keep (hg.block g h.lt (fun e => hr e.symm))
theorem Bn.off {c : Rc} {b b' : Rw} (h : Bn g k f t q o v w) (hA : Off c b w g) (s : Sr c b w b' w') : Bn g k f t q o v w' := h.keep (s.keep hA)
end
theorem Tryz.infoNr : (Tryz.prog.info? 52).map (fun i => (i.zero, i.size, i.bytes)) = some (some (.agg (ntC 0 0 0 0 0 (.slice none 0 0))), 6, 64) := by kernel_rfl
structure Sd (c : Rc) (b : Rw) (w0 : World) (v : Value) (X : List NtX) (w : World) : Prop where
  row : OwE encN 52 w0.heap.size v X w
  away : ∀ g, v.ownBlock = some g → Off c b w g
  news : ∀ x ∈ X, Ro.Own w0.heap.size (.slice x.a x.L x.c) x.n.u w
  naw : ∀ x ∈ X, ∀ g, (Value.slice x.a x.L x.c).ownBlock = some g → Off c b w g
section
variable {c : Rc} {b b' : Rw} {w0 w w' : World} {v : Value} {X : List NtX}
theorem Sd.stp (h : Sd c b w0 v X w) (s : Sr c b w b' w') : Sd c b' w0 v X w' :=
  ⟨h.row.keep fun g hg _ => s.keep (h.away g hg), fun g hg => (h.away g hg).step s, fun x hx => (h.news x hx).keep fun g hg _ => s.keep (h.naw x hx g hg), fun x hx g hg => (h.naw x hx g hg).step s⟩
theorem Sd.up {v0 : World} (h : Sd c b w0 v X w) (hz : v0.heap.size ≤ w0.heap.size) : Sd c b v0 v X w := ⟨h.row.mono hz, h.away, fun x hx => Ro.Own.mono (h.news x hx) hz, h.naw⟩
theorem Sd.apart (h : Sd c b w0 v X w) {B : Nat} {u : Value} {l : List Upd} (hu : Ro.Own B u l w) {g : Nat} (hg : u.ownBlock = some g) : v.ownBlock ≠ some g := fun e => by
  obtain ⟨c1, e1⟩ := owe_type h.row e
  obtain ⟨c2, e2⟩ := own_type hu hg
  rw [e1] at e2
  simp at e2
theorem Off.more {g : Nat} (a : Off c b w g) (hz : w.heap.size ≤ w'.heap.size) : Off c b w' g := ⟨Nat.lt_of_lt_of_le a.lt hz, a.y, a.own, a.lo⟩
theorem Sd.one {d : Det} {m : List Int} {n : Nte} {a : Option Addr} {L cc : Nat} (h : Ry c b d m w) (hz : w0.heap.size ≤ w.heap.size) (hO : Ro.Own w0.heap.size (.slice a L cc) n.u w) (hA : ∀ g, (Value.slice a L cc).ownBlock = some g → Off c b w g) :
    Sd c b w0 (.slice (some ⟨w.heap.size, 0, none⟩) 1 1) [⟨n, a, L, cc⟩] (w.alloc (.cells (ntC n.k n.f n.t n.q n.o (.slice a L cc)) 52)) := by
  have ba : Below w.heap.size w (w.alloc (.cells (ntC n.k n.f n.t n.q n.o (.slice a L cc)) 52)) := below_alloc _ _
  refine ⟨⟨rfl, Or.inr ⟨w.heap.size, 1, _, rfl, hz, heap_alloc_new w _, Nat.le_refl _, by unfold maxLen; omega, rfl, rfl⟩⟩, fun g hg => ?_, fun x hx => ?_, fun x hx g hg => ?_⟩
  · cases hg; exact h.off (Nat.le_refl _) (by simp)
  · obtain rfl := List.mem_singleton.1 hx
    exact hO.below ba
  · obtain rfl := List.mem_singleton.1 hx
    exact (hA g hg).step (Sr.of ba)
theorem Sd.app {u v' : Value} {Y : List NtX} {d : Det} {m : List Int} (hS : Ry c b d m w) (h : Sd c b w0 v X w) (k' : Sd c b w0 u Y w) (hrow : OwE encN 52 w0.heap.size v' (X ++ Y) w') (hg : w.grownBy w' v.ownBlock) (hv : v'.ownBlock = v.ownBlock ∨ v'.ownBlock = some w.heap.size) (hlt : ∀ g, v'.ownBlock = some g → g < w'.heap.size) :
    Sd c b w0 v' (X ++ Y) w' := by
  refine ⟨hrow, fun g e => ?_, fun x hx => ?_, fun x hx g e => ?_⟩
  · rcases hv with e' | e'
    · exact Off.more (h.away g (e'.symm.trans e)) hg.size
    · rw [e'] at e; cases e
      exact hS.off (Nat.le_refl _) (hlt _ e')
  · rcases List.mem_append.1 hx with hx | hx
    · exact (h.news x hx).keep fun g e hlt => hg.block g hlt (fun e' => h.apart (h.news x hx) e e'.symm)
    · exact (k'.news x hx).keep fun g e hlt => hg.block g hlt (fun e' => h.apart (k'.news x hx) e e'.symm)
  · rcases List.mem_append.1 hx with hx | hx
    · exact Off.more (h.naw x hx g e) hg.size
    · exact Off.more (k'.naw x hx g e) hg.size
theorem Sd.empty {d : Det} {m : List Int} (h : Ry c b d m w) : Sd c b w (.slice (some ⟨w.heap.size, 0, none⟩) 0 0) [] (w.alloc (.cells #[] 52)) :=
  ⟨OwE.empty _ _ _ _ (heap_alloc_new w _) (Nat.le_refl _), fun g e => by cases e; exact h.off (Nat.le_refl _) (by simp), (fun x hx => by cases hx), (fun x hx => by cases hx)⟩
theorem Sd.nil (c : Rc) (b : Rw) (w0 w : World) : Sd c b w0 (.slice none 0 0) [] w := ⟨OwE.nil _ _ _ _, (fun g hg => by cases hg), (fun x hx => by cases hx), (fun x hx => by cases hx)⟩
end
structure Bo (k Bp p : Nat) (c : Rc) (b : Bl) (br : Rw) (d e : Det) (l m : List Int) (w : World) : Prop where
  s : Sx k Bp p b d l w
  r : Ry c br e m w
  aw : ∀ i g, c.own br i = some g → Away p b w g
  rng : ∀ i g, c.own br i = some g → g < Bp ∨ p < g
  ay : Away p b w c.y
  py : p < c.y
  un : Und p b c.w0 w
section
variable {k Bp p : Nat} {c : Rc} {b b' : Bl} {br br' : Rw} {d d' e e' : Det} {l l' m m' : List Int} {w w' : World}
theorem Bo.code (h : Bo k Bp p c b br d e l m w) (h' : Sx k Bp p b' d' l' w') (S : Stp p b w b' w') : Bo k Bp p c b' br d' e l' m w' :=
  ⟨h', h.r.keep S.size (fun i g hg => S.keep (h.aw i g hg)) (h.r.lots.keep (S.keep h.ay) ⟨S.os, S.tape, S.output, S.size, fun g hg => S.block g (by have := h.un.below.size; omega) (fun e => by have := h.un.p; omega) (fun i e => by have := h.un.own i g e; omega)⟩), fun i g hg => (h.aw i g hg).stp S, h.rng, h.ay.stp S, h.py, h.un.stp S⟩
theorem Bo.ref (h : Bo k Bp p c b br d e l m w) (h' : Ry c br' e' m' w') (S : Sr c br w br' w') : Bo k Bp p c b br' d e' l m' w' := by
  have hb : ∀ i g, b.own i = some g → w'.heap[g]? = w.heap[g]? := fun i g hg => S.block g (h.s.dt.sep.lt i g hg).2 (fun e => h.ay.own i (e ▸ hg)) (fun j e => (h.aw j g e).own i hg)
  have h1 : w'.heap[1]? = w.heap[1]? := S.block 1 h.s.dt.tab.lt (fun e => by have := h.py; have := h.s.low; have := h.s.lots.le; omega) (fun j e => by have := (h.r.lt j e).1; omega)
  have hl : ∀ g, Bp ≤ g → g ≤ p → w'.heap[g]? = w.heap[g]? := fun g _ _ => S.block g (by have := h.s.lots.lt; omega) (fun e => by have := h.py; omega) (fun j e => by have := h.rng j g e; omega)
  refine ⟨⟨h.s.dt.keep S.size hb h1, h.s.lots.keep hl, h.s.lok, h.s.out, h.s.low⟩, h', fun i g hg => ?_, fun i g hg => ?_, ⟨Nat.lt_of_lt_of_le h.ay.lt S.size, h.ay.p, h.ay.own⟩, h.py, ⟨h'.lots.below, h.un.p, h.un.own⟩⟩
  · rcases S.fr i g hg with e | e
    · have a := h.aw i g e
      exact ⟨Nat.lt_of_lt_of_le a.lt S.size, a.p, a.own⟩
    · exact ⟨(h'.lt i hg).2, fun e' => by have := h.s.lots.lt; omega, fun j e' => by have := (h.s.dt.sep.lt j g e').2; omega⟩
  · rcases S.fr i g hg with e | e
    · exact h.rng i g e
    · have := h.s.lots.lt
      omega
theorem Bo.below (h : Bo k Bp p c b br d e l m w) (hb : Below w.heap.size w w') : Bo k Bp p c b br d e l m w' := h.code (h.s.below hb) (Stp.of hb)
structure Ns (v : Value) (X : List NtX) (w : World) : Prop where
  rd : RdE encN v X w
  news : ∀ x ∈ X, Ro.Ru (.slice x.a x.L x.c) x.n.u w
theorem Ns.below {v : Value} {X : List NtX} (h : Ns v X w) (hb : Below w.heap.size w w') : Ns v X w' := ⟨h.rd.below hb, fun x hx => (h.news x hx).keep fun g _ hlt => hb.block g hlt⟩
theorem Sd.ns {w0 : World} {v : Value} {X : List NtX} (h : Fx.Sd c br w0 v X w) : Ns v X w := ⟨h.row.rd, fun x hx => (h.news x hx).ru⟩
theorem Bo.said {w0 : World} {v : Value} {X : List NtX} (h0 : Bo k Bp p c b br d e l m w0) (hs : YtpoofjnfaijjjaaGreatDoor.Sd p b' w0 v X w) (S : Sr c br w br' w') : Ns v X w' := by
  have hk : ∀ g, w0.heap.size ≤ g → g < w.heap.size → w'.heap[g]? = w.heap[g]? := fun g h1 h2 => S.block g h2 (fun e => by have := h0.ay.lt; omega) (fun i e => by have := (h0.aw i g e).lt; omega)
  exact ⟨(hs.row.keep fun g hg hlt => hk g (hs.row.lt g hg).1 hlt).rd, fun x hx => ((hs.news x hx).keep fun g hg hlt => hk g ((hs.news x hx).lt g hg).1 hlt).ru⟩
end
structure Rp (c : Rc) (b : Rw) (d : Det) (w : World) : Prop where
  ok : d.Ok c.k
  heap : w.heap[c.q]? = some (.cells (c.cells b d) 63 (0, 0))
  roll : pR c b.v d.f w
  que : pQ c b.vq d.Q w
  dou : pD c b.vd d.D w
  rou : pS c b.vs d.s w
  ws : OwE encW 65 0 b.vw d.W w
  es : QuE encE 116 b.ve d.E w
  sep : Sep (c.own b) w.heap.size
section
variable {c : Rc} {b : Rw} {d : Det} {w w' : World}
theorem Rp.below (h : Rp c b d w) (hb : Below w.heap.size w w') : Rp c b d w' := by
  have hw : ∀ i g, c.own b i = some g → w'.heap[g]? = w.heap[g]? := fun i g hg => hb.block g (h.sep.lt i g hg).2
  exact ⟨h.ok, (hw 0 _ rfl).trans h.heap, h.roll.keep (hw 1 _ rfl) (hw 5), h.que.keep (hw 2 _ rfl) (hw 6), h.dou.keep (hw 3 _ rfl) (hw 7), h.rou.keep (hw 4 _ rfl) (hw 8), h.ws.keep fun g hg _ => hw 9 g hg, h.es.keep fun g hg _ => hw 10 g hg,
    ⟨h.sep.one, fun i g hg => by have := h.sep.lt i g hg; have := hb.size; omega⟩⟩
theorem Rp.ry {q r qq qd qs : Nat} {k : Nat} {la : Option Addr} {lcap : Nat} {L : List Int} {w0 : World} (h : ∀ y, Rp ⟨k, q, r, qq, qd, qs, y, w0, la, lcap, L⟩ b d w) (hlo : ∀ y i g, (⟨k, q, r, qq, qd, qs, y, w0, la, lcap, L⟩ : Rc).own b i = some g → w0.heap.size ≤ g)
    (hb : Below w0.heap.size w0 w) (hl : Rn.Rd .u64 (.slice la L.length lcap) L w0) (hok : Rn.Ok L) (hlen : L.length ≤ 1000000) :
    Ry ⟨k, q, r, qq, qd, qs, w.heap.size, w0, la, lcap, L⟩ b d L (w.alloc (.cells #[.slice la L.length lcap, .int .i64 0] 33)) := by
  have ba := below_alloc w (.cells #[.slice la L.length lcap, .int .i64 0] 33)
  have h1 := (h w.heap.size).below ba
  have h0 := h w.heap.size
  exact ⟨h1.ok, h1.heap, h1.roll, h1.que, h1.dou, h1.rou, h1.ws, h1.es, h1.sep, ⟨⟨0, Nat.zero_le _, rfl, heap_alloc_new w _⟩, bT hb ba, hb.size⟩, hok, fun i g hg => ⟨fun e => by have := (h0.sep.lt i g hg).2; simp only at e; omega, hlo _ i g hg⟩, hl, hlen⟩
end
section
variable {w : World}
theorem fnew_none (me : Int) (h : ¬ (0 ≤ me ∧ me < 64)) (w : World) : Calls Tryz.prog 10 #[.int .i64 me] w fun e w' => e = .returned (.pointer none) ∧ Below w.heap.size w w' := by
  have hn := Ro.rnew_none me h w
  go_enter Tryz.func10, Tryz.ntmps10
  go_wp2_with fail
  refine hn.mono ?_
  rintro e w1 ⟨rfl, b1⟩
  go_wp2_with fail
  go_ret
  exact ⟨rfl, b1⟩
set_option maxRecDepth 100000 in
set_option maxHeartbeats 4000000 in
theorem fnew_any (k : Nat) (hk : k < 64) (w : World) (hT : 1 < w.heap.size) : Calls Tryz.prog 10 #[.int .i64 k] w fun e w' => ∃ (q r qq qd qs : Nat) (b : Rw), e = .returned (.pointer (some ⟨q, 0, none⟩)) ∧ Below w.heap.size w w' ∧ ∀ y w0 la lcap L, Rp ⟨k, q, r, qq, qd, qs, y, w0, la, lcap, L⟩ b (Det.new k) w' ∧ ∀ i g, (⟨k, q, r, qq, qd, qs, y, w0, la, lcap, L⟩ : Rc).own b i = some g → w.heap.size ≤ g := by
  have hn := Ro.rnew_some k hk w
  go_enter Tryz.func10, Tryz.ntmps10
  go_wp2_with fail
  refine hn.mono ?_
  rintro e w1 ⟨⟨r, rfl, hr0, v, hR⟩, b1⟩
  have hz1 := b1.size
  have hrl : r < w1.heap.size := (Array.getElem?_eq_some_iff.1 hR.heap).1
  have hvl := hR.row.lt
  have b2 := below_alloc w1 (.cells #[.slice none 0 0] 100)
  have q2 : (w1.alloc (.cells #[.slice none 0 0] 100)).heap[w1.heap.size]? = _ := heap_alloc_new w1 _
  have z2 : (w1.alloc (.cells #[.slice none 0 0] 100)).heap.size = w1.heap.size + 1 := by simp
  obtain ⟨w2, HW2⟩ : ∃ w2, Hid (w2 = w1.alloc (.cells #[.slice none 0 0] 100)) := ⟨_, rfl⟩
  rw [← HW2.out] at b2 q2 z2
  have b3 := below_alloc w2 (.cells #[.slice none 0 0] 103)
  have q3 : (w2.alloc (.cells #[.slice none 0 0] 103)).heap[w2.heap.size]? = _ := heap_alloc_new w2 _
  have z3 : (w2.alloc (.cells #[.slice none 0 0] 103)).heap.size = w2.heap.size + 1 := by simp
  obtain ⟨w3, HW3⟩ : ∃ w3, Hid (w3 = w2.alloc (.cells #[.slice none 0 0] 103)) := ⟨_, rfl⟩
  rw [← HW3.out] at b3 q3 z3
  have b4 := below_alloc w3 (.cells #[.slice none 0 0] 105)
  have q4 : (w3.alloc (.cells #[.slice none 0 0] 105)).heap[w3.heap.size]? = _ := heap_alloc_new w3 _
  have z4 : (w3.alloc (.cells #[.slice none 0 0] 105)).heap.size = w3.heap.size + 1 := by simp
  obtain ⟨w4, HW4⟩ : ∃ w4, Hid (w4 = w3.alloc (.cells #[.slice none 0 0] 105)) := ⟨_, rfl⟩
  rw [← HW4.out] at b4 q4 z4
  obtain ⟨N, HN⟩ : ∃ N, Hid (w1.heap.size = N) := ⟨_, rfl⟩
  rw [HN.out] at z2 q2 hrl hvl hz1
  rw [z2] at z3 q3
  rw [z3] at z4 q4
  have q5 : (w4.alloc (.cells #[.int .i64 k, .pointer (some ⟨r, 0, none⟩), .pointer (some ⟨N, 0, none⟩), .pointer (some ⟨N + 1, 0, none⟩), .pointer (some ⟨N + 1 + 1, 0, none⟩), .slice none 0 0, .slice none 0 0, .int .u64 0, .int .u64 0, .bool false] 63)).heap[w4.heap.size]? = _ := heap_alloc_new w4 _
  have b5 := below_alloc w4 (.cells #[.int .i64 k, .pointer (some ⟨r, 0, none⟩), .pointer (some ⟨N, 0, none⟩), .pointer (some ⟨N + 1, 0, none⟩), .pointer (some ⟨N + 1 + 1, 0, none⟩), .slice none 0 0, .slice none 0 0, .int .u64 0, .int .u64 0, .bool false] 63)
  have z5 : (w4.alloc (.cells #[.int .i64 k, .pointer (some ⟨r, 0, none⟩), .pointer (some ⟨N, 0, none⟩), .pointer (some ⟨N + 1, 0, none⟩), .pointer (some ⟨N + 1 + 1, 0, none⟩), .slice none 0 0, .slice none 0 0, .int .u64 0, .int .u64 0, .bool false] 63)).heap.size = w4.heap.size + 1 := by simp
  rw [z4] at q5 z5
  obtain ⟨w5, HW5⟩ : ∃ w5, Hid (w5 = w4.alloc (.cells #[.int .i64 k, .pointer (some ⟨r, 0, none⟩), .pointer (some ⟨N, 0, none⟩), .pointer (some ⟨N + 1, 0, none⟩), .pointer (some ⟨N + 1 + 1, 0, none⟩), .slice none 0 0, .slice none 0 0, .int .u64 0, .int .u64 0, .bool false] 63)) := ⟨_, rfl⟩
  rw [← HW5.out] at q5 b5 z5
  go_upto_region 5 with fail
  rw [HN.out, ← HW2.out, ← HW3.out, ← HW4.out, ← HW5.out]
  have b15 : Below w1.heap.size w1 w5 := bT (bT (bT b2 b3) b4) b5
  rw [HN.out] at b15
  have k2 : w5.heap[N]? = _ := (b5.block N (by omega)).trans ((b4.block N (by omega)).trans ((b3.block N (by omega)).trans q2))
  have k3 : w5.heap[N + 1]? = _ := (b5.block (N + 1) (by omega)).trans ((b4.block (N + 1) (by omega)).trans q3)
  have k4 : w5.heap[N + 1 + 1]? = _ := (b5.block (N + 1 + 1) (by omega)).trans q4
  have hR5 : Rf w.heap.size r k v [⟨k, 0, 0⟩] w5 := rf_keep hR (b15.block r hrl) (fun g hg => b15.block g (hvl g hg).2)
  have hR6 : Rf w.heap.size r k v [⟨k, 0, 0⟩] w5.drew := rf_keep hR5 rfl (fun _ _ => rfl)
  have hg := good_new hk
  have hmn := fun W hR' => Ro.rmine_any w.heap.size r k v [⟨k, 0, 0⟩] W (by simp) hR'
  have egk : getK [(⟨k, 0, 0⟩ : Upd)] k = some ⟨k, 0, 0⟩ := by rw [rf_get (tabK_new k) hg, getS_me hk, newS, Tab.set_same]
  rw [egk] at hmn
  have hmn : ∀ W, Rf w.heap.size r k v [⟨k, 0, 0⟩] W → Calls Tryz.prog 36 #[.pointer (some ⟨r, 0, none⟩)] W fun e w' => e = .returned (.agg #[.int .i64 k, .int .u64 0, .int .i64 0]) ∧ Below W.heap.size W w' := hmn
  have c2 : w5.cell? ⟨N + 1 + 1 + 1, 2, none⟩ = some (.pointer (some ⟨N, 0, none⟩)) := by simp [World.cell?, q5]
  have hkc : ∀ W, Below w5.heap.size w5 W → W.cell? ⟨N + 1 + 1 + 1, 2, none⟩ = some (.pointer (some ⟨N, 0, none⟩)) := fun W hb => (Below.cell (p := ⟨N + 1 + 1 + 1, 2, none⟩) hb (by show N + 1 + 1 + 1 < _; omega)).trans c2
  have hput := fun W (hq : Ru.Rq (fun g => w5.heap.size ≤ g) N [] W) (hz : w5.heap.size ≤ W.heap.size) => Ru.fput_any (fun g => w5.heap.size ≤ g) N [] (by simp) k 0 0 W hq (fun g hg => Nat.le_trans hz hg)
  have hQ5 : ∀ W, Below w5.heap.size w5 W → Ru.Rq (fun g => w5.heap.size ≤ g) N [] W := fun W hb => ⟨by omega, none, 0, (hb.block N (by omega)).trans k2, ⟨none, 0, rfl, Nat.le_refl _, Nat.zero_le _, .inl rfl⟩, (fun g hg => by cases hg), .inl rfl⟩
  have hE0 : Below w5.heap.size w5 w5.drew := bD (Below.refl _ _)
  go_region_held3 (fun w' => w'.cell? ⟨N + 1 + 1 + 1, 2, none⟩ = some (.pointer (some ⟨N, 0, none⟩))) (first | exact c2 | exact hS6 | exact hS7) ((first
    | (go_at_call 36; refine (hmn _ hR6).mono ?_; rintro e w6 ⟨rfl, hb6⟩; have hE6 := bT hE0 hb6; have hS6 := hkc _ hE6)
    | (go_at_call 35; refine (hput _ (hQ5 _ hE6) hE6.size).mono ?_; rintro e w7 ⟨rfl, hQ7, hB7⟩; have hS7 : w7.cell? ⟨N + 1 + 1 + 1, 2, none⟩ = some (.pointer (some ⟨N, 0, none⟩)) := (World.cell?_of_block (w := w6) (a := ⟨N + 1 + 1 + 1, 2, none⟩) (hB7.block _ (by have := hE6.size; show N + 1 + 1 + 1 < _; omega) (by show N + 1 + 1 + 1 ≠ N; omega))).trans hS6)))
  all_goals
    go_wp2_with fail
    go_ret
    have hz6 := hE6.size
    have hz7 := hB7.size
    have hk7 : ∀ g, g < w5.heap.size → g ≠ N → w7.heap[g]? = w5.heap[g]? := fun g h1 h2 => (hB7.block g (by omega) h2).trans (hE6.block g h1)
    have hb7 : Below w.heap.size w w7 := ⟨hB7.os.trans (hE6.os.trans (b15.os.trans b1.os)), hB7.tape.trans (hE6.tape.trans (b15.tape.trans b1.tape)), hB7.output.trans (hE6.output.trans (b15.output.trans b1.output)), by omega, fun g hg' => (hk7 g (by omega) (by omega)).trans ((b15.block g (by omega)).trans (b1.block g hg'))⟩
    obtain ⟨a, cap, e1, e2, e3, e4⟩ := hQ7.is
    have o := bare_ok hk
    have hown : ∀ y w0 la lcap L i g, (⟨k, N + 1 + 1 + 1, r, N, N + 1, N + 1 + 1, y, w0, la, lcap, L⟩ : Rc).own ⟨v, .slice a (Ru.putQ [] ((k : Int), 0, 0)).length cap, .slice none 0 0, .slice none 0 0, .slice none 0 0, .slice none 0 0⟩ i = some g →
        (i = 0 ∧ g = N + 1 + 1 + 1) ∨ (i = 1 ∧ g = r) ∨ (i = 2 ∧ g = N) ∨ (i = 3 ∧ g = N + 1) ∨ (i = 4 ∧ g = N + 1 + 1) ∨ (i = 5 ∧ g < N ∧ g ≠ r ∧ w.heap.size ≤ g) ∨ (i = 6 ∧ w5.heap.size ≤ g ∧ g < w7.heap.size) := by
      intro y w0 la lcap L i g hg'
      rcases ridx (i := i) with rfl | rfl | rfl | rfl | rfl | rfl | rfl | rfl | rfl | rfl | rfl | hi
      · exact .inl ⟨rfl, (Option.some.inj hg').symm⟩
      · exact .inr (.inl ⟨rfl, (Option.some.inj hg').symm⟩)
      · exact .inr (.inr (.inl ⟨rfl, (Option.some.inj hg').symm⟩))
      · exact .inr (.inr (.inr (.inl ⟨rfl, (Option.some.inj hg').symm⟩)))
      · exact .inr (.inr (.inr (.inr (.inl ⟨rfl, (Option.some.inj hg').symm⟩))))
      · have hv := hvl g hg'
        exact .inr (.inr (.inr (.inr (.inr (.inl ⟨rfl, hv.2, fun e => hR.ne (e ▸ hg'), hv.1⟩)))))
      · obtain ⟨h3, cur, h4⟩ := e3 g hg'
        exact .inr (.inr (.inr (.inr (.inr (.inr ⟨rfl, h3, (Array.getElem?_eq_some_iff.1 h4).1⟩)))))
      · cases hg'
      · cases hg'
      · cases hg'
      · cases hg'
      · rw [rown_hi _ _ hi] at hg'; cases hg'
    refine ⟨_, r, N, N + 1, N + 1 + 1, ⟨v, .slice a (Ru.putQ [] ((k : Int), 0, 0)).length cap, .slice none 0 0, .slice none 0 0, .slice none 0 0, .slice none 0 0⟩, rfl, hb7, fun y w0 la lcap L => ⟨⟨?_, ?_, ?_, ?_, ?_, ?_, ?_, ?_, ?_⟩, fun i g hg' => ?_⟩⟩
    · exact ⟨o.k64, o.inv, o.qi.put (u := ⟨k, 0, 0⟩) u0, Ru.putQ_length o.ql _, o.di, o.s1, o.s2, o.W, o.E, o.el, o.la, o.no⟩
    · exact (hk7 (N + 1 + 1 + 1) (by omega) (by omega)).trans q5
    · exact ⟨[⟨k, 0, 0⟩], tabK_new k, hg, rf_keep ⟨hR5.heap, hR5.row.mono (Nat.zero_le _), hR5.ne⟩ (hk7 r (by omega) (by omega)) (fun g hg' => hk7 g (by have := (hvl g hg').2; omega) (by have := (hvl g hg').2; omega))⟩
    · exact ⟨e1, ⟨fun e => hQ7.lt_ (e3 _ e).1, a, cap, e1, e2, fun g hg' => ⟨hg', (e3 g hg').2⟩, e4⟩⟩
    · have h3 := (hk7 (N + 1) (by omega) (by omega)).trans k3
      exact ⟨h3, [], List.Perm.refl _, ⟨(fun e => by cases e), .slice none 0 0, h3, ⟨by simp [Do.flatD], .inl ⟨rfl, rfl⟩⟩, fun g hg' => hg'⟩⟩
    · exact ⟨(hk7 (N + 1 + 1) (by omega) (by omega)).trans k4, none, 0, rfl, Nat.le_refl _, Nat.zero_le _, fun _ => rfl, .inl rfl⟩
    · exact OwE.nil _ _ _ _
    · exact ⟨none, 0, rfl, Nat.le_refl _, Nat.zero_le _, .inl ⟨rfl, rfl⟩⟩
    · refine ⟨fun i j g hi hj => ?_, fun i g hi => ?_⟩
      · rcases hown _ _ _ _ _ i g hi with h | h | h | h | h | h | h <;> rcases hown _ _ _ _ _ j g hj with h' | h' | h' | h' | h' | h' | h' <;> omega
      · rcases hown _ _ _ _ _ i g hi with h | h | h | h | h | h | h <;> omega
    · rcases hown _ _ _ _ _ i g hg' with h | h | h | h | h | h | h <;> omega
set_option maxRecDepth 100000 in
set_option maxHeartbeats 1000000 in
theorem fknow_any {c : Rc} {b : Rw} {d : Det} {m : List Int} (h : Ry c b d m w) (u : Upd) (hu : U64 u.i) : Calls Tryz.prog 18 #[.pointer (some ⟨c.q, 0, none⟩), .agg #[.int .i64 u.n, .int .u64 u.i, .int .i64 u.s], .pointer (some ⟨c.y, 0, none⟩)] w fun e w' => e = .returned (.int .i64 (d.take c.k u c.k m).1) ∧ ∃ b', Ry c b' (d.take c.k u c.k m).2.1 (d.take c.k u c.k m).2.2 w' ∧ Sr c b w b' w' := by
  have ba := below_alloc w (.cells #[.int .i64 u.n, .int .u64 u.i, .int .i64 u.s] 39)
  have hX := Bx.new 39 u.n u.i u.s w
  have h1 := h.below ba
  have hA := h.off (w' := w.alloc (.cells #[.int .i64 u.n, .int .u64 u.i, .int .i64 u.s] 39)) (Nat.le_refl _) hX.lt
  have s1 : Sr c b w b _ := Sr.of ba
  obtain ⟨w1, HW1⟩ : ∃ w1, Hid (w1 = w.alloc (.cells #[.int .i64 u.n, .int .u64 u.i, .int .i64 u.s] 39)) := ⟨_, rfl⟩
  rw [← HW1.out] at hX h1 hA s1
  have hS1 := And.intro h1.c0 (And.intro hX.c0 (And.intro hX.c1 hX.c2))
  go_enter Tryz.func18, Tryz.ntmps18
  go_upto_region 1 with fail
  rw [← HW1.out]
  go_region_held3 (fun w' => w'.cell? ⟨c.q, 0, none⟩ = some (.int .i64 c.k) ∧ w'.cell? ⟨w.heap.size, 0, none⟩ = some (.int .i64 u.n) ∧ w'.cell? ⟨w.heap.size, 1, none⟩ = some (.int .u64 u.i) ∧ w'.cell? ⟨w.heap.size, 2, none⟩ = some (.int .i64 u.s)) (first | exact hS1 | exact hS2) ((first
    | (go_at_call 48; refine (ftk_any h1.drew u c.k hu).mono ?_; rintro e w2 ⟨rfl, b2, h2, s2, u2⟩; have hX2 := bx_off hX.drew hA.drew s2; have hS2 := And.intro h2.c0 (And.intro hX2.c0 (And.intro hX2.c1 hX2.c2)))))
  all_goals
    go_wp2_with fail
    go_ret
    exact ⟨rfl, b2, h2, s1.drew.trans s2⟩
theorem fleave_any {c : Rc} {b : Rw} {d : Det} {m : List Int} (h : Ry c b d m w) : Calls Tryz.prog 20 #[.pointer (some ⟨c.q, 0, none⟩)] w fun e w' => e = .returned (.int .i64 (if d.le = true then 5 else 0)) ∧ Ry c b { d with le := true } m w' ∧ Sr c b w b w' := by
  have hc := h.c9
  have hf := h.free 9
  have hok := h.ok
  obtain ⟨h1, h2⟩ := h.setN (d' := { d with le := true }) 9 (.bool true) rfl ⟨hok.k64, hok.inv, hok.qi, hok.ql, hok.di, hok.s1, hok.s2, hok.W, hok.E, hok.el, hok.la, hok.no⟩ rfl rfl rfl rfl rfl rfl
  cases hle : d.le
  case true =>
    have hd : ({ d with le := true } : Det) = d := by rw [← hle]
    rw [hle] at hc
    go_enter Tryz.func20, Tryz.ntmps20
    go_wp2_with fail
    go_ret
    exact ⟨rfl, ‹Ry c b d m w›, Sr.refl _ _ _⟩
  case false =>
    rw [hle] at hc
    go_enter Tryz.func20, Tryz.ntmps20
    go_wp2_with fail
    go_ret
    exact ⟨rfl, h1, h2⟩
end
theorem eqU_refl (u : Upd) : eqU u u = true := by simp [eqU]
set_option maxRecDepth 100000 in
set_option maxHeartbeats 1000000 in
theorem rsame_any (v u : Value) (l : List Upd) (w : World) (h1 : Ru v l w) (h2 : Ru u l w) :
    Calls Tryz.prog 61 #[v, u] w fun e w' => e = .returned (.bool true) ∧ Below w.heap.size w w' := by
  obtain ⟨a1, cap1, rfl, m1, n1, k1⟩ := id h1
  obtain ⟨a2, cap2, rfl, m2, n2, k2⟩ := id h2
  have hl : (l.length : Int) ≤ 9223372036854775807 := by unfold maxLen at n1; omega
  go_enter Tryz.func61, Tryz.ntmps61
  go_wp2_with fail
  go_loopg [5] l.length (fun gk t5 wr => ∃ i : Nat, i + gk = l.length ∧ t5 = .int .i64 i ∧ Below w.heap.size w wr)
  case atStart => exact ⟨0, by omega, rfl, Below.refl _ _⟩
  case round =>
    obtain ⟨i, hi, rfl, hB⟩ := hrel
    by_cases hlt : (i : Int) < l.length
    · have i0 : (0 : Int) ≤ i := by omega
      have hil : i < l.length := by omega
      rcases k1 with k1 | ⟨g1, o1, rfl, k1⟩
      · omega
      rcases k2 with k2 | ⟨g2, o2, rfl, k2⟩
      · omega
      obtain ⟨x0, x1, x2⟩ : wr.cell? ⟨g1, o1 + i * 3, none⟩ = some (.int .i64 l[i].n) ∧ wr.cell? ⟨g1, o1 + i * 3 + 1, none⟩ = some (.int .u64 l[i].i) ∧ wr.cell? ⟨g1, o1 + i * 3 + 2, none⟩ = some (.int .i64 l[i].s) := by
        obtain ⟨_, _, e, _, _, e3⟩ := h1.below hB
        cases e
        rcases e3 with e3 | ⟨g', off', e, e3⟩
        · omega
        · cases e; exact e3 i hil
      obtain ⟨y0, y1, y2⟩ : wr.cell? ⟨g2, o2 + i * 3, none⟩ = some (.int .i64 l[i].n) ∧ wr.cell? ⟨g2, o2 + i * 3 + 1, none⟩ = some (.int .u64 l[i].i) ∧ wr.cell? ⟨g2, o2 + i * 3 + 2, none⟩ = some (.int .i64 l[i].s) := by
        obtain ⟨_, _, e, _, _, e3⟩ := h2.below hB
        cases e
        rcases e3 with e3 | ⟨g', off', e, e3⟩
        · omega
        · cases e; exact e3 i hil
      have hq := run_neqU l[i] l[i]
      rw [eqU_refl] at hq
      generalize l[i] = x at *
      clear k1 k2
      go_wp2_with fail
      go_quiet (fail)
      go_wp2_with fail
      go_roundg (gk - 1)
      case rel => exact ⟨i + 1, by omega, by go_num, hB.trans (Ro.below_drewN _ _ _)⟩
      case measure => omega
    · go_wp2_with fail
      go_ret
      exact ⟨rfl, hB⟩
section
variable {w : World}
set_option maxRecDepth 100000 in
set_option maxHeartbeats 1000000 in
theorem samenote_any (K F T Q O : Int) (u : List Upd) (a1 a2 : Option Addr) (L1 L2 c1 c2 : Nat) (h1 : Ro.Ru (.slice a1 L1 c1) u w) (h2 : Ro.Ru (.slice a2 L2 c2) u w) :
    Calls Tryz.prog 38 #[.agg (ntC K F T Q O (.slice a1 L1 c1)), .agg (ntC K F T Q O (.slice a2 L2 c2))] w fun e w' => e = .returned (.bool true) ∧ Below w.heap.size w w' := by
  have b1 := below_alloc w (.cells (ntC K F T Q O (.slice a1 L1 c1)) 52)
  have hA := Fx.Bn.new K F T Q O (.slice a1 L1 c1) w
  obtain ⟨w1, HW1⟩ : ∃ w1, Hid (w1 = w.alloc (.cells (ntC K F T Q O (.slice a1 L1 c1)) 52)) := ⟨_, rfl⟩
  have hz : w1.heap.size = w.heap.size + 1 := by rw [HW1.out]; simp
  rw [← HW1.out] at b1 hA
  have b2 := below_alloc w1 (.cells (ntC K F T Q O (.slice a2 L2 c2)) 52)
  have hB := Fx.Bn.new K F T Q O (.slice a2 L2 c2) w1
  have hA2 := hA.below b2
  have b12 := bT b1 b2
  obtain ⟨w2, HW2⟩ : ∃ w2, Hid (w2 = w1.alloc (.cells (ntC K F T Q O (.slice a2 L2 c2)) 52)) := ⟨_, rfl⟩
  rw [← HW2.out] at b12 hB hA2
  rw [hz] at hB
  have hs := rsame_any (.slice a1 L1 c1) (.slice a2 L2 c2) u w2 (h1.keep fun g _ hlt => b12.block g hlt) (h2.keep fun g _ hlt => b12.block g hlt)
  have x0 := hA2.c0
  have x1 := hA2.c1
  have x2 := hA2.c2
  have x3 := hA2.c3
  have x4 := hA2.c4
  have x5 := hA2.c5
  have y0 := hB.c0
  have y1 := hB.c1
  have y2 := hB.c2
  have y3 := hB.c3
  have y4 := hB.c4
  have y5 := hB.c5
  go_enter Tryz.func38, Tryz.ntmps38
  go_upto_region 1 with fail
  rw [← HW1.out, ← HW2.out]
  go_wp2_with fail
  refine hs.mono ?_
  rintro e w3 ⟨rfl, b3⟩
  go_wp2_with fail
  go_ret
  exact ⟨rfl, bT b12 b3⟩
set_option maxRecDepth 100000 in
set_option maxHeartbeats 2000000 in
theorem same_any (v u : Value) (X Y : List NtX) (hv : Ns v X w) (hu : Ns u Y w) (hXY : X.map NtX.n = Y.map NtX.n) :
    Calls Tryz.prog 12 #[v, u] w fun e w' => e = .returned (.bool true) ∧ Below w.heap.size w w' := by
  have hlen : X.length = Y.length := by have := congrArg List.length hXY; simpa using this
  obtain ⟨a1, cap1, rfl, m1, n1, k1⟩ := id hv.rd
  obtain ⟨a2, cap2, rfl, m2, n2, k2⟩ := id hu.rd
  rw [← hlen]
  obtain ⟨N, HN⟩ : ∃ N, Hid (X.length = N) := ⟨_, rfl⟩
  have hl : (X.length : Int) ≤ 9223372036854775807 := by unfold maxLen at n1; omega
  rw [HN.out] at hl ⊢
  go_enter Tryz.func12, Tryz.ntmps12
  go_wp2_with fail
  go_loopg [5] N (fun gk t5 wr => ∃ i : Nat, i + gk = N ∧ t5 = .int .i64 i ∧ Below w.heap.size w wr)
  case atStart => exact ⟨0, by omega, rfl, Below.refl _ _⟩
  case round =>
    obtain ⟨i, hi, rfl, hB⟩ := hrel
    by_cases hlt : (i : Int) < N
    · have i0 : (0 : Int) ≤ i := by omega
      have hil : i < X.length := by rw [HN.out]; omega
      have hil2 : i < Y.length := by rw [← hlen]; exact hil
      rcases k1 with k1 | ⟨g1, o1, rfl, k1⟩
      · omega
      rcases k2 with k2 | ⟨g2, o2, rfl, k2⟩
      · omega
      have hrow : ∀ (g o n cp : Nat) (Z : List NtX) (hz : i < Z.length), RdE encN (.slice (some ⟨g, o, none⟩) n cp) Z wr → wr.cell? ⟨g, o + i * 6, none⟩ = some (.int .i64 Z[i].n.k) ∧ wr.cell? ⟨g, o + i * 6 + 1, none⟩ = some (.int .i64 Z[i].n.f) ∧ wr.cell? ⟨g, o + i * 6 + 2, none⟩ = some (.int .i64 Z[i].n.t) ∧ wr.cell? ⟨g, o + i * 6 + 3, none⟩ = some (.int .u64 Z[i].n.q) ∧ wr.cell? ⟨g, o + i * 6 + 4, none⟩ = some (.int .i64 Z[i].n.o) ∧ wr.cell? ⟨g, o + i * 6 + 5, none⟩ = some (.slice Z[i].a Z[i].L Z[i].c) := by
        intro g o n cp Z hz hr
        obtain ⟨_, _, e, _, _, e3⟩ := hr
        cases e
        rcases e3 with e3 | ⟨g', o', e, e3⟩
        · omega
        · cases e
          have hc := fun c hc => e3 i c hz hc
          refine ⟨hc 0 (by decide), ?_, ?_, ?_, ?_, ?_⟩
          · rw [Nat.add_assoc]; exact hc 1 (by decide)
          · rw [Nat.add_assoc]; exact hc 2 (by decide)
          · rw [Nat.add_assoc]; exact hc 3 (by decide)
          · rw [Nat.add_assoc]; exact hc 4 (by decide)
          · rw [Nat.add_assoc]; exact hc 5 (by decide)
      obtain ⟨x0, x1, x2, x3, x4, x5⟩ := hrow g1 o1 _ _ X hil (hv.rd.below hB)
      obtain ⟨y0, y1, y2, y3, y4, y5⟩ := hrow g2 o2 _ _ Y hil2 (hu.rd.below hB)
      have r1 := ((hv.below hB).news X[i] (List.getElem_mem hil))
      have r2 := ((hu.below hB).news Y[i] (List.getElem_mem hil2))
      have e12 : X[i].n = Y[i].n := by
        have := congrArg (fun l => l[i]?) hXY
        simpa [List.getElem?_map, List.getElem?_eq_getElem hil, List.getElem?_eq_getElem hil2] using this
      obtain ⟨Z, HZ⟩ : ∃ Z, Hid (X[i] = Z) := ⟨X[i], rfl⟩
      obtain ⟨V, HV⟩ : ∃ V, Hid (Y[i] = V) := ⟨Y[i], rfl⟩
      rw [HZ.out] at x0 x1 x2 x3 x4 x5 r1 e12
      rw [HV.out] at y0 y1 y2 y3 y4 y5 r2 e12
      clear HZ HV hrow k1 k2
      obtain ⟨⟨K, F, T, Q, O, U⟩, za, zL, zc⟩ := Z
      obtain ⟨nv, ya, yL, yc⟩ := V
      dsimp only at x0 x1 x2 x3 x4 x5 y0 y1 y2 y3 y4 y5 r1 r2 e12
      subst e12
      dsimp only at y0 y1 y2 y3 y4 y5 r2
      have r1 : Ro.Ru (.slice za zL zc) U wr.drew := r1.keep fun _ _ _ => rfl
      have r2 : Ro.Ru (.slice ya yL yc) U wr.drew := r2.keep fun _ _ _ => rfl
      have hsn := samenote_any K F T Q O U za ya zL yL zc yc r1 r2
      have hSS : wr.drew.cell? ⟨g1, o1 + i * 6, none⟩ = some (.int .i64 K) ∧ wr.drew.cell? ⟨g1, o1 + i * 6 + 1, none⟩ = some (.int .i64 F) ∧ wr.drew.cell? ⟨g1, o1 + i * 6 + 2, none⟩ = some (.int .i64 T) ∧ wr.drew.cell? ⟨g1, o1 + i * 6 + 3, none⟩ = some (.int .u64 Q) ∧ wr.drew.cell? ⟨g1, o1 + i * 6 + 4, none⟩ = some (.int .i64 O) ∧ wr.drew.cell? ⟨g1, o1 + i * 6 + 5, none⟩ = some (.slice za zL zc) ∧
        wr.drew.cell? ⟨g2, o2 + i * 6, none⟩ = some (.int .i64 K) ∧ wr.drew.cell? ⟨g2, o2 + i * 6 + 1, none⟩ = some (.int .i64 F) ∧ wr.drew.cell? ⟨g2, o2 + i * 6 + 2, none⟩ = some (.int .i64 T) ∧ wr.drew.cell? ⟨g2, o2 + i * 6 + 3, none⟩ = some (.int .u64 Q) ∧ wr.drew.cell? ⟨g2, o2 + i * 6 + 4, none⟩ = some (.int .i64 O) ∧ wr.drew.cell? ⟨g2, o2 + i * 6 + 5, none⟩ = some (.slice ya yL yc) := ⟨x0, x1, x2, x3, x4, x5, y0, y1, y2, y3, y4, y5⟩
      obtain ⟨wd, HWD⟩ : ∃ wd, Hid (wd = wr.drew) := ⟨_, rfl⟩
      have hBd : Below w.heap.size w wr.drew := bD hB
      rw [← HWD.out] at hSS hsn hBd
      clear x0 x1 x2 x3 x4 x5 y0 y1 y2 y3 y4 y5
      go_upto_region 6 with fail
      refine wp_region_D (fun w' => w'.cell? ⟨g1, o1 + i * 6, none⟩ = some (.int .i64 K) ∧ w'.cell? ⟨g1, o1 + i * 6 + 1, none⟩ = some (.int .i64 F) ∧ w'.cell? ⟨g1, o1 + i * 6 + 2, none⟩ = some (.int .i64 T) ∧ w'.cell? ⟨g1, o1 + i * 6 + 3, none⟩ = some (.int .u64 Q) ∧ w'.cell? ⟨g1, o1 + i * 6 + 4, none⟩ = some (.int .i64 O) ∧ w'.cell? ⟨g1, o1 + i * 6 + 5, none⟩ = some (.slice za zL zc) ∧
        w'.cell? ⟨g2, o2 + i * 6, none⟩ = some (.int .i64 K) ∧ w'.cell? ⟨g2, o2 + i * 6 + 1, none⟩ = some (.int .i64 F) ∧ w'.cell? ⟨g2, o2 + i * 6 + 2, none⟩ = some (.int .i64 T) ∧ w'.cell? ⟨g2, o2 + i * 6 + 3, none⟩ = some (.int .u64 Q) ∧ w'.cell? ⟨g2, o2 + i * 6 + 4, none⟩ = some (.int .i64 O) ∧ w'.cell? ⟨g2, o2 + i * 6 + 5, none⟩ = some (.slice ya yL yc)) (fun _ => false) (by kernel_rfl) ?_
      rw [← HWD.out]
      refine wpAnyD_take (i := 0) (v := .slice (some ⟨g1, o1, none⟩) N cap1) rfl (by kernel_rfl) (by kernel_rfl) (by kernel_rfl) (by kernel_rfl) (fun _ _ _ h => h) (Or.inl ⟨by rfl, ?_⟩) hSS ?_
      · intro w0 hw0
        clear hw0
        go_simp
      refine wpAnyD_take (i := 1) (v := .int .i64 i) rfl (by kernel_rfl) (by kernel_rfl) (by kernel_rfl) (by kernel_rfl) (fun _ _ _ h => h) (Or.inl ⟨by rfl, ?_⟩) hSS ?_
      · intro w0 hw0
        clear hw0
        go_simp
      refine wpAnyD_take (i := 2) (v := .pointer (some ⟨g1, o1 + i * 6, none⟩)) rfl (by kernel_rfl) (by kernel_rfl) (by kernel_rfl) (by kernel_rfl) (fun _ _ _ h => h) (Or.inl ⟨by rfl, ?_⟩) hSS ?_
      · intro w0 hw0
        clear hw0
        go_simp
      refine wpAnyD_take (i := 3) (v := .agg (ntC K F T Q O (.slice za zL zc))) rfl (by kernel_rfl) (by kernel_rfl) (by kernel_rfl) (by kernel_rfl) (fun _ _ _ h => h) (Or.inl ⟨by rfl, ?_⟩) hSS ?_
      · intro w0 hw0
        obtain ⟨z0, z1, z2, z3, z4, z5, z6, z7, z8, z9, z10, z11⟩ := hw0
        go_simp
      refine wpAnyD_take (i := 4) (v := .slice (some ⟨g2, o2, none⟩) N cap2) rfl (by kernel_rfl) (by kernel_rfl) (by kernel_rfl) (by kernel_rfl) (fun _ _ _ h => h) (Or.inl ⟨by rfl, ?_⟩) hSS ?_
      · intro w0 hw0
        clear hw0
        go_simp
      refine wpAnyD_take (i := 5) (v := .int .i64 i) rfl (by kernel_rfl) (by kernel_rfl) (by kernel_rfl) (by kernel_rfl) (fun _ _ _ h => h) (Or.inl ⟨by rfl, ?_⟩) hSS ?_
      · intro w0 hw0
        clear hw0
        go_simp
      refine wpAnyD_take (i := 6) (v := .pointer (some ⟨g2, o2 + i * 6, none⟩)) rfl (by kernel_rfl) (by kernel_rfl) (by kernel_rfl) (by kernel_rfl) (fun _ _ _ h => h) (Or.inl ⟨by rfl, ?_⟩) hSS ?_
      · intro w0 hw0
        clear hw0
        go_simp
      refine wpAnyD_take (i := 7) (v := .agg (ntC K F T Q O (.slice ya yL yc))) rfl (by kernel_rfl) (by kernel_rfl) (by kernel_rfl) (by kernel_rfl) (fun _ _ _ h => h) (Or.inl ⟨by rfl, ?_⟩) hSS ?_
      · intro w0 hw0
        obtain ⟨z0, z1, z2, z3, z4, z5, z6, z7, z8, z9, z10, z11⟩ := hw0
        go_simp
      refine wpAnyD_one (i := 8) (by kernel_rfl) rfl (fun K hK => ?_)
      go_simp
      go_at_call 38
      refine hsn.mono ?_
      rintro e w8 ⟨rfl, b8⟩
      have hK8 : ∀ (a : Addr) (v : Value), wd.cell? a = some v → w8.cell? a = some v := fun a v hv => (Below.cell (p := a) b8 (World.block_lt_of_cell? _ _ hv)).trans hv
      have hS8 := And.imp (hK8 _ _) (And.imp (hK8 _ _) (And.imp (hK8 _ _) (And.imp (hK8 _ _) (And.imp (hK8 _ _) (And.imp (hK8 _ _) (And.imp (hK8 _ _) (And.imp (hK8 _ _) (And.imp (hK8 _ _) (And.imp (hK8 _ _) (And.imp (hK8 _ _) (hK8 _ _))))))))))) hSS
      refine hK _ _ (fun _ => hS8) ?_
      clear hK K
      refine wpAnyD_one (i := 9) (by kernel_rfl) rfl (fun K hK => ?_)
      go_simp
      refine hK _ _ (fun _ => hS8) ?_
      clear hK K
      refine wpAnyD_done (by kernel_rfl) ?_ _
      go_wp2_with fail
      go_roundg (gk - 1)
      case rel => exact ⟨i + 1, by omega, by go_num, bT hBd b8⟩
      case measure => omega
    · go_wp2_with fail
      go_ret
      exact ⟨rfl, hB⟩
end
end Go.Proofs.YtpoofjnfaijjjaaGreatDoor.Fx
