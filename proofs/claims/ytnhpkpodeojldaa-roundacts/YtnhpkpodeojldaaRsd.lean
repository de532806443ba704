/-
  A round and its lots, side by side.
-/
import Derived.Test.YtnhpkpodeojldaaWhl
namespace Go.Proofs.Ytnhpkpodeojldaa
open Go.RowKit

/-- A round at q and lots at p, all that was there at w0 being as it was. -/
structure Sd (w0 : World) (B Bp q p : Nat) (s l : List Int) (w : World) : Prop where
  rn : Rn 28 B q s w
  lt : Lt Bp p l w
  be : Below w0.heap.size w0 w
  ok : Ok l
  sl : s.length ≤ 1000
  qp : q < Bp ∨ p < q
  pB : p < B
  q0 : w0.heap.size ≤ q
  p0 : w0.heap.size ≤ Bp
theorem Sd.below {w0 w w' : World} {B Bp q p : Nat} {s l : List Int} (h : Sd w0 B Bp q p s l w) (hb : Below w.heap.size w w') : Sd w0 B Bp q p s l w' :=
  ⟨h.rn.below hb, h.lt.below hb, h.be.trans (hb.mono h.be.size), h.ok, h.sl, h.qp, h.pB, h.q0, h.p0⟩
theorem Sd.drew {w0 w : World} {B Bp q p : Nat} {s l : List Int} (h : Sd w0 B Bp q p s l w) : Sd w0 B Bp q p s l w.drew :=
  ⟨h.rn.drew, h.lt.drew, h.be.drew, h.ok, h.sl, h.qp, h.pB, h.q0, h.p0⟩
theorem Sd.pw {w0 w : World} {B Bp q p : Nat} {s l : List Int} (h : Sd w0 B Bp q p s l w) : p < w.heap.size := h.lt.lt
theorem Sd.pq {w0 w : World} {B Bp q p : Nat} {s l : List Int} (h : Sd w0 B Bp q p s l w) : w0.heap.size ≤ p := Nat.le_trans h.p0 h.lt.le
theorem Sd.go {w0 w w' : World} {B Bp q p : Nat} {s l s' l' : List Int} (h : Sd w0 B Bp q p s l w) (hR : Rn 28 B q s' w') (hL : Lt Bp p l' w') (hM : Mv q p w w') (hok : Ok l') (hs : s'.length ≤ 1000) : Sd w0 B Bp q p s' l' w' :=
  ⟨hR, hL, h.be.trans (hM.below h.q0 h.pq h.be.size), hok, hs, h.qp, h.pB, h.q0, h.p0⟩
/-- A list whose row is neither. -/
structure Yl (q p : Nat) (v : Value) (o : List Int) (w : World) : Prop where
  rd : Rd .i64 v o w
  own : ∀ g, v.ownBlock = some g → g ≠ q ∧ g ≠ p
theorem Yl.below {q p : Nat} {v : Value} {o : List Int} {w w' : World} (h : Yl q p v o w) (hb : Below w.heap.size w w') : Yl q p v o w' := ⟨h.rd.below hb, h.own⟩
theorem Yl.mv {q p : Nat} {v : Value} {o : List Int} {w w' : World} (h : Yl q p v o w) (hM : Mv q p w w') : Yl q p v o w' :=
  ⟨h.rd.mv hM h.own, h.own⟩
theorem Yl.of {q p B : Nat} {v : Value} {o : List Int} {w : World} (h : w.ownsRow B 3 1 v o.length (o.map (Value.int .i64))) (hq : q < B) (hp : p < B) : Yl q p v o w :=
  ⟨Rd.of h, fun g hg => by have := (h.lt g hg).1; omega⟩
theorem Yl.old {q p B : Nat} {v : Value} {o : List Int} {w w' : World} (h : w.ownsRow B 3 1 v o.length (o.map (Value.int .i64))) (hb : Below w.heap.size w w') (hq : w.heap.size ≤ q) (hp : w.heap.size ≤ p) : Yl q p v o w' :=
  ⟨(Rd.of h).below hb, fun g hg => by have := (h.lt g hg).2; omega⟩
theorem Yl.drew {q p : Nat} {v : Value} {o : List Int} {w : World} (h : Yl q p v o w) : Yl q p v o w.drew := ⟨h.rd.drew, h.own⟩

theorem snext {w0 w : World} {B Bp q p : Nat} {s l : List Int} (h : Sd w0 B Bp q p s l w) (v : Value) (o : List Int) (ho : o.length ≤ 1000) (hv : Yl q p v o w) :
    Calls Try.prog 11 #[.pointer (some ⟨q, 0, none⟩), v, .pointer (some ⟨p, 0, none⟩)] w fun e w' => e = .returned (.tuple #[.int .i64 (nxtS s o l).1.1, .bool (nxtS s o l).1.2]) ∧ Sd w0 B Bp q p (nxtS s o l).2.1 (nxtS s o l).2.2 w' ∧ Mv q p w w' := by
  refine (rnext_any Bp B q p v s o l w (Nat.le_trans h.sl (by omega)) (by omega) hv.rd (fun g hg => (hv.own g hg).1) h.rn h.lt h.ok h.qp h.pB).mono ?_
  rintro e w' ⟨rfl, hR, hL, hM⟩
  exact ⟨rfl, h.go hR hL hM (nxtS_ok _ _ h.ok) (by have := nxtS_length s o l; have := h.sl; omega), hM⟩

theorem sjoin {w0 w : World} {B Bp q p : Nat} {s l : List Int} (h : Sd w0 B Bp q p s l w) (x : Int) (hs : (joinS s x l).1.length ≤ 1000) :
    Calls Try.prog 13 #[.pointer (some ⟨q, 0, none⟩), .int .i64 x, .pointer (some ⟨p, 0, none⟩)] w fun e w' => e = .returned (.tuple #[]) ∧ Sd w0 B Bp q p (joinS s x l).1 (joinS s x l).2 w' ∧ Mv q p w w' := by
  refine (rjoin_any Bp B q p s l x w (Nat.le_trans h.sl (by omega)) h.rn h.lt h.ok h.qp h.pB).mono ?_
  rintro e w' ⟨rfl, hR, hL, hM⟩
  exact ⟨rfl, h.go hR hL hM (joinS_ok _ _ h.ok) hs, hM⟩

theorem sleft {w0 w : World} {B Bp q p : Nat} {s l : List Int} (h : Sd w0 B Bp q p s l w) :
    Calls Try.prog 20 #[.pointer (some ⟨q, 0, none⟩)] w fun e w' => (∃ a cap, e = .returned (.slice a s.length cap) ∧ Yl q p (.slice a s.length cap) s w') ∧ Sd w0 B Bp q p s l w' ∧ Mv q p w w' := by
  refine (rleft_any B q s w (Nat.le_trans h.sl (by omega)) h.rn).mono ?_
  rintro e w' ⟨⟨v, rfl, ho⟩, hb⟩
  have hy : Yl q p v s w' := Yl.of ho h.rn.ltw h.pw
  obtain ⟨a, cap, e', _⟩ := id hy.rd
  subst e'
  exact ⟨⟨a, cap, rfl, hy⟩, h.below hb, Mv.of hb⟩

theorem lst_small (b : Nat) : (lst b).length ≤ 64 := by rw [lst_length]; exact many_le b
end Go.Proofs.Ytnhpkpodeojldaa
