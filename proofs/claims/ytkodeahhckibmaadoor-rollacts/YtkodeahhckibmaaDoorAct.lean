/-
  same; a slice of slices of updates, opened; what RollActs keeps.
-/
import Derived.Test.YtkodeahhckibmaaDoorRmg
namespace Go.Proofs.YtkodeahhckibmaaDoor
open Go.RowKit Go.Deep Go.ChangeShapes

/-- A roll and the reference's, side by side, both made behind w0. -/
structure Ac (w0 : World) (B p q k : Nat) (f : Tab) (v : Value) (K : List Upd) (w : World) : Prop where
  roll : Rl p k f w
  rf : Rf B q k v K w
  good : Good k K
  hp : p < B
  hq : B ≤ q
  hB : B ≤ w.heap.size
  lp : w0.heap.size ≤ p
  below : Below w0.heap.size w0 w
section
variable {w0 : World} {B p q k : Nat} {f : Tab} {v : Value} {K : List Upd} {w w' : World}
theorem Ac.later (h : Ac w0 B p q k f v K w) (b : Below w.heap.size w w') : Ac w0 B p q k f v K w' := ⟨h.roll.below b, h.rf.below b, h.good, h.hp, h.hq, Nat.le_trans h.hB b.size, h.lp, h.below.trans (b.mono h.below.size)⟩
theorem Ac.first (h : Ac w0 B p q k f v K w) {f' : Tab} (h1 : Rl p k f' w') (b : But w.heap.size p w w') : Ac w0 B p q k f' v K w' := by
  have h2 := h.hp
  have h3 := h.hq
  exact ⟨h1, h.rf.but (by omega) (fun e => by have := (h.rf.row.lt p e).1; omega) b, h.good, h.hp, h.hq, Nat.le_trans h.hB b.size, h.lp, h.below.trans ((b.mono h.below.size).to h.lp)⟩
theorem Ac.second (h : Ac w0 B p q k f v K w) {v' : Value} {K' : List Upd} (hG : Good k K') (h1 : Rf B q k v' K' w') (m : Mv q v v' w w') : Ac w0 B p q k f v' K' w' := by
  have h2 := h.hp
  have h3 := h.hq
  have h4 := h.lp
  have h5 := h.below.size
  have hne : ∀ i, i < B → some i ≠ v.ownBlock := fun i hi e => by have := (h.rf.row.lt i e.symm).1; omega
  refine ⟨h.roll.keep (m.block p h.roll.lt (by omega) (hne p h2)), h1, hG, h.hp, h.hq, Nat.le_trans h.hB m.size, h.lp, ?_⟩
  exact ⟨m.os.trans h.below.os, m.tape.trans h.below.tape, m.output.trans h.below.output, Nat.le_trans h5 m.size, fun i hi => (m.block i (by omega) (by omega) (hne i (by omega))).trans (h.below.block i hi)⟩
end

theorem othK {k : Nat} {K : List Upd} (h : Good k K) : Bnd.lst (Bnd.lessS (bandS K) k) = othS k (tabK K) := by unfold othS; rw [bandK h.inv h.nod h.pos]

set_option maxRecDepth 100000 in
set_option maxHeartbeats 2000000 in
theorem same_roll (w0 : World) (B p q k : Nat) (v : Value) (K : List Upd) (w : World) (hT : Bnd.Tab w0) (h : Ac w0 B p q k (tabK K) v K w) :
    Calls Tryd.prog 10 #[.pointer (some ⟨p, 0, none⟩), .pointer (some ⟨q, 0, none⟩)] w fun e w' => e = .returned (.bool true) ∧ Below w.heap.size w w' := by
  have hk := h.good.inv.lt
  have hl : K.length ≤ 1000000 := by have := h.good.len; omega
  have hlen := allS_length (tabK K)
  have A1 := fun w' (c : Ac w0 B p q k (tabK K) v K w') => all_any p k (tabK K) w' c.roll
  have A2 := fun w' (c : Ac w0 B p q k (tabK K) v K w') => rall_any B q k v K w' hl c.rf
  have L1 := fun w' (c : Ac w0 B p q k (tabK K) v K w') => rlive_any p k (tabK K) w' c.roll
  have L2 := fun w' (c : Ac w0 B p q k (tabK K) v K w') => rflive_any B q k v K w' hl c.rf
  have O1 := fun w' (c : Ac w0 B p q k (tabK K) v K w') => others_any p k (tabK K) w' c.roll (hT.below hT.lt c.below)
  have O2 := fun w' (c : Ac w0 B p q k (tabK K) v K w') => rothers_any B q k v K w' hl c.rf
  have M1 := fun w' (c : Ac w0 B p q k (tabK K) v K w') => mine_any p k (tabK K) hk w' c.roll
  have M2 := fun w' (c : Ac w0 B p q k (tabK K) v K w') => rmine_any B q k v K w' hl c.rf
  rw [bandK h.good.inv h.good.nod h.good.pos] at L2
  rw [othK h.good] at O2
  rw [show getK K k = tabK K k from rfl] at M2
  have hq := run_eqlU (ud (tabK K k)) (ud (tabK K k))
  rw [eqU_refl] at hq
  have hol : (othS k (tabK K)).length ≤ 1000000 := by
    have := others_count h.good.inv
    omega
  generalize othS k (tabK K) = OT at *
  generalize ud (tabK K k) = u at *
  generalize bandS (allS (tabK K)) = b at *
  generalize allS (tabK K) = L at *
  go_enter Tryd.func10, Tryd.ntmps10
  go_wp2_with fail
  refine (A1 _ h).mono ?_
  rintro e w1 ⟨⟨v1, rfl, o1⟩, b1⟩
  have h1 := h.later b1
  go_wp2_with fail
  refine (A2 _ h1).mono ?_
  rintro e w2 ⟨⟨v2, rfl, o2⟩, b2⟩
  have h2 := h1.later b2
  go_wp2_with fail
  refine (same_any _ _ L w2 (by omega) (o1.ru.below b2) o2.ru).mono ?_
  rintro e w3 ⟨rfl, b3⟩
  have h3 := h2.later b3
  go_wp2_with fail
  refine (L1 _ h3).mono ?_
  rintro e w4 ⟨rfl, b4⟩
  have h4 := h3.later b4
  go_wp2_with fail
  refine (L2 _ h4).mono ?_
  rintro e w5 ⟨rfl, b5⟩
  have h5 := h4.later b5
  go_wp2_with fail
  refine (O1 _ h5).mono ?_
  rintro e w6 ⟨⟨v6, rfl, o6⟩, b6⟩
  have h6 := h5.later b6
  go_wp2_with fail
  refine (O2 _ h6).mono ?_
  rintro e w7 ⟨⟨v7, rfl, o7⟩, b7⟩
  have h7 := h6.later b7
  go_wp2_with fail
  refine (Bnd.same_any _ _ OT w7 hol (o6.below b7) o7).mono ?_
  rintro e w8 ⟨rfl, b8⟩
  have h8 := h7.later b8
  go_wp2_with fail
  refine (M1 _ h8).mono ?_
  rintro e w9 ⟨rfl, b9⟩
  have h9 := h8.later b9
  go_wp2_with fail
  refine (M2 _ h9).mono ?_
  rintro e w10 ⟨rfl, b10⟩
  have hz1 := b1.size
  have hz2 := b2.size
  have hz3 := b3.size
  have hz4 := b4.size
  have hz5 := b5.size
  have hz6 := b6.size
  have hz7 := b7.size
  have hz8 := b8.size
  have hz9 := b9.size
  have hb : Below w.heap.size w w10 := (((((((((b1.trans (b2.mono (by omega))).trans (b3.mono (by omega))).trans (b4.mono (by omega))).trans (b5.mono (by omega))).trans (b6.mono (by omega))).trans (b7.mono (by omega))).trans (b8.mono (by omega))).trans (b9.mono (by omega))).trans (b10.mono (by omega)))
  clear A1 A2 L1 L2 O1 O2 M1 M2
  go_wp2_with fail
  go_ret
  exact ⟨rfl, hb⟩

/-! ## A slice of slices of updates -/

/-- One slice that came in: its address, its room, what it reads as. -/
structure Sl where
  a : Option Addr
  cap : Nat
  l : List Upd
def Sl.v (s : Sl) : Value := .slice s.a s.l.length s.cap
/-- The slice v reads as the slices L. -/
def Rs (x : Value) (L : List Sl) (w : World) : Prop :=
  ∃ a cap, x = .slice a L.length cap ∧ (L.length = 0 ∨ ∃ g off, a = some ⟨g, off, none⟩ ∧ ∀ j (hj : j < L.length), w.cell? ⟨g, off + j, none⟩ = some (.slice L[j].a L[j].l.length L[j].cap) ∧ Ru (.slice L[j].a L[j].l.length L[j].cap) L[j].l w)
def IsSls (w : World) (a : Option Addr) (len cap : Nat) (L : List Sl) : Prop := L.length = len ∧ Rs (.slice a len cap) L w ∧ ∀ s ∈ L, ∀ u ∈ s.l, InOk u
theorem Tryd.cellsU : Tryd.prog.cellsOf 22 = 1 := by kernel_rfl

theorem open_sls {H : Type} {enc : TypeId × Value → H} {W : World} {a0 : Option Addr} {len cap : Nat} {d : DataW H} {ps : List MemPlace} (h : DataW.Trod enc Tryd.prog W 0 (fun _ => true) true 23 (.slice a0 len cap) d ps) : ∃ L, IsSls W a0 len cap L := by
  obtain ⟨fuel, hf0⟩ := h
  have hf : DataW.trod enc Tryd.prog W 0 (fun _ => true) true fuel 23 [.slice a0 len cap] = some (d, ps) := hf0
  rcases open_slice Tryd.underlying23 hf with ⟨hcs, _⟩ | ⟨a, l, c, m, n, D, Pl, hcs, _, hlc, hm, hmm, _, hel⟩
  · simp at hcs
    obtain ⟨rfl, rfl, rfl⟩ := hcs
    exact ⟨[], rfl, ⟨none, 0, rfl, Or.inl rfl⟩, fun s hs => by cases hs⟩
  · simp at hcs
    obtain ⟨rfl, rfl, rfl⟩ := hcs
    simp at hmm
    subst hmm
    have key : ∀ i, ∃ s : Sl, i < len → W.cell? (a.add i) = some (.slice s.a s.l.length s.cap) ∧ Ru (.slice s.a s.l.length s.cap) s.l W ∧ ∀ u ∈ s.l, InOk u := by
      intro i
      by_cases hi : i < len
      · obtain ⟨cs', hc, hy⟩ := hel i (by omega)
        obtain ⟨_, hlen, hcell⟩ := World.cells?_some hc
        rw [Tryd.cellsU] at hlen hcell
        obtain ⟨x, rfl⟩ : ∃ x, cs' = [x] := List.length_eq_one_iff.1 hlen
        have hcx := hcell 0 (by omega)
        rw [Nat.mul_one] at hcx
        have hcx' : W.cell? (a.add i) = some x := by simpa [Addr.add] using hcx
        obtain ⟨a', l', c', rfl⟩ : ∃ a' l' c', x = .slice a' l' c' := by
          rcases open_slice Tryd.underlying22 hy with ⟨e, _⟩ | ⟨a, l, c, _, _, _, _, e, _⟩
          · exact ⟨none, 0, 0, by simpa using e⟩
          · exact ⟨some a, l, c, by simpa using e⟩
        obtain ⟨l'', hU⟩ := open_upds (W := W) (a := a') (len := l') (cap := c') ⟨_, hy⟩
        have hok := hU.inok
        obtain ⟨rfl, hRu, _⟩ := hU
        exact ⟨⟨a', c', l''⟩, fun _ => ⟨hcx', hRu, hok⟩⟩
      · exact ⟨⟨none, 0, []⟩, fun h => absurd h hi⟩
    refine ⟨(List.range len).map fun i => Classical.choose (key i), by simp, ⟨some a, m, by simp, ?_⟩, fun s hs => ?_⟩
    · rcases Nat.eq_zero_or_pos len with h0 | h0
      · exact Or.inl (by simpa using h0)
      · right
        obtain ⟨b, off, spot⟩ := a
        have hspot : spot = none := by
          have := (Classical.choose_spec (key 0) h0).1
          simpa [Addr.add] using World.cell?_spot this
        subst hspot
        refine ⟨b, off, rfl, fun j hj => ?_⟩
        simp at hj
        have hs := Classical.choose_spec (key j) hj
        simp only [List.getElem_map, List.getElem_range]
        exact ⟨(congrArg W.cell? (add_flat b off j)).symm.trans hs.1, hs.2.1⟩
    · obtain ⟨j, hj, rfl⟩ := List.mem_map.1 hs
      exact (Classical.choose_spec (key j) (List.mem_range.1 hj)).2.2
end Go.Proofs.YtkodeahhckibmaaDoor
