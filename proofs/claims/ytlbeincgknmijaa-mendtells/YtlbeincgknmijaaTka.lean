/-
  What is taken: mathematics; Take, the code's.
-/
import Derived.Test.YtlbeincgknmijaaFil
import Derived.Test.YtlbeincgknmijaaOac
namespace Go.Proofs.Ytlbeincgknmijaa
open Go.RowKit

def tkP (low most : Int) (s : Rng × Nat) (x : Pl) : Rng × Nat :=
  if x.n ≤ most ∧ putE low (hasR low s.1 x.n) x.n x.g = 0 then (putR low s.1 x.n x.g, s.2 + 1) else s
def takeP (low most : Int) (R : Rng) (l : List Pl) : Rng × Nat := l.foldl (tkP low most) (R, 0)
theorem takeP_take {low most : Int} {R : Rng} {l : List Pl} {k : Nat} (h : k < l.length) : takeP low most R (l.take (k + 1)) = tkP low most (takeP low most R (l.take k)) l[k] := by
  unfold takeP
  rw [List.take_add_one, List.getElem?_eq_getElem h, List.foldl_append]
  rfl
theorem takeP_le (low most : Int) (R : Rng) (l : List Pl) : (takeP low most R l).2 ≤ l.length := by
  have key : ∀ (l : List Pl) (s : Rng × Nat), (l.foldl (tkP low most) s).2 ≤ s.2 + l.length := by
    intro l
    induction l with
    | nil => intro s; exact Nat.le_refl _
    | cons x l ih =>
      intro s
      have h1 := ih (tkP low most s x)
      have h2 : (tkP low most s x).2 ≤ s.2 + 1 := by unfold tkP; split <;> simp
      simp only [List.foldl_cons, List.length_cons]
      omega
  have := key l (R, 0)
  simpa [takeP] using this
/-- The pieces' numbers are numbers of sixty-four bits. -/
def PlOk (l : List Pl) : Prop := ∀ x ∈ l, 0 ≤ x.n ∧ x.n ≤ 18446744073709551615
/-- A row of pieces, as the code's arguments hold it. -/
def Rp (v : Value) (l : List Pl) (w : World) : Prop :=
  ∃ a cap, v = .slice a l.length cap ∧ (l.length = 0 ∨ ∃ g off, a = some ⟨g, off, none⟩ ∧ g < w.heap.size ∧ ∀ i (hi : i < l.length),
    w.cell? ⟨g, off + i * 4, none⟩ = some (.int .u64 l[i].n) ∧ w.cell? ⟨g, off + i * 4 + 1, none⟩ = some (.int .i64 l[i].g.s) ∧ w.cell? ⟨g, off + i * 4 + 2, none⟩ = some (.int .u64 l[i].g.m) ∧ w.cell? ⟨g, off + i * 4 + 3, none⟩ = some (.string l[i].g.x))
theorem Rp.of {v : Value} {l : List Pl} {w : World} (h : RdE EI v l w) : Rp v l w := by
  obtain ⟨a, cap, rfl, _, _, h3⟩ := h
  refine ⟨a, cap, rfl, ?_⟩
  rcases h3 with h3 | ⟨g, off, rfl, h3⟩
  · exact Or.inl h3
  · rcases Nat.eq_zero_or_pos l.length with h0 | h0
    · exact Or.inl h0
    · refine Or.inr ⟨g, off, rfl, World.block_lt_of_cell? _ _ (u := .int .u64 l[0].n) (h3 0 0 h0 (by decide)), fun i hi => ⟨h3 i 0 hi (by decide), h3 i 1 hi (by decide), h3 i 2 hi (by decide), h3 i 3 hi (by decide)⟩⟩
theorem Rp.keep {v : Value} {l : List Pl} {w w' : World} (h : Rp v l w) (hs : w.heap.size ≤ w'.heap.size) (hw : ∀ g, v.ownBlock = some g → g < w.heap.size → w'.heap[g]? = w.heap[g]?) : Rp v l w' := by
  obtain ⟨a, cap, rfl, h3⟩ := h
  refine ⟨a, cap, rfl, ?_⟩
  rcases h3 with h3 | ⟨g, off, rfl, hg, h3⟩
  · exact Or.inl h3
  · have e := hw g rfl hg
    refine Or.inr ⟨g, off, rfl, by omega, fun i hi => ?_⟩
    obtain ⟨c0, c1, c2, c3⟩ := h3 i hi
    exact ⟨(World.cell?_of_block (w := w) (a := ⟨g, _, none⟩) e).trans c0, (World.cell?_of_block (w := w) (a := ⟨g, _, none⟩) e).trans c1, (World.cell?_of_block (w := w) (a := ⟨g, _, none⟩) e).trans c2, (World.cell?_of_block (w := w) (a := ⟨g, _, none⟩) e).trans c3⟩
theorem Rp.below {v : Value} {l : List Pl} {w w' : World} (h : Rp v l w) (hb : Below w.heap.size w w') : Rp v l w' := h.keep hb.size fun g _ hg => hb.block g hg
theorem Rp.but {p : Nat} {v : Value} {l : List Pl} {w w' : World} (h : Rp v l w) (hb : But w.heap.size p w w') (hp : v.ownBlock ≠ some p) : Rp v l w' := h.keep hb.size fun g e hg => hb.block g hg (by rintro rfl; exact hp e)

set_option maxRecDepth 100000 in
set_option maxHeartbeats 4000000 in
theorem take_any (p : Nat) (low : Int) (R : Rng) (l0 : 0 ≤ low) (l1 : low ≤ 1000000) (v : Value) (l : List Pl) (hok : PlOk l) (hl : l.length ≤ 1000) (most : Int) (w : World) (hS : Sf p low R w) (hR : Rp v l w) (hp : v.ownBlock ≠ some p) :
    Calls Try.prog 18 #[.pointer (some ⟨p, 0, none⟩), v, .int .u64 most] w fun e w' => e = .returned (.int .i64 (takeP low most R l).2) ∧ Sf p low (takeP low most R l).1 w' ∧ But w.heap.size p w w' := by
  obtain ⟨a, cap, rfl, h3⟩ := id hR
  have hlen : (l.length : Int) ≤ 1000 := by omega
  have hplt := hS.lt
  go_enter Try.func18, Try.ntmps18
  go_wp2_with fail
  go_loopg [7, 12] l.length (fun gk t7 t12 wr => ∃ k : Nat, k + gk = l.length ∧ t12 = .int .i64 k ∧ t7 = .int .i64 (takeP low most R (l.take k)).2 ∧ Sf p low (takeP low most R (l.take k)).1 wr ∧ But w.heap.size p w wr)
  case atStart => exact ⟨0, by omega, rfl, rfl, hS, But.refl _ _ _⟩
  case round =>
    obtain ⟨k, hk, rfl, rfl, hSk, hBk⟩ := hrel
    have k0 : (0 : Int) ≤ k := by omega
    by_cases hlt : (k : Int) < l.length
    · have hkl : k < l.length := by omega
      have hRk := hR.but hBk hp
      obtain ⟨_, _, e, h4⟩ := id hRk
      cases e
      rcases h4 with h4 | ⟨g, off, rfl, hg, h4⟩
      · omega
      obtain ⟨c0, c1, c2, c3⟩ := h4 k hkl
      have hst : Hid (takeP low most R (l.take (k + 1)) = tkP low most (takeP low most R (l.take k)) l[k]) := takeP_take hkl
      obtain ⟨x0, x1⟩ := hok _ (List.getElem_mem hkl)
      have hle := takeP_le low most R (l.take k)
      rw [List.length_take] at hle
      generalize l[k] = x at *
      generalize takeP low most R (l.take k) = s at *
      obtain ⟨S, cn⟩ := s
      obtain ⟨y, M⟩ := x
      dsimp only at c0 c1 c2 c3 x0 x1 hSk hle ⊢
      clear h3 h4 hR hRk
      have bb := below_alloc wr (.cells #[.int .u64 y, .int .i64 M.s, .int .u64 M.m, .string M.x] 30)
      have hSb := hSk.below bb
      have hBb := hBk.trans (But.of (p := p) (bb.mono hBk.size))
      have hput := sput_any p low S y M x0 x1 l0 l1 _ hSb
      by_cases hm : y ≤ most
      · by_cases hE : putE low (hasR low S y) y M = 0
        · have hs2 : Hid (takeP low most R (l.take (k + 1)) = (putR low S y M, cn + 1)) := by
            show _ = _
            rw [hst.out]; unfold tkP; rw [if_pos ⟨hm, hE⟩]
          rw [hE] at hput
          clear hst hE hSk
          generalize putR low S y M = S2 at *
          go_wp2_with fail
          refine hput.mono ?_
          rintro e w2 ⟨rfl, hS2, hb2⟩
          have hB2 := hBb.trans (hb2.mono hBb.size)
          clear hput
          go_wp2_with fail
          go_roundg (gk - 1)
          case rel => exact ⟨k + 1, by omega, by go_num, by rw [hs2.out]; go_num, by rw [hs2.out]; exact hS2, hB2⟩
          case measure => omega
        · have hs2 : Hid (takeP low most R (l.take (k + 1)) = (S, cn)) := by
            show _ = _
            rw [hst.out]; unfold tkP; rw [if_neg (fun h => hE h.2)]
          have hpr : putR low S y M = S := by unfold putR; rw [if_neg hE]
          rw [hpr] at hput
          have hEz : (putE low (hasR low S y) y M == 0) = false := by simpa using hE
          clear hst hE hSk hpr
          generalize putE low (hasR low S y) y M = E at *
          go_wp2_with fail
          refine hput.mono ?_
          rintro e w2 ⟨rfl, hS2, hb2⟩
          have hB2 := hBb.trans (hb2.mono hBb.size)
          clear hput
          go_wp2_with fail
          go_roundg (gk - 1)
          case rel => exact ⟨k + 1, by omega, by go_num, by rw [hs2.out], by rw [hs2.out]; exact hS2, hB2⟩
          case measure => omega
      · have hs2 : Hid (takeP low most R (l.take (k + 1)) = (S, cn)) := by
          show _ = _
          rw [hst.out]; unfold tkP; rw [if_neg (fun h => hm h.1)]
        clear hst hput hSk
        go_wp2_with fail
        go_roundg (gk - 1)
        case rel => exact ⟨k + 1, by omega, by go_num, by rw [hs2.out], by rw [hs2.out]; exact hSb, hBb⟩
        case measure => omega
    · have e : l.take k = l := List.take_of_length_le (by omega)
      rw [e] at hSk ⊢
      clear h3 hR e
      go_wp2_with fail
      go_ret
      exact ⟨rfl, hSk, hBk⟩
end Go.Proofs.Ytlbeincgknmijaa
