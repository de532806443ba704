/-
  What happens to doubts: a slice of acts, opened.
-/
import Derived.Test.YtahiiieifdhgeaaByt
import Derived.Test.YtahiiieifdhgeaaOpn
import Derived.Deep.Strs
import Derived.Deep.Fields
import Derived.ProofKit
import Derived.OpenShut
namespace Go.Proofs.Ytahiiieifdhgeaa
open Go.RowKit Go.Deep Go.ChangeShapes

/-- An act: which kind, which node, of how many nodes, which update, when, what base. -/
structure Ac where
  k : Int
  n : Int
  m : Int
  un : Int
  ui : Int
  us : Int
  now : Int
  b : Nat
structure AcOk (x : Ac) : Prop where
  n : (Lit.int .i64 x.n).wf = true
  m : -9223372036854775808 ≤ x.m ∧ x.m ≤ 9223372036854775807
  i : 0 ≤ x.ui ∧ x.ui ≤ 18446744073709551615
  now : 0 ≤ x.now ∧ x.now ≤ 18446744073709551615
  b : x.b < 2 ^ 64
def Ac.cs (x : Ac) : List Value := [.int .i64 x.k, .int .i64 x.n, .int .i64 x.m, .int .i64 x.un, .int .u64 x.ui, .int .i64 x.us, .int .u64 x.now, .float .f64 x.b]

/-- The slice v reads as the acts l. -/
def Ra (v : Value) (l : List Ac) (w : World) : Prop :=
  ∃ a cap, v = .slice a l.length cap ∧ (l.length = 0 ∨ ∃ g off, a = some ⟨g, off, none⟩ ∧ ∀ j (hj : j < l.length) c v, l[j].cs[c]? = some v → w.cell? ⟨g, off + j * 8 + c, none⟩ = some v)
def IsActs (w : World) (a : Option Addr) (len cap : Nat) (l : List Ac) : Prop := l.length = len ∧ Ra (.slice a len cap) l w ∧ ∀ x ∈ l, AcOk x

theorem trod_float {H : Type} {enc : TypeId × Value → H} {P : Program} {w : World} {base : Nat} {spare : Nat → Bool} {held : Bool} {t : TypeId} {k : FloatKind} {fuel : Nat} {v : Value} {x : DataW H × List MemPlace} (ht : P.underlying t = some (.float k)) (h : DataW.trod enc P w base spare held fuel t [v] = some x) :
    ∃ b, v = .float k b ∧ (Lit.float k b).wf = true := by
  cases fuel with
  | zero => simp [DataW.trod] at h
  | succ n =>
    simp only [DataW.trod, ht] at h
    split at h <;> simp_all

section
variable {H : Type} {enc : TypeId × Value → H} {w : World} {base : Nat} {spare : Nat → Bool} {held : Bool}
set_option maxRecDepth 100000 in
theorem trod_act {n : Nat} {cs : List Value} {x : DataW H × List MemPlace} (h : DataW.trod enc Try.prog w base spare held n 37 cs = some x) :
    ∃ A : Ac, AcOk A ∧ cs = A.cs := by
  have hc : Try.prog.cellsOf 37 = 8 := by kernel_rfl
  have hcU : Try.prog.cellsOf 34 = 3 := by kernel_rfl
  have hcf : Try.prog.cellsOf 35 = 1 := by kernel_rfl
  have hc3 : Try.prog.cellsOf 3 = 1 := by kernel_rfl
  have hcu : Try.prog.cellsOf 32 = 1 := by kernel_rfl
  obtain ⟨xs, m, _, _, hlen, hxl, hf⟩ := DataW.trod_struct Try.underlying37 h
  rw [hc] at hlen
  match cs, hlen with
  | [a, b, c, d, e, f, g, i], _ =>
    match xs, hxl with
    | [y0, y1, y2, y3, y4, y5], _ =>
      have f0 := hf 0 _ rfl
      have f1 := hf 1 _ rfl
      have f2 := hf 2 _ rfl
      have f3 := hf 3 _ rfl
      have f4 := hf 4 _ rfl
      have f5 := hf 5 _ rfl
      simp [hcU, hcf, hc3, hcu] at f0 f1 f2 f3 f4 f5
      obtain ⟨z0, z1, z2, m', _, _, g0, g1, g2⟩ := trod_struct3 Try.underlying34 f3
      simp [hc3, hcu] at g0 g1 g2
      obtain ⟨n1, rfl, _⟩ := trod_one Try.underlying3 f0
      obtain ⟨n2, rfl, w2⟩ := trod_one Try.underlying3 f1
      obtain ⟨n3, rfl, w3⟩ := trod_one Try.underlying3 f2
      obtain ⟨n4, rfl, _⟩ := trod_one Try.underlying3 g0
      obtain ⟨n5, rfl, w5⟩ := trod_one Try.underlying32 g1
      obtain ⟨n6, rfl, _⟩ := trod_one Try.underlying3 g2
      obtain ⟨n7, rfl, w7⟩ := trod_one Try.underlying32 f4
      obtain ⟨r, rfl, w8⟩ := trod_float Try.underlying35 f5
      exact ⟨⟨n1, n2, n3, n4, n5, n6, n7, r⟩, ⟨w2, i64_of w3, u64_of w5, u64_of w7, by simpa [Lit.wf] using w8⟩, rfl⟩
end

theorem open_acts {H : Type} {enc : TypeId × Value → H} {W : World} {a : Option Addr} {len cap : Nat} {d : DataW H} {ps : List MemPlace} (h : DataW.Trod enc Try.prog W 0 (fun _ => true) true 22 (.slice a len cap) d ps) : ∃ l, IsActs W a len cap l := by
  obtain ⟨fuel, hf0⟩ := h
  have hf : DataW.trod enc Try.prog W 0 (fun _ => true) true fuel 22 [.slice a len cap] = some (d, ps) := hf0
  have hC : Try.prog.cellsOf 37 = 8 := by kernel_rfl
  rcases open_slice Try.underlying22 hf with ⟨hcs, _⟩ | ⟨a', l', c', m, n, D, Pl, hcs, _, hlc, hm, hmm, _, hel⟩
  · simp at hcs
    obtain ⟨rfl, rfl, rfl⟩ := hcs
    exact ⟨[], rfl, ⟨_, _, rfl, Or.inl rfl⟩, fun u hu => by cases hu⟩
  · simp at hcs
    obtain ⟨rfl, rfl, rfl⟩ := hcs
    simp at hmm
    subst hmm
    rw [hC] at hel
    have key : ∀ j, ∃ A : Ac, j < len → AcOk A ∧ ∀ c v, A.cs[c]? = some v → W.cell? ((a'.add (j * 8)).add c) = some v := by
      intro j
      by_cases hj : j < len
      · obtain ⟨cs', hc, hy⟩ := hel j (by omega)
        obtain ⟨_, hlen, hcell⟩ := World.cells?_some hc
        obtain ⟨A, h1, h2⟩ := trod_act hy
        refine ⟨A, fun _ => ⟨h1, fun c v hv => ?_⟩⟩
        have hc6 : c < 8 := (List.getElem?_eq_some_iff.1 hv).1
        rw [hcell c hc6, h2]
        exact hv
      · exact ⟨⟨0, 0, 0, 0, 0, 0, 0, 0⟩, fun h => absurd h hj⟩
    obtain ⟨f, hf⟩ : ∃ f : Nat → Ac, ∀ j, j < len → AcOk (f j) ∧ ∀ c v, (f j).cs[c]? = some v → W.cell? ((a'.add (j * 8)).add c) = some v :=
      ⟨fun j => Classical.choose (key j), fun j hj => Classical.choose_spec (key j) hj⟩
    clear key
    refine ⟨(List.range len).map f, by simp, ⟨_, _, by simp; exact ⟨rfl, rfl⟩, ?_⟩, fun u hu => ?_⟩
    · rcases Nat.eq_zero_or_pos len with h0 | h0
      · exact Or.inl (by simpa using h0)
      · right
        obtain ⟨b, off, spot⟩ := a'
        have hspot : spot = none := by
          have := (hf 0 h0).2 0 _ rfl
          simpa [Addr.add] using World.cell?_spot this
        subst hspot
        refine ⟨b, off, rfl, fun j hj => ?_⟩
        simp at hj
        have hs := (hf j hj).2
        simp only [List.getElem_map, List.getElem_range]
        simp only [add_flat] at hs
        exact fun c v hv => hs c v hv
    · obtain ⟨j, hj, rfl⟩ := List.mem_map.1 hu
      exact (hf j (List.mem_range.1 hj)).1
theorem Ra.at_ {a : Option Addr} {len cap : Nat} {l : List Ac} {w : World} (h : Ra (.slice a len cap) l w) {j : Nat} (hj : j < l.length) : ∃ g off, a = some ⟨g, off, none⟩ ∧ g < w.heap.size ∧ ∀ c v, l[j].cs[c]? = some v → w.cell? ⟨g, off + j * 8 + c, none⟩ = some v := by
  obtain ⟨_, _, e, h3⟩ := h
  cases e
  rcases h3 with h3 | ⟨g, off, rfl, h3⟩
  · omega
  · exact ⟨g, off, rfl, World.block_lt_of_cell? _ _ (h3 j hj 0 _ rfl), h3 j hj⟩
end Go.Proofs.Ytahiiieifdhgeaa
