/-
  What happens to a queue: a slice of acts, opened.
-/
import Derived.Test.YtagdacfgpgcbcaaSam
import Derived.ProofKit
import Derived.OpenShut
namespace Go.Proofs.Ytagdacfgpgcbcaa
open Go.RowKit Go.Deep Go.ChangeShapes

/-- An act: is something put, which update, how many are taken, of how many nodes. -/
structure Ac where
  put : Bool
  n : Int
  i : Int
  s : Int
  k : Int
  m : Int
structure AcOk (x : Ac) : Prop where
  i : 0 ≤ x.i ∧ x.i ≤ 18446744073709551615
  m : -9223372036854775808 ≤ x.m ∧ x.m ≤ 9223372036854775807
theorem u64_of {n : Int} (h : (Lit.int .u64 n).wf = true) : 0 ≤ n ∧ n ≤ 18446744073709551615 := by simpa [Lit.wf, IntKind.min, IntKind.max, IntKind.signed, IntKind.bits] using h
theorem i64_of {n : Int} (h : (Lit.int .i64 n).wf = true) : -9223372036854775808 ≤ n ∧ n ≤ 9223372036854775807 := by simpa [Lit.wf, IntKind.min, IntKind.max, IntKind.signed, IntKind.bits] using h

/-- The slice v reads as the acts l. -/
def Ra (v : Value) (l : List Ac) (w : World) : Prop :=
  ∃ a cap, v = .slice a l.length cap ∧ (l.length = 0 ∨ ∃ g off, a = some ⟨g, off, none⟩ ∧ ∀ j (hj : j < l.length),
    w.cell? ⟨g, off + j * 6, none⟩ = some (.bool l[j].put) ∧ w.cell? ⟨g, off + j * 6 + 1, none⟩ = some (.int .i64 l[j].n) ∧ w.cell? ⟨g, off + j * 6 + 2, none⟩ = some (.int .u64 l[j].i) ∧ w.cell? ⟨g, off + j * 6 + 3, none⟩ = some (.int .i64 l[j].s) ∧ w.cell? ⟨g, off + j * 6 + 4, none⟩ = some (.int .i64 l[j].k) ∧ w.cell? ⟨g, off + j * 6 + 5, none⟩ = some (.int .i64 l[j].m))
def IsActs (w : World) (a : Option Addr) (len cap : Nat) (l : List Ac) : Prop := l.length = len ∧ Ra (.slice a len cap) l w ∧ ∀ x ∈ l, AcOk x

section
variable {H : Type} {enc : TypeId × Value → H} {w : World} {base : Nat} {spare : Nat → Bool} {held : Bool}
theorem trod_act {n : Nat} {cs : List Value} {x : DataW H × List MemPlace} (h : DataW.trod enc Try.prog w base spare held n 36 cs = some x) :
    ∃ A : Ac, AcOk A ∧ cs = [.bool A.put, .int .i64 A.n, .int .u64 A.i, .int .i64 A.s, .int .i64 A.k, .int .i64 A.m] := by
  have hc : Try.prog.cellsOf 36 = 6 := by kernel_rfl
  have hcU : Try.prog.cellsOf 34 = 3 := by kernel_rfl
  have hcb : Try.prog.cellsOf 4 = 1 := by kernel_rfl
  have hc3 : Try.prog.cellsOf 3 = 1 := by kernel_rfl
  have hcu : Try.prog.cellsOf 32 = 1 := by kernel_rfl
  obtain ⟨xs, m, _, _, hlen, hxl, hf⟩ := DataW.trod_struct Try.underlying36 h
  rw [hc] at hlen
  match cs, hlen with
  | [a, b, c, d, e, f], _ =>
    match xs, hxl with
    | [y0, y1, y2, y3], _ =>
      have f0 := hf 0 _ rfl
      have f1 := hf 1 _ rfl
      have f2 := hf 2 _ rfl
      have f3 := hf 3 _ rfl
      simp [hcU, hcb, hc3] at f0 f1 f2 f3
      obtain ⟨p, e0, _⟩ := DataW.trod_bool Try.underlying4 f0
      obtain ⟨z0, z1, z2, m', _, _, g0, g1, g2⟩ := trod_struct3 Try.underlying34 f1
      simp [hc3, hcu] at g0 g1 g2
      obtain ⟨n1, rfl, _⟩ := trod_one Try.underlying3 g0
      obtain ⟨n2, rfl, w2⟩ := trod_one Try.underlying32 g1
      obtain ⟨n3, rfl, _⟩ := trod_one Try.underlying3 g2
      obtain ⟨n4, rfl, _⟩ := trod_one Try.underlying3 f2
      obtain ⟨n5, rfl, w5⟩ := trod_one Try.underlying3 f3
      simp at e0
      subst e0
      exact ⟨⟨p, n1, n2, n3, n4, n5⟩, ⟨u64_of w2, i64_of w5⟩, rfl⟩
end

theorem open_acts {H : Type} {enc : TypeId × Value → H} {W : World} {a : Option Addr} {len cap : Nat} {d : DataW H} {ps : List MemPlace} (h : DataW.Trod enc Try.prog W 0 (fun _ => true) true 22 (.slice a len cap) d ps) : ∃ l, IsActs W a len cap l := by
  obtain ⟨fuel, hf0⟩ := h
  have hf : DataW.trod enc Try.prog W 0 (fun _ => true) true fuel 22 [.slice a len cap] = some (d, ps) := hf0
  have hC : Try.prog.cellsOf 36 = 6 := by kernel_rfl
  rcases open_slice Try.underlying22 hf with ⟨hcs, _⟩ | ⟨a', l', c', m, n, D, Pl, hcs, _, hlc, hm, hmm, _, hel⟩
  · simp at hcs
    obtain ⟨rfl, rfl, rfl⟩ := hcs
    exact ⟨[], rfl, ⟨_, _, rfl, Or.inl rfl⟩, fun u hu => by cases hu⟩
  · simp at hcs
    obtain ⟨rfl, rfl, rfl⟩ := hcs
    simp at hmm
    subst hmm
    rw [hC] at hel
    have key : ∀ j, ∃ A : Ac, j < len → AcOk A ∧ ∀ c v, [.bool A.put, .int .i64 A.n, .int .u64 A.i, .int .i64 A.s, .int .i64 A.k, .int .i64 A.m][c]? = some v → W.cell? ((a'.add (j * 6)).add c) = some v := by
      intro j
      by_cases hj : j < len
      · obtain ⟨cs', hc, hy⟩ := hel j (by omega)
        obtain ⟨_, hlen, hcell⟩ := World.cells?_some hc
        obtain ⟨A, h1, h2⟩ := trod_act hy
        refine ⟨A, fun _ => ⟨h1, fun c v hv => ?_⟩⟩
        have hc6 : c < 6 := (List.getElem?_eq_some_iff.1 hv).1
        rw [hcell c hc6, h2]
        exact hv
      · exact ⟨⟨false, 0, 0, 0, 0, 0⟩, fun h => absurd h hj⟩
    obtain ⟨f, hf⟩ : ∃ f : Nat → Ac, ∀ j, j < len → AcOk (f j) ∧ ∀ c v, [.bool (f j).put, .int .i64 (f j).n, .int .u64 (f j).i, .int .i64 (f j).s, .int .i64 (f j).k, .int .i64 (f j).m][c]? = some v → W.cell? ((a'.add (j * 6)).add c) = some v :=
      ⟨fun j => Classical.choose (key j), fun j hj => Classical.choose_spec (key j) hj⟩
    clear key
    refine ⟨(List.range len).map f, by simp, ⟨_, _, by simp; exact ⟨rfl, rfl⟩, ?_⟩, fun u hu => ?_⟩
    · rcases Nat.eq_zero_or_pos len with h0 | h0
      · exact Or.inl (by simpa using h0)
      · right
        obtain ⟨b, off, spot⟩ := a'
        have hspot : spot = none := by
          have := (hf 0 h0).2 0 _ rfl
          simpa [Addr.add] using World.cell?_spot this
        subst hspot
        refine ⟨b, off, rfl, fun j hj => ?_⟩
        simp at hj
        have hs := (hf j hj).2
        simp only [List.getElem_map, List.getElem_range]
        simp only [add_flat] at hs
        exact ⟨hs 0 _ rfl, hs 1 _ rfl, hs 2 _ rfl, hs 3 _ rfl, hs 4 _ rfl, hs 5 _ rfl⟩
    · obtain ⟨j, hj, rfl⟩ := List.mem_map.1 hu
      exact (hf j (List.mem_range.1 hj)).1
theorem Ra.at_ {a : Option Addr} {len cap : Nat} {l : List Ac} {w : World} (h : Ra (.slice a len cap) l w) {j : Nat} (hj : j < l.length) : ∃ g off, a = some ⟨g, off, none⟩ ∧ g < w.heap.size ∧
    w.cell? ⟨g, off + j * 6, none⟩ = some (.bool l[j].put) ∧ w.cell? ⟨g, off + j * 6 + 1, none⟩ = some (.int .i64 l[j].n) ∧ w.cell? ⟨g, off + j * 6 + 2, none⟩ = some (.int .u64 l[j].i) ∧ w.cell? ⟨g, off + j * 6 + 3, none⟩ = some (.int .i64 l[j].s) ∧ w.cell? ⟨g, off + j * 6 + 4, none⟩ = some (.int .i64 l[j].k) ∧ w.cell? ⟨g, off + j * 6 + 5, none⟩ = some (.int .i64 l[j].m) := by
  obtain ⟨_, _, e, h3⟩ := h
  cases e
  rcases h3 with h3 | ⟨g, off, rfl, h3⟩
  · omega
  · exact ⟨g, off, rfl, World.block_lt_of_cell? _ _ (h3 j hj).1, h3 j hj⟩
end Go.Proofs.Ytagdacfgpgcbcaa
