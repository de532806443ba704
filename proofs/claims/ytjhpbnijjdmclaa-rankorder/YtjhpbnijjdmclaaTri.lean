/-
  Three boxes of updates of one node.
-/
import Derived.Test.YtjhpbnijjdmclaaRfu
import Derived.Test.YtjhpbnijjdmclaaKpt
namespace Go.Proofs.Ytjhpbnijjdmclaa
open Go.RowKit

/-- Three boxes of one node, made since w0. -/
structure Tri (w0 : World) (n i s j t k u : Int) (w : World) : Prop where
  a : Bx 24 w0.heap.size n i s w
  b : Bx 24 (w0.heap.size + 1) n j t w
  c : Bx 24 (w0.heap.size + 1 + 1) n k u w
  below : Below w0.heap.size w0 w
section
variable {w0 w w' : World} {n i s j t k u : Int}
theorem Tri.later (h : Tri w0 n i s j t k u w) (b : Below w.heap.size w w') : Tri w0 n i s j t k u w' := ⟨h.a.below b, h.b.below b, h.c.below b, h.below.trans (b.mono h.below.size)⟩
theorem Tri.drew (h : Tri w0 n i s j t k u w) : Tri w0 n i s j t k u w.drew := ⟨⟨h.a.heap⟩, ⟨h.b.heap⟩, ⟨h.c.heap⟩, h.below.trans ⟨rfl, rfl, rfl, Nat.le_refl _, fun _ _ => rfl⟩⟩
theorem Tri.on {x : Kept (Tri w0 n i s j t k u)} (b : Below x.at_.heap.size x.at_ w') : ∃ y : Kept (Tri w0 n i s j t k u), w' = y.at_ := ⟨⟨w', x.is.later b⟩, rfl⟩
theorem Tri.new (w : World) (n i s j t k u : Int) : Tri w n i s j t k u (((w.alloc (.cells #[.int .i64 n, .int .u64 i, .int .i64 s] 24)).alloc (.cells #[.int .i64 n, .int .u64 j, .int .i64 t] 24)).alloc (.cells #[.int .i64 n, .int .u64 k, .int .i64 u] 24)) := by
  have h1 := Bx.new 24 n i s w
  have b1 : Below w.heap.size w (w.alloc (.cells #[.int .i64 n, .int .u64 i, .int .i64 s] 24)) := (Below.refl _ _).alloc (Nat.le_refl _) _
  have e1 : (w.alloc (.cells #[.int .i64 n, .int .u64 i, .int .i64 s] 24)).heap.size = w.heap.size + 1 := by simp
  generalize w.alloc _ = w1 at *
  have h2 := Bx.new 24 n j t w1
  have b2 : Below w1.heap.size w1 (w1.alloc (.cells #[.int .i64 n, .int .u64 j, .int .i64 t] 24)) := (Below.refl _ _).alloc (Nat.le_refl _) _
  have e2 : (w1.alloc (.cells #[.int .i64 n, .int .u64 j, .int .i64 t] 24)).heap.size = w1.heap.size + 1 := by simp
  generalize w1.alloc _ = w2 at *
  have h3 := Bx.new 24 n k u w2
  have b3 : Below w2.heap.size w2 (w2.alloc (.cells #[.int .i64 n, .int .u64 k, .int .i64 u] 24)) := (Below.refl _ _).alloc (Nat.le_refl _) _
  rw [e2, e1] at h3
  rw [e1] at h2
  exact ⟨(h1.below b2).below b3, h2.below b3, h3, b1.trans ((b2.mono b1.size).trans (b3.mono (Nat.le_trans b1.size b2.size)))⟩
end

end Go.Proofs.Ytjhpbnijjdmclaa
