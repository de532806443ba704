/-
  The reference's cut; a row of spans of which one is written; clones.
-/
import Derived.Test.YtlbeincgknmijaaDoorDma
import Derived.Deep.CutRange
namespace Go.Proofs.YtlbeincgknmijaaDoor
open Go.RowKit

theorem made_os {B : Nat} {w : World} (hB : B ≤ w.heap.size) : Ow B (.slice (some ⟨w.heap.size, 0, none⟩) 0 0) [] (w.alloc (.cells #[] 36)) := World.ownsRow_made w #[] 0 hB (Nat.zero_le _) rfl
/-- A row of one span that was made. -/
theorem one_os {B g : Nat} {f t : Int} {w : World} (h : Bx 36 g f t w) (hB : B ≤ g) : Ow B (.slice (some ⟨g, 0, none⟩) 1 1) [⟨f, t⟩] w :=
  ⟨rfl, Or.inr ⟨g, 1, #[.int .u64 f, .int .u64 t], rfl, hB, h.heap, Nat.le_refl _, by unfold maxLen; omega, rfl, rfl⟩⟩
/-- An owned row that has a place. -/
theorem Ow.place {B : Nat} {v : Value} {l : List Sn} {w : World} (h : Ow B v l w) (hv : 0 < l.length) : ∃ g cap, v = .slice (some ⟨g, 0, none⟩) l.length cap ∧ B ≤ g ∧ g < w.heap.size := by
  rcases h.2 with ⟨_, e⟩ | ⟨g, cap, cur, rfl, hb, hg, h1, h2, _⟩
  · omega
  · exact ⟨g, cap, rfl, hb, (Array.getElem?_eq_some_iff.1 hg).1⟩

theorem SnOk.pred {f t : Int} (f0 : 0 ≤ f) (h : f < t) (h1 : t ≤ 18446744073709551615) : SnOk ⟨f, t - 1⟩ := ⟨f0, by show f ≤ _; omega, by show 0 ≤ t - 1; omega, by show t - 1 ≤ _; omega⟩

/-- The post of what tells a row that has a place. -/
def Told (B : Nat) (l : List Sn) (e : Ending) (w : World) : Prop := ∃ g cap, e = .returned (.slice (some ⟨g, 0, none⟩) l.length cap) ∧ Ow B (.slice (some ⟨g, 0, none⟩) l.length cap) l w

end Go.Proofs.YtlbeincgknmijaaDoor
