/-
  A region that draws its order, whose operations only read, and whose callees may make memory but leave what was there: one walk of the text's order, over the class of the worlds of which J holds.
-/
import Derived.BigQuiet
import Derived.WalkKit
namespace Go.Proofs.Ytlbeincgknmijaa
open Go.RowKit

/-- A world of which J holds. (A type of its own: the walk would take a subtype apart.) -/
structure Kept (J : World → Prop) where
  at_ : World
  is : J at_

theorem wp_region_kept {P : Program} {id : Nat} {Q : Exit → Act → World → Prop} {a : Act} {w : World} {l : List Oper} (J : World → Prop) (hm : P.follows .mixedOrders = true) (hB : Region.lexB .any l.toArray = true) (hJ : J w.drew)
    (h : wpQuiet P l.toArray (fun w' => ∃ x : Kept J, w' = x.at_) (fun a' => ∀ w', J w' → Q .normal a' w') l a) : (Code.region id l.toArray true).wp P Q a w := by
  refine wp_region_quiet (C := fun w' => ∃ x : Kept J, w' = x.at_) hm hB ⟨⟨w.drew, hJ⟩, rfl⟩ ?_
  have e : (fun a' => ∀ w', (∃ x : Kept J, w' = x.at_) → Q .normal a' w') = (fun a' => ∀ w', J w' → Q .normal a' w') := by
    funext a'
    refine propext ⟨fun h w' hw => h w' ⟨⟨w', hw⟩, rfl⟩, ?_⟩
    rintro h w' ⟨x, rfl⟩
    exact h x.at_ x.is
  rw [e]
  simpa using h

end Go.Proofs.Ytlbeincgknmijaa
