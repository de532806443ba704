/-
  What the arguments hold.
-/
import Derived.Test.YtpoofjnfaijjjaaGreatDoorMNRba
import Derived.ProofKit
import Derived.OpenShut
namespace Go.Proofs.YtpoofjnfaijjjaaGreatDoor.Rn
open Go.RowKit Go.ChangeShapes
theorem Tryz.cellsU64 : Tryz.prog.cellsOf 34 = 1 := by kernel_rfl
theorem open_rd {H : Type} {enc : TypeId × Value → H} {W : World} {k : IntKind} {t e : TypeId} {base fuel : Nat} {held : Bool} (ht : Tryz.prog.underlying t = some (.slice e)) (he : Tryz.prog.underlying e = some (.int k)) (hc : Tryz.prog.cellsOf e = 1) {a : Option Addr} {len cap : Nat} {x : DataW H × List MemPlace}
    (h : DataW.trod enc Tryz.prog W base (fun _ => true) held fuel t [.slice a len cap] = some x) : ∃ l, Rd k (.slice a len cap) l W ∧ ∀ n ∈ l, (Lit.int k n).wf = true := by
  rcases open_ints ht he hc h with ⟨hcs, _⟩ | ⟨a', len', cap', zs, hcs, _, h1, h2, h3, _, h4, h5⟩
  · simp at hcs
    obtain ⟨rfl, rfl, rfl⟩ := hcs
    exact ⟨[], Rd.nil _ _, fun n hn => by cases hn⟩
  · simp at hcs
    obtain ⟨rfl, rfl, rfl⟩ := hcs
    simp at h3
    have hl : (zs.take len).length = len := by rw [List.length_take]; omega
    refine ⟨zs.take len, ⟨some a', cap, by rw [hl], by omega, h2, (fun e => by cases e), ?_⟩, fun n hn => h5 n (List.mem_of_mem_take hn)⟩
    rcases Nat.eq_zero_or_pos len with h0 | h0
    · exact Or.inl (by omega)
    · right
      obtain ⟨b, off, spot⟩ := a'
      have hspot : spot = none := by
        have := h4 0 (by omega)
        simpa [Addr.add] using World.cell?_spot this
      subst hspot
      refine ⟨b, off, rfl, fun j hj => ?_⟩
      have := h4 j (by omega)
      rw [List.getElem_take]
      simp only [List.getD, List.getElem?_eq_getElem (show j < zs.length by omega), Option.getD_some] at this
      rw [← this]
      unfold Addr.add; split <;> simp_all
def Lots (W : World) (a : Option Addr) (len cap : Nat) (l : List Int) : Prop := Rd .u64 (.slice a len cap) l W ∧ Ok l
theorem open_lots {H : Type} {enc : TypeId × Value → H} {W : World} {a : Option Addr} {len cap : Nat} {d : DataW H} {ps : List MemPlace} (h : DataW.Trod enc Tryz.prog W 0 (fun _ => true) true 22 (.slice a len cap) d ps) : ∃ l, Lots W a len cap l := by
  obtain ⟨m, hm⟩ := h
  obtain ⟨l, h1, h2⟩ := open_rd Tryz.underlying22 Tryz.underlying34 Tryz.cellsU64 hm
  exact ⟨l, h1, fun x hx => by have := bounds_u64 (h2 x hx); omega⟩
end Go.Proofs.YtpoofjnfaijjjaaGreatDoor.Rn
