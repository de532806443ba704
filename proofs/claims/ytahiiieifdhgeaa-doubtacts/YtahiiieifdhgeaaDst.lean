/-
  The nodes of all doubts, rising (maps.Keys, slices.Sorted).
-/
import Derived.Test.YtahiiieifdhgeaaShl
import Derived.Test.YtahiiieifdhgeaaDdr
namespace Go.Proofs.Ytahiiieifdhgeaa
open Go.RowKit Go.Maps Go.Sort Go.Shelf

theorem keys_any (m : Option Nat) (W : World) : Calls Try.prog 47 #[.map m] W fun e w' => e = .returned (.func (.func 54) #[] #[.pointer (some ⟨W.heap.size, 0, none⟩)]) ∧ w' = W.alloc (.cells #[.map m] 25) :=
  (callsIn_wide (n := 5)).1 (AnyZI.keys_in keysD Fence.wide 5 trivial rfl m W)

theorem sorts_in (n : Nat) : AnyZI.SortsIn Try.prog sortedD_ren Fence.wide n :=
  ⟨fun blk off cap ss W hH hblk hsz => callsIn_wide.2 (AnyM.slices_Sort_int sortD blk off cap ss W hH hblk hsz),
   fun p cap W => callsIn_wide.2 (AnyM.slices_Sort_int_none sortD p cap W)⟩

theorem keys_perm {b : Nat} {L : List Dbt} {w : World} {D : DataW Unit} (ho : w.ownsMap Try.prog 3 dElem b 64 D) (hp : Mp D L) (hL : Di L) : (L.map Dbt.n).Perm (intKeys D) := by
  refine CollectedI.perm (left := fun _ => false) ⟨?_, fun x => ?_⟩ ho law3 Try.underlying3 fun _ => rfl
  · exact List.pairwise_map.2 (hL.sort.imp fun h => by omega)
  · constructor
    · intro hx
      obtain ⟨y, hy, rfl⟩ := List.mem_map.1 hx
      exact ⟨hp.hit hy, rfl⟩
    · rintro ⟨hx, _⟩
      obtain ⟨y, hy, rfl⟩ := hp.has x hx
      exact List.mem_map.2 ⟨y, hy, rfl⟩
theorem keys_sorted {ss : List Int} {L : List Dbt} (hL : Di L) (h : ss.Perm (L.map Dbt.n)) : ss.mergeSort leI = L.map Dbt.n := by
  rw [mergeSort_of_perm_i h]
  refine List.mergeSort_of_pairwise ?_
  exact List.pairwise_map.2 (hL.sort.imp fun h => by simp only [leI, decide_eq_true_eq]; omega)

set_option maxHeartbeats 1000000 in
theorem sorted_some {b : Nat} {L : List Dbt} {w : World} (hM : Mo b L w) (hL : Di L) :
    Calls Try.prog 46 #[.func (.func 54) #[] #[.pointer (some ⟨w.heap.size, 0, none⟩)]] (w.alloc (.cells #[.map (some b)] 25)) fun e w' => ∃ v, e = .returned v ∧ w'.ownsRow w.heap.size 3 1 v L.length ((L.map Dbt.n).map encZ) ∧ Below w.heap.size w w' := by
  obtain ⟨D, hown, hp⟩ := hM
  have hbl := hown.lt
  have hperm := keys_perm hown hp hL
  have hsz : Maps.size D ≤ 64 := by rw [hp.size]; exact hL.length
  have hseq : SeqGives Fence.wide 2 Try.prog 54 #[.pointer (some ⟨w.heap.size, 0, none⟩)] encZ (fun ss => ss.Perm (intKeys D)) (Maps.size D) (w.alloc (.cells #[.map (some b)] 25)) :=
    AnyZI.keys_gives (ρ := keysD_ren) { keysD with } Fence.wide _ trivial rfl (by omega) w.heap.size b 64 D _ (by simp) (by simp) (by
      obtain ⟨es, clock, hb, Ft, hs, hD⟩ := hown
      exact ⟨es, clock, (Below.heap_alloc _ _ b hbl).trans hb, Ft, hs, hD⟩)
  have cS := AnyZI.sorted_in sortedD Fence.wide 5 trivial trivial trivial trivial rfl (by omega) (sorts_in _) (enters_of Try.func53 (by kernel_rfl) rfl) 54 #[.pointer (some ⟨w.heap.size, 0, none⟩)] trivial (enters_of Try.func54 (by kernel_rfl) rfl) _ _ (by unfold maxLen; omega) (by omega) _ hseq
  change CallsIn _ _ Try.prog 46 _ _ _ at cS
  refine (callsIn_wide.1 cS).mono ?_
  rintro e w' ⟨v, ss, rfl, hS, hrow, _, hb⟩
  have hp2 := hS.trans hperm.symm
  have hln : ss.length = L.length := by rw [hp2.length_eq, List.length_map]
  have hs := keys_sorted hL hp2
  unfold leI at hs
  rw [hs, hln] at hrow
  refine ⟨v, rfl, ?_, ((Below.refl _ w).alloc (Nat.le_refl _) _).trans (hb.mono (by simp))⟩
  exact ownsRow_base_a hrow (by simp)

set_option maxHeartbeats 1000000 in
theorem sorted_none (w : World) :
    Calls Try.prog 46 #[.func (.func 54) #[] #[.pointer (some ⟨w.heap.size, 0, none⟩)]] (w.alloc (.cells #[.map none] 25)) fun e w' => e = .returned (.slice none 0 0) ∧ Below w.heap.size w w' := by
  have hseq : SeqGives Fence.wide 2 Try.prog 54 #[.pointer (some ⟨w.heap.size, 0, none⟩)] encZ (fun ss : List Int => ss = []) 0 (w.alloc (.cells #[.map none] 25)) :=
    AnyZI.keys_gives_nil (ρ := keysD_ren) { keysD with } Fence.wide _ trivial rfl w.heap.size _ (by simp) (by simp)
  have cS := AnyZI.sorted_in sortedD Fence.wide 5 trivial trivial trivial trivial rfl (by omega) (sorts_in _) (enters_of Try.func53 (by kernel_rfl) rfl) 54 #[.pointer (some ⟨w.heap.size, 0, none⟩)] trivial (enters_of Try.func54 (by kernel_rfl) rfl) _ 0 (Nat.zero_le _) (by omega) _ hseq
  change CallsIn _ _ Try.prog 46 _ _ _ at cS
  refine (callsIn_wide.1 cS).mono ?_
  rintro e w' ⟨v, ss, rfl, hS, _, hnil, hb⟩
  obtain rfl : v = .slice none 0 0 := hnil.2 hS
  exact ⟨rfl, ((Below.refl _ w).alloc (Nat.le_refl _) _).trans (hb.mono (by simp))⟩
end Go.Proofs.Ytahiiieifdhgeaa
