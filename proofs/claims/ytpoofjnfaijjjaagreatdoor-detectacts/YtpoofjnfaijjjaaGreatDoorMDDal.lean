/-
  The nodes of all doubts, rising (maps.Keys, slices.Sorted). each, with the closure of All and with that of Over. All: its closure, and it.
-/
import Derived.Test.YtpoofjnfaijjjaaGreatDoorMDShl
import Derived.Test.YtpoofjnfaijjjaaGreatDoorMDDdr
namespace Go.Proofs.YtpoofjnfaijjjaaGreatDoor.Do
open Go.RowKit Go.Maps Go.Sort Go.Shelf Go.Proofs.YtpoofjnfaijjjaaGreatDoor.Ro
variable {X : Value → Array Value}
theorem keys_any (m : Option Nat) (W : World) : Calls Tryz.prog 124 #[.map m] W fun e w' => e = .returned (.func (.func 159) #[] #[.pointer (some ⟨W.heap.size, 0, none⟩)]) ∧ w' = W.alloc (.cells #[.map m] 88) :=
  (callsIn_wide (n := 5)).1 (AnyZI.keys_in keysD Fence.wide 5 trivial rfl m W)
theorem sorts_in (n : Nat) : AnyZI.SortsIn Tryz.prog sortedD_ren Fence.wide n :=
  ⟨fun blk off cap ss W hH hblk hsz => callsIn_wide.2 (AnyM.slices_Sort_int sortD blk off cap ss W hH hblk hsz),
   fun p cap W => callsIn_wide.2 (AnyM.slices_Sort_int_none sortD p cap W)⟩
theorem keys_perm {b : Nat} {L : List Dbt} {w : World} {D : DataW Unit} (ho : w.ownsMap Tryz.prog 3 dElem b 64 D) (hp : Mp D L) (hL : Di L) : (L.map Dbt.n).Perm (intKeys D) := by
  refine CollectedI.perm (left := fun _ => false) ⟨?_, fun x => ?_⟩ ho law3 Tryz.underlying3 fun _ => rfl
  · exact List.pairwise_map.2 (hL.sort.imp fun h => by omega)
  · constructor
    · intro hx
      obtain ⟨y, hy, rfl⟩ := List.mem_map.1 hx
      exact ⟨hp.hit hy, rfl⟩
    · rintro ⟨hx, _⟩
      obtain ⟨y, hy, rfl⟩ := hp.has x hx
      exact List.mem_map.2 ⟨y, hy, rfl⟩
theorem keys_sorted {ss : List Int} {L : List Dbt} (hL : Di L) (h : ss.Perm (L.map Dbt.n)) : ss.mergeSort leI = L.map Dbt.n := by
  rw [mergeSort_of_perm_i h]
  refine List.mergeSort_of_pairwise ?_
  exact List.pairwise_map.2 (hL.sort.imp fun h => by simp only [leI, decide_eq_true_eq]; omega)
set_option maxHeartbeats 1000000 in
theorem sorted_some {b : Nat} {L : List Dbt} {w : World} (hM : Mo b L w) (hL : Di L) :
    Calls Tryz.prog 123 #[.func (.func 159) #[] #[.pointer (some ⟨w.heap.size, 0, none⟩)]] (w.alloc (.cells #[.map (some b)] 88)) fun e w' => ∃ v, e = .returned v ∧ w'.ownsRow w.heap.size 3 1 v L.length ((L.map Dbt.n).map encZ) ∧ Below w.heap.size w w' := by
  obtain ⟨D, hown, hp⟩ := hM
  have hbl := hown.lt
  have hperm := keys_perm hown hp hL
  have hsz : Maps.size D ≤ 64 := by rw [hp.size]; exact hL.length
  have hseq : SeqGives Fence.wide 2 Tryz.prog 159 #[.pointer (some ⟨w.heap.size, 0, none⟩)] encZ (fun ss => ss.Perm (intKeys D)) (Maps.size D) (w.alloc (.cells #[.map (some b)] 88)) :=
    AnyZI.keys_gives (ρ := keysD_ren) { keysD with } Fence.wide _ trivial rfl (by omega) w.heap.size b 64 D _ (by simp) (by simp) (by
      obtain ⟨es, clock, hb, Ft, hs, hD⟩ := hown
      exact ⟨es, clock, (Below.heap_alloc _ _ b hbl).trans hb, Ft, hs, hD⟩)
  have cS := AnyZI.sorted_in sortedD Fence.wide 5 trivial trivial trivial trivial rfl (by omega) (sorts_in _) (enters_of Tryz.func158 (by kernel_rfl) rfl) 159 #[.pointer (some ⟨w.heap.size, 0, none⟩)] trivial (enters_of Tryz.func159 (by kernel_rfl) rfl) _ _ (by unfold maxLen; omega) (by omega) _ hseq
  change CallsIn _ _ Tryz.prog 123 _ _ _ at cS
  refine (callsIn_wide.1 cS).mono ?_
  rintro e w' ⟨v, ss, rfl, hS, hrow, _, hb⟩
  have hp2 := hS.trans hperm.symm
  have hln : ss.length = L.length := by rw [hp2.length_eq, List.length_map]
  have hs := keys_sorted hL hp2
  unfold leI at hs
  rw [hs, hln] at hrow
  refine ⟨v, rfl, ?_, ((Below.refl _ w).alloc (Nat.le_refl _) _).trans (hb.mono (by simp))⟩
  exact ownsRow_base_a hrow (by simp)
set_option maxHeartbeats 1000000 in
theorem sorted_none (w : World) :
    Calls Tryz.prog 123 #[.func (.func 159) #[] #[.pointer (some ⟨w.heap.size, 0, none⟩)]] (w.alloc (.cells #[.map none] 88)) fun e w' => e = .returned (.slice none 0 0) ∧ Below w.heap.size w w' := by
  have hseq : SeqGives Fence.wide 2 Tryz.prog 159 #[.pointer (some ⟨w.heap.size, 0, none⟩)] encZ (fun ss : List Int => ss = []) 0 (w.alloc (.cells #[.map none] 88)) :=
    AnyZI.keys_gives_nil (ρ := keysD_ren) { keysD with } Fence.wide _ trivial rfl w.heap.size _ (by simp) (by simp)
  have cS := AnyZI.sorted_in sortedD Fence.wide 5 trivial trivial trivial trivial rfl (by omega) (sorts_in _) (enters_of Tryz.func158 (by kernel_rfl) rfl) 159 #[.pointer (some ⟨w.heap.size, 0, none⟩)] trivial (enters_of Tryz.func159 (by kernel_rfl) rfl) _ 0 (Nat.zero_le _) (by omega) _ hseq
  change CallsIn _ _ Tryz.prog 123 _ _ _ at cS
  refine (callsIn_wide.1 cS).mono ?_
  rintro e w' ⟨v, ss, rfl, hS, _, hnil, hb⟩
  obtain rfl : v = .slice none 0 0 := hnil.2 hS
  exact ⟨rfl, ((Below.refl _ w).alloc (Nat.le_refl _) _).trans (hb.mono (by simp))⟩
variable {X : Value → Array Value}
theorem row_at {B : Nat} {v : Value} {l : List Dbt} {w : World} (h : w.ownsRow B 3 1 v l.length ((l.map Dbt.n).map encZ)) :
    ∃ a cap, v = .slice a l.length cap ∧ l.length ≤ cap ∧ cap ≤ maxLen ∧ (l.length = 0 ∨ ∃ g, a = some ⟨g, 0, none⟩ ∧ B ≤ g ∧ g < w.heap.size ∧ ∀ k (hk : k < l.length), w.cell? ⟨g, 0 + k, none⟩ = some (.int .i64 l[k].n)) := by
  rcases h.2 with ⟨rfl, h0⟩ | ⟨g, cap, cur, rfl, hb, hg, h1, h2, h3, h4⟩
  · exact ⟨none, 0, by rw [h0], by omega, by unfold maxLen; omega, Or.inl h0⟩
  · refine ⟨_, cap, rfl, h1, h2, Or.inr ⟨g, rfl, hb, (Array.getElem?_eq_some_iff.1 hg).1, fun k hk => ?_⟩⟩
    rw [Nat.zero_add, World.ownsRow.cellAt h k (by omega)]
    simp [hk]
set_option maxRecDepth 100000 in
set_option maxHeartbeats 2000000 in
theorem each_none (p : Nat) (f : Value) (w : World) (hQ : Du X p none [] w) :
    Calls Tryz.prog 79 #[.pointer (some ⟨p, 3, none⟩), f] w fun e w' => e = .returned (.tuple #[]) ∧ Below w.heap.size w w' := by
  have hc := hQ.c
  have c0 := fun W => keys_any none W
  have c1 := sorted_none w
  go_enter Tryz.func79, Tryz.ntmps79
  go_wp2_with fail
  refine (c0 _).mono ?_
  rintro e w1 ⟨rfl, rfl⟩
  go_wp2_with fail
  refine c1.mono ?_
  rintro e w2 ⟨rfl, hb⟩
  go_wp2_with fail
  refine wp_loop_rounds 1 ?_
  rw [rounds_succ]
  go_wp2_with fail
  go_end0
  exact ⟨rfl, hb⟩
set_option maxRecDepth 100000 in
set_option maxHeartbeats 2000000 in
theorem each_some (p b : Nat) (F : Nat) (caps : Array Value) (hF : ∀ args w, (callFunc F args).run Tryz.prog w = .ok (.enter F args) w) (L : List Dbt) (w : World) (hQ : Du X p (some b) L w) (I : World → Nat → World → Prop)
    (h0 : ∀ wS, Below w.heap.size w wS → I wS 0 wS)
    (hst : ∀ wS k w', Below w.heap.size w wS → ∀ (hk : k < L.length), I wS k w' → (∃ L', Du X p (some b) L' w' ∧ getD L' L[k].n = L[k]) ∧ (∀ g, w.heap.size ≤ g → g < wS.heap.size → w'.heap[g]? = wS.heap[g]?) ∧
      Calls Tryz.prog F (#[dV L[k]] ++ caps) w' fun e w'' => e = .returned (.tuple #[]) ∧ I wS (k + 1) w'') :
    Calls Tryz.prog 79 #[.pointer (some ⟨p, 3, none⟩), .func (.func F) #[] caps] w fun e w' => e = .returned (.tuple #[]) ∧ ∃ wS, Below w.heap.size w wS ∧ I wS L.length w' := by
  have hc := hQ.c
  have c0 := fun W => keys_any (some b) W
  have c1 := sorted_some (hQ.some_ b rfl) hQ.di
  have hnb : ∀ k (hk : k < L.length), 0 ≤ L[k].n ∧ L[k].n < 64 := fun k hk => ⟨(hQ.di.ok _ (List.getElem_mem hk)).n0, (hQ.di.ok _ (List.getElem_mem hk)).n1⟩
  have hll := hQ.di.length
  clear hQ
  go_enter Tryz.func79, Tryz.ntmps79
  go_wp2_with fail
  refine (c0 _).mono ?_
  rintro e w1 ⟨rfl, rfl⟩
  go_wp2_with fail
  refine c1.mono ?_
  rintro e wS ⟨v, rfl, hrow, hb⟩
  obtain ⟨a, cap, rfl, r1, r2, r3⟩ := row_at hrow
  have h00 := h0 wS hb
  have hstS := fun k w' => hst wS k w' hb
  clear hrow h0 hst c0 c1 hc
  obtain ⟨N, HN⟩ : ∃ N, Hid (L.length = N) := ⟨_, rfl⟩
  have hNl : N ≤ 64 := by rw [← HN.out]; exact hll
  rw [HN.out] at r1 ⊢
  clear hll
  go_wp2_with fail
  go_loopg [13] N (fun gk t13 wr => ∃ k : Nat, k + gk = N ∧ t13 = .int .i64 k ∧ I wS k wr)
  case atStart => exact ⟨0, by omega, rfl, h00⟩
  case round =>
    obtain ⟨k, hk, rfl, hI⟩ := hrel
    by_cases hlt : k < N
    · have hkl : k < L.length := by rw [HN.out]; exact hlt
      obtain ⟨⟨L', hQ', hget⟩, hkeep, hcall⟩ := hstS k wr hkl hI
      have hn := hnb k hkl
      have hg := get_any hQ' (n := L[k].n) (wf_node hn.1 hn.2)
      rw [hget] at hg
      obtain ⟨g, rfl, hg1, hg2, hcell⟩ : ∃ g, a = some ⟨g, 0, none⟩ ∧ w.heap.size ≤ g ∧ g < wS.heap.size ∧ wS.cell? ⟨g, 0 + k, none⟩ = some (.int .i64 L[k].n) := by
        rcases r3 with h | ⟨g, rfl, hg1, hg2, h⟩
        · omega
        · exact ⟨g, rfl, hg1, hg2, h k hkl⟩
      have hcell := (World.cell?_of_block (w := wS) (hkeep g hg1 hg2)).trans hcell
      have hc := hQ'.c
      have k0 : (0 : Int) ≤ k := by omega
      have k1 : (k : Int) < N := by omega
      rw [Nat.zero_add] at hcell
      clear hQ' hget hkeep hstS r3 hI h00
      generalize L[k] = x at *
      unfold dV at hg hcall
      go_wp2_with fail
      refine hcall.mono ?_
      rintro e wn ⟨rfl, hI2⟩
      go_wp2_with fail
      go_roundg (gk - 1)
      case rel => exact ⟨k + 1, by omega, by simp, hI2⟩
      case measure => omega
    · obtain rfl : k = N := by omega
      go_wp2_with fail
      go_end0
      exact ⟨rfl, wS, hb, by rw [HN.out]; exact hI⟩
variable {X : Value → Array Value}
structure But (B : Nat) (S : List Nat) (w w' : World) : Prop where
  os : w'.os = w.os
  tape : w'.tape = w.tape
  output : w'.output = w.output
  size : w.heap.size ≤ w'.heap.size
  block : ∀ k, k < B → k ∉ S → w'.heap[k]? = w.heap[k]?
theorem But.refl (B : Nat) (S : List Nat) (w : World) : But B S w w := ⟨rfl, rfl, rfl, Nat.le_refl _, fun _ _ _ => rfl⟩
theorem But.trans {B : Nat} {S : List Nat} {w w1 w2 : World} (h : But B S w w1) (k : But B S w1 w2) : But B S w w2 := ⟨k.os.trans h.os, k.tape.trans h.tape, k.output.trans h.output, Nat.le_trans h.size k.size, fun i hi hn => (k.block i hi hn).trans (h.block i hi hn)⟩
theorem But.of {B : Nat} {S : List Nat} {w w1 : World} (h : Below B w w1) : But B S w w1 := ⟨h.os, h.tape, h.output, h.size, fun i hi _ => h.block i hi⟩
theorem But.mono {B C : Nat} {S : List Nat} {w w1 : World} (h : But B S w w1) (hC : C ≤ B) : But C S w w1 := ⟨h.os, h.tape, h.output, h.size, fun i hi hn => h.block i (by omega) hn⟩
end Go.Proofs.YtpoofjnfaijjjaaGreatDoor.Do
