/-
  Merge.
-/
import Derived.Test.YtkodeahhckibmaaDoorHal
namespace Go.Proofs.YtkodeahhckibmaaDoor
open Go.RowKit

theorem zero_ents : ((Tryd.prog.info? 51).bind (·.zero)) = some (.agg (entsC fun _ => none).toArray) := by kernel_rfl
theorem run_zero_ents (w : World) : (zeroValue 51).run Tryd.prog w = .ok (.agg (entsC fun _ => none).toArray) w := by
  have h := zero_ents
  generalize Value.agg (entsC fun _ => none).toArray = v at *
  cases hi : Tryd.prog.info? 51 with
  | none => simp [hi] at h
  | some i =>
    rw [hi] at h
    have hz : i.zero = some v := h
    simp [zeroValue, typeInfo, hi, hz]

/-- Block b is the cells c, of type T. -/
def At (b : Nat) (T : TypeId) (c : Array Value) (w : World) : Prop := w.heap[b]? = some (.cells c T (0, 0))
theorem At.cell {b : Nat} {T : TypeId} {c : Array Value} {w : World} (h : At b T c w) (i : Nat) : w.cell? ⟨b, i, none⟩ = c[i]? := by unfold At at h; simp [World.cell?, h]
theorem At.frozen {b : Nat} {T : TypeId} {c : Array Value} {w : World} (h : At b T c w) (i : Nat) : w.frozen? ⟨b, i, none⟩ = false := by unfold At at h; simp [World.frozen?, h]
theorem At.set {b : Nat} {T : TypeId} {c : Array Value} {w : World} (h : At b T c w) (i : Nat) (v : Value) : At b T (c.setIfInBounds i v) (w.setCell ⟨b, i, none⟩ v) := by
  unfold At at *; simp [World.setCell, Array.getElem?_modify, h]
theorem At.there {b : Nat} {T : TypeId} {c : Array Value} {w : World} (h : At b T c w) {n : Nat} (hn : n = c.size) : w.there b 0 n := fun j hj => by
  rw [Nat.zero_add, h.cell, h.frozen]; simp; omega
theorem At.setAll {b : Nat} {T : TypeId} {c : Array Value} {w : World} (h : At b T c w) (d : Array Value) (hd : d.size = c.size) : At b T d (w.setCells b 0 d.toList) := by
  have key : ∀ (vs : List Value) (o : Nat) (w : World) (c : Array Value), At b T c w → o + vs.length = c.size → At b T ((c.toList.take o) ++ vs).toArray (w.setCells b o vs) := by
    intro vs
    induction vs with
    | nil =>
      intro o w c h ho
      simp only [World.setCells, List.append_nil]
      rw [List.take_of_length_le (by simp at ho ⊢; omega)]
      simpa using h
    | cons v r ih =>
      intro o w c h ho
      rw [World.setCells]
      have := ih (o + 1) _ _ (h.set o v) (by simp at ho ⊢; omega)
      have e : (c.setIfInBounds o v).toList.take (o + 1) ++ r = c.toList.take o ++ v :: r := by
        have hl : o < c.toList.length := by simp at ho ⊢; omega
        rw [Array.toList_setIfInBounds, List.take_add_one, List.getElem?_set_self hl, List.take_set_of_le (Nat.le_refl _)]
        simp
      rw [← e]; exact this
  have := key d.toList 0 w c h (by simp [hd])
  simpa using this
theorem below_setCells {B : Nat} {a : World} {b : Nat} (hb : B ≤ b) : ∀ (vs : List Value) (o : Nat) (w : World), Below B a w → Below B a (w.setCells b o vs)
  | [], _, _, h => h
  | v :: r, o, w, h => by rw [World.setCells]; exact below_setCells hb r (o + 1) _ (h.setCell hb v)

/-- What a merge tells as news. -/
def newsS (f g : Tab) (e : Int) : List Upd := if e == 0 then pickN g (fun j => neE (g j) (f j)) 64 else []

set_option maxRecDepth 100000 in
set_option maxHeartbeats 1000000 in
theorem merge_any (p k : Nat) (f : Tab) (v : Value) (l : List Upd) (hk : k < 64) (w : World) (hR : Rl p k f w) (hU : Ru v l w) (hv : l.length ≠ 0 → v.ownBlock ≠ some p) (hl : l.length ≤ 1000000) (hin : ∀ u ∈ l, 0 ≤ u.i ∧ u.i ≤ 18446744073709551615) :
    Calls Tryd.prog 11 #[.pointer (some ⟨p, 0, none⟩), v] w fun e w' => (∃ v', e = .returned (.tuple #[v', .int .i64 (hearAllS k f l).1]) ∧ Own w.heap.size v' (newsS f (hearAllS k f l).2 (hearAllS k f l).1) w') ∧ Rl p k (hearAllS k f l).2 w' ∧ But w.heap.size p w w' := by
  have hP := Pt.new p w
  have ba := below_alloc w (.cells #[.pointer (some ⟨p, 0, none⟩)] 25)
  have hR1 := hR.below ba
  have hU1 := hU.below ba
  have hw1 : (w.alloc (.cells #[.pointer (some ⟨p, 0, none⟩)] 25)).heap.size = w.heap.size + 1 := by simp
  have hz := run_zero_ents
  have x := hP.c
  have hZ : (entsC fun _ => none).toArray.size = 256 := by simp [entsC_length]
  generalize (entsC fun _ => none).toArray = Z at *
  obtain ⟨r, HR⟩ : ∃ r, Hid (hearAllS k f l = r) := ⟨_, rfl⟩
  rw [HR.out]
  obtain ⟨e0, g⟩ := r
  dsimp only
  go_enter Tryd.func11, Tryd.ntmps11
  go_wp2_with fail
  refine wp_load_mid 51 (.tmp 10) rfl p 1 rfl (entsC f) _ hR1.range Tryd.underlying51 rfl (by rw [Tryd.sizeEs, entsC_length]) ?_
  generalize w.alloc (.cells #[.pointer (some ⟨p, 0, none⟩)] 25) = w1 at *
  generalize hC : (entsC f).toArray = C at *
  have hCs : C.size = 256 := by rw [← hC]; simp [entsC_length]
  obtain ⟨w2, hst, hE2, hB2⟩ : ∃ w2, (storeCells ⟨w.heap.size + 1, 0, none⟩ C.toList 0).run Tryd.prog (w1.alloc (.cells Z 51)) = .ok () w2 ∧ En (w.heap.size + 1) f w2 ∧ Below w1.heap.size w1 w2 := by
    have hA : At w1.heap.size 51 Z (w1.alloc (.cells Z 51)) := heap_alloc_new _ _
    have hT := hA.there (n := C.toList.length) (by simp [hCs, hZ])
    refine ⟨_, run_storeCells_cells (w.heap.size + 1) 0 C.toList 0 _ (fun j hj => ?_) (fun j hj => ?_) ?_, ⟨?_⟩, ?_⟩
    · have := (hT j hj).1
      rw [hw1] at this
      simpa using this
    · have := (hT j hj).2
      rw [hw1] at this
      simpa using this
    · rw [← hC]; exact entsC_one f
    · have := hA.setAll C (by rw [hCs, hZ])
      rw [hw1] at this
      unfold At at this
      rw [hC]
      simpa using this
    · have := below_setCells (Nat.le_refl w1.heap.size) C.toList 0 _ (below_alloc w1 (.cells Z 51))
      rw [hw1] at this ⊢
      simpa using this
  have hP2 := hP.below hB2
  have hR2 := hR1.below hB2
  have hU2 := hU1.below hB2
  have hB3 := ba.trans (hB2.mono ba.size)
  have hp2 : p < w.heap.size := hR.lt
  have x' := hP2.c
  have hz2 : w.heap.size + 1 < w2.heap.size := hE2.lt
  have hHA := hearAll_any p k f v l hk w2 hR2 hU2 hv hl hin
  rw [HR.out] at hHA
  clear hP hR1 hU1 x hB2 ba
  go_wp2_with fail
  refine hHA.mono ?_
  rintro e w3 ⟨rfl, hR3, hb3⟩
  dsimp only at hR3 ⊢
  have hP3 : Pt w.heap.size p w3 := hP2.keep (hb3.block _ (by omega) (by omega))
  have hE3 : En (w.heap.size + 1) f w3 := hE2.keep (hb3.block _ (by omega) (by omega))
  have hB4 : But w.heap.size p w w3 := (But.of hB3).trans (hb3.mono hB3.size)
  have x3 := hP3.c
  clear hHA hst hP2 hR2 hU2 hB3 x' hE2 hb3
  cases he : (e0 == 0)
  case false =>
    have he' : (e0 != 0) = true := by simpa using he
    go_wp2_with fail
    go_ret2
    refine ⟨⟨_, rfl, ?_⟩, hR3, hB4⟩
    simp only [newsS, he]
    exact Own.nil _ _
  case true =>
    have he' : (e0 != 0) = false := by simpa using he
    have hn : newsS f g e0 = pickN g (fun j => neE (g j) (f j)) 64 := by simp only [newsS, he]; rfl
    obtain rfl : e0 = 0 := by simpa using he
    have hL := list_any p k g 36 #[.pointer (some ⟨w.heap.size, 0, none⟩), .pointer (some ⟨w.heap.size + 1, 0, none⟩)] (fun j => neE (g j) (f j)) w3 hR3 (enter_of Tryd.func36 (by kernel_rfl) rfl)
      (fun j w' hj hb => news_any w.heap.size p (w.heap.size + 1) k g f j hj w' (hP3.below hb) (hR3.below hb) (hE3.below hb))
    have HN : Hid _ := hn
    clear he he' hn hE3
    go_wp2_with fail
    refine hL.mono ?_
    rintro e w4 ⟨⟨v', rfl, hO⟩, hB⟩
    go_wp2_with fail
    go_ret2
    exact ⟨⟨v', rfl, by rw [HN.out]; exact hO.mono hB4.size⟩, hR3.below hB, hB4.trans ((But.of hB).mono hB4.size)⟩
end Go.Proofs.YtkodeahhckibmaaDoor
