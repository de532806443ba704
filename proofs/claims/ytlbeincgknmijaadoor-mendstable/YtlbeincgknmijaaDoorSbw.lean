/-
  Stable, the code's and the reference's; MendStable, walked.
-/
import Derived.Test.YtlbeincgknmijaaDoorSbm
import Derived.BigRegion
namespace Go.Proofs.YtlbeincgknmijaaDoor
open Go.RowKit Go.Maps

theorem Rd.get {g off n cap : Nat} {l : List Int} {w : World} (h : Ro.Bnd.Rd (.slice (some ⟨g, off, none⟩) n cap) l w) {j : Nat} (hj : j < l.length) : w.cell? ⟨g, off + j, none⟩ = some (.int .i64 l[j]) := by
  obtain ⟨_, _, e, h3⟩ := h
  cases e
  rcases h3 with h3 | ⟨g', off', e, h3⟩
  · omega
  · cases e; exact h3 j hj

set_option maxRecDepth 100000 in
set_option maxHeartbeats 2000000 in
theorem stable_any (b : Nat) (hb : b < Ro.Bnd.lim) (m n : Nat) (f : Int → Option Int) (hF : Half f) (w : World) (hT : Ro.Bnd.Tab w) (hM : Mo m f n w) :
    Calls Tryd.prog 5 #[.int .u64 b, .map (some m)] w fun e w' => e = .returned (.int .u64 (lowS f (Ro.Bnd.lst b))) ∧ Below w.heap.size w w' := by
  by_cases h0 : b = 0
  · subst h0
    rw [Ro.Bnd.lst_zero]
    go_enter Tryd.func5, Tryd.ntmps5
    go_wp2_with fail
    go_ret
    exact ⟨rfl, Below.refl _ _⟩
  · have hz : ((b : Int) == 0) = false := by simp; omega
    have hne : Ro.Bnd.lst b ≠ [] := fun e => h0 ((Ro.Bnd.lst_nil hb).1 e)
    have hnd : ∀ x ∈ Ro.Bnd.lst b, 0 ≤ x ∧ x < 64 := fun x hx => Ro.Bnd.lst_range hx
    have hlen : (Ro.Bnd.lst b).length ≤ 64 := by rw [Ro.Bnd.lst_length]; exact Ro.Bnd.many_le b
    have hL := Ro.Bnd.list_rd b hb w hT
    generalize Ro.Bnd.lst b = L at *
    go_enter Tryd.func5, Tryd.ntmps5
    go_wp2_with fail
    refine hL.mono ?_
    rintro e w1 ⟨v, rfl, hR, hb1⟩
    obtain ⟨a, cap, rfl, h3⟩ := id hR
    clear hL h0 hz
    go_wp2_with fail
    go_loopg [5, 13] L.length (fun gk t5 t13 wr => ∃ i : Nat, i + gk = L.length ∧ t13 = .int .i64 i ∧ t5 = .int .u64 (minS f (L.take i)) ∧ Below w1.heap.size w1 wr)
    case atStart => exact ⟨0, by omega, rfl, rfl, Below.refl _ _⟩
    case round =>
      obtain ⟨i, hi, rfl, rfl, hB⟩ := hrel
      have i0 : (0 : Int) ≤ i := by omega
      by_cases hlt : (i : Int) < L.length
      · have hil : i < L.length := by omega
        rcases h3 with h3 | ⟨g, off, rfl, h3⟩
        · omega
        clear h3
        have c1 := Rd.get (hR.below hB) hil
        obtain ⟨x0, x1⟩ := hnd _ (List.getElem_mem hil)
        have hs : Hid (minS f (L.take (i + 1)) = min (minS f (L.take i)) (gotS f L[i])) := by
          show _ = _
          rw [List.take_add_one, List.getElem?_eq_getElem hil]; exact minS_snoc _ _ _
        have hget := ((hM.below hb1).keep (w' := wr) (hB.block m (by have := hM.lt; have := hb1.size; omega))).get x0 x1
        have hg : Hid ((f L[i]).getD 0 = gotS f L[i]) := rfl
        rw [hg.out] at hget
        have gr := gotS_range hF L[i]
        have mr := minS_range hF (L.take i)
        generalize minS f (L.take i) = M at *
        generalize gotS f L[i] = y at *
        generalize L[i] = x at *
        clear hM hT hR hF hg
        by_cases hd : y < M
        · have hmin : Hid (min M y = y) := by show min M y = y; omega
          go_wp2_with fail
          go_roundg (gk - 1)
          case rel => exact ⟨i + 1, by omega, by go_num, by rw [hs.out, hmin.out], hB⟩
          case measure => omega
        · have hmin : Hid (min M y = M) := by show min M y = M; omega
          go_wp2_with fail
          go_roundg (gk - 1)
          case rel => exact ⟨i + 1, by omega, by go_num, by rw [hs.out, hmin.out], hB⟩
          case measure => omega
      · have e : L.take i = L := List.take_of_length_le (by omega)
        rw [e]
        have hlow : Hid (lowS f L = minS f L) := by show _ = _; unfold lowS; rw [if_neg hne]
        clear h3 hR hM hT
        go_wp2_with fail
        go_ret
        refine ⟨?_, hb1.trans (hB.mono hb1.size)⟩
        rw [hlow.out]; rfl

set_option maxRecDepth 100000 in
set_option maxHeartbeats 2000000 in
theorem rstable_any (b : Nat) (hb : b < Ro.Bnd.lim) (m n : Nat) (f : Int → Option Int) (hF : Half f) (w : World) (hM : Mo m f n w) :
    Calls Tryd.prog 7 #[.int .u64 b, .map (some m)] w fun e w' => e = .returned (.int .u64 (lowS f (Ro.Bnd.lst b))) ∧ Below w.heap.size w w' := by
  have hnd : ∀ x ∈ Ro.Bnd.lst b, 0 ≤ x ∧ x < 64 := fun x hx => Ro.Bnd.lst_range hx
  have hlen : (Ro.Bnd.lst b).length ≤ 64 := by rw [Ro.Bnd.lst_length]; exact Ro.Bnd.many_le b
  have hL := Ro.Bnd.rlist_any b hb w
  generalize Ro.Bnd.lst b = L at *
  go_enter Tryd.func7, Tryd.ntmps7
  go_wp2_with fail
  refine hL.mono ?_
  rintro e w1 ⟨v, rfl, hR, hb1⟩
  obtain ⟨a, cap, rfl, h3⟩ := id hR
  clear hL
  go_wp2_with fail
  go_loopg [6, 7] L.length (fun gk t6 t7 wr => ∃ i : Nat, i + gk = L.length ∧ t7 = .int .i64 i ∧ t6 = .int .u64 (lowS f (L.take i)) ∧ Below w1.heap.size w1 wr)
  case atStart => exact ⟨0, by omega, rfl, rfl, Below.refl _ _⟩
  case round =>
    obtain ⟨i, hi, rfl, rfl, hB⟩ := hrel
    have i0 : (0 : Int) ≤ i := by omega
    by_cases hlt : (i : Int) < L.length
    · have hil : i < L.length := by omega
      rcases h3 with h3 | ⟨g, off, rfl, h3⟩
      · omega
      clear h3
      have c1 := Rd.get (hR.below hB) hil
      obtain ⟨x0, x1⟩ := hnd _ (List.getElem_mem hil)
      have hget := ((hM.below hb1).keep (w' := wr) (hB.block m (by have := hM.lt; have := hb1.size; omega))).look x0 x1
      have hmem := List.getElem_mem hil
      have hst : Hid (L.take (i + 1) = L.take i ++ [L[i]]) := by
        show _ = _
        rw [List.take_add_one, List.getElem?_eq_getElem hil]; rfl
      have lr := lowS_range hF (L.take i)
      generalize L[i] = x at *
      have gr := gotS_range hF x
      have hg : Hid (gotS f x = (f x).getD 0) := rfl
      rw [← hg.out] at hget
      cases hf : f x with
      | none =>
        have hl := lowS_miss hF hmem hf
        rw [hf] at hget hg
        rw [hg.out] at hget
        rw [show (none : Option Int).getD 0 = 0 from rfl, show (none : Option Int).isSome = false from rfl] at hget
        have hl : Hid (lowS f L = 0) := hl
        clear hM hR hF hg gr lr hst
        go_wp2_with fail
        go_ret
        refine ⟨?_, hb1.trans (hB.mono hb1.size)⟩
        rw [hl.out]; rfl
      | some y =>
        rw [hf] at hget hg
        rw [hg.out] at hget gr
        rw [show (some y : Option Int).getD 0 = y from rfl] at hget gr
        rw [show (some y : Option Int).isSome = true from rfl] at hget
        have hg : Hid (gotS f x = y) := hg
        by_cases hi0 : i = 0
        · subst hi0
          have ho : Hid (lowS f [x] = gotS f x) := lowS_one hF x
          rw [Nat.add_zero] at c1
          have hlt0 : (0 : Int) < L.length := by omega
          clear hM hR hF lr hlt
          go_wp2_with fail
          go_roundg (gk - 1)
          case rel =>
            have e := hst.out
            rw [show L.take 0 = [] from rfl, List.nil_append] at e
            exact ⟨1, by omega, by go_num, by rw [e, ho.out, hg.out], hB⟩
          case measure => omega
        · have hz : ((i : Int) == 0) = false := by simp; omega
          have hne : L.take i ≠ [] := by
            intro e
            have := congrArg List.length e
            rw [List.length_take, List.length_nil] at this
            omega
          have hsn : Hid (lowS f (L.take (i + 1)) = min (lowS f (L.take i)) y) := by show _ = _; rw [hst.out, lowS_snoc _ _ hne, hg.out]
          clear hst hg hne hM hR hF
          generalize lowS f (L.take i) = M at *
          by_cases hd : y < M
          · have hmin : Hid (min M y = y) := by show min M y = y; omega
            go_wp2_with fail
            go_roundg (gk - 1)
            case rel => exact ⟨i + 1, by omega, by go_num, by rw [hsn.out, hmin.out], hB⟩
            case measure => omega
          · have hmin : Hid (min M y = M) := by show min M y = M; omega
            go_wp2_with fail
            go_roundg (gk - 1)
            case rel => exact ⟨i + 1, by omega, by go_num, by rw [hsn.out, hmin.out], hB⟩
            case measure => omega
    · have e : L.take i = L := List.take_of_length_le (by omega)
      rw [e]
      clear h3 hR hM
      go_wp2_with fail
      go_ret
      exact ⟨rfl, hb1.trans (hB.mono hb1.size)⟩
end Go.Proofs.YtlbeincgknmijaaDoor
