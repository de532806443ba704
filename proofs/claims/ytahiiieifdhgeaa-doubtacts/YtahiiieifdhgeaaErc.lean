/-
  The reference's Over.
-/
import Derived.Test.YtahiiieifdhgeaaErb
import Derived.Deep.RegionLaw
namespace Go.Proofs.Ytahiiieifdhgeaa
open Go.RowKit Go.Maps

theorem Own.butS {B C q : Nat} {v : Value} {l : List Upd} {w w' : World} (h : Own C v l w) (k : But B [q] w w') (hB : w.heap.size ≤ B) (hq : q < C) : Own C v l w' := h.keep fun g hg hlt => k.block g (by omega) (by have := (h.lt g hg).1; simp; omega)
theorem OwD.butS {T : TypeId} {B C q : Nat} {v : Value} {l : List Dbt} {w w' : World} (h : OwD T C v l w) (k : But B [q] w w') (hB : w.heap.size ≤ B) (hq : q < C) : OwD T C v l w' := h.keep fun g hg hlt => k.block g (by omega) (by have := (h.lt g hg).1; simp; omega)
theorem Own.blk {B : Nat} {v : Value} {l : List Upd} {w : World} (h : Own B v l w) {g : Nat} (hg : v.ownBlock = some g) : B ≤ g ∧ ∃ cur, w.heap[g]? = some (.cells cur 34 (0, 0)) := by
  rcases h.2 with ⟨rfl, _⟩ | ⟨g', cap, cur, rfl, hb, hh, _⟩
  · cases hg
  · cases hg
    exact ⟨hb, cur, hh⟩
theorem own_ne {B : Nat} {v : Value} {l : List Upd} {w : World} (h : Own B v l w) {g : Nat} {cur : Array Value} {z : Nat × Nat} (hg : w.heap[g]? = some (.cells cur 68 z)) : some g ≠ v.ownBlock := by
  intro e
  obtain ⟨_, cur', hh⟩ := h.blk e.symm
  rw [hg] at hh
  cases hh
theorem But.drew {B : Nat} {S : List Nat} {a w : World} (h : But B S a w) : But B S a w.drew := ⟨h.os, h.tape, h.output, h.size, fun i hi hp => h.block i hi hp⟩
theorem over_take (L : List Dbt) (now : Int) {k : Nat} (h : L.length = k) : overD (L.take k) now = overD L now := by rw [← h, List.take_length]

set_option maxHeartbeats 4000000 in
set_option maxRecDepth 100000 in
theorem rover_any (B q : Nat) (K L : List Dbt) (hP : K.Perm L) (hL : Di L) (now : Int) (w : World) (hR : Rg B q K w) (hB : B ≤ w.heap.size) :
    Calls Try.prog 15 #[.pointer (some ⟨q, 0, none⟩), .int .u64 now] w fun e w' => (∃ v, e = .returned v ∧ Own w.heap.size v ((overD L now).map deadOf) w') ∧ (∃ K', K'.Perm (stayD L now) ∧ Rg B q K' w') ∧ But w.heap.size [q] w w' := by
  have ba := below_alloc w (.cells #[] 34)
  have hE := Own.empty (B := w.heap.size) (heap_alloc_new w (.cells #[] 34)) (Nat.le_refl _)
  have hR0 := hR.below ba
  have hqB := hR.lt_
  have hqz := hR.lt
  obtain ⟨w0, HW0⟩ : ∃ w0, Hid (w0 = w.alloc (.cells #[] 34)) := ⟨_, rfl⟩
  rw [← HW0.out] at ba hE hR0
  have hit := rall_any B q K L hP hL w0 hR0
  have hstep : ∀ k (hk : k < L.length), Hid ((overD (L.take (k + 1)) now).map deadOf = (overD (L.take k) now).map deadOf ++ (if L[k].u ≤ now then [deadOf L[k]] else [])) := fun k hk => over_step hk
  have hgone : ∀ k (hk : k < L.length), Hid ((L[k].u ≤ now → lessD (goneD L now k) L[k].n = goneD L now (k + 1)) ∧ (now < L[k].u → goneD L now (k + 1) = goneD L now k)) := fun k hk => ⟨fun h => gone_less hL hk (by simpa using h), fun h => gone_stay hk (by simpa using h)⟩
  have hgl : ∀ k, (goneD L now k).length ≤ 64 := fun k => Nat.le_trans (gone_sub L now k).length_le hL.length
  have hol : ∀ k, ((overD (L.take k) now).map deadOf).length ≤ 64 := fun k => by
    rw [List.length_map]
    have := over_length (L.take k) now
    have := hL.length
    rw [List.length_take] at *
    omega
  have HG0 : Hid (goneD L now 0 = L) := gone_zero L now
  obtain ⟨N, HN⟩ : ∃ N, Hid (L.length = N) := ⟨_, rfl⟩
  have HGN : Hid (goneD L now N = stayD L now) := by rw [← HN.out]; exact gone_all L now
  have HON : Hid (overD (L.take N) now = overD L now) := over_take L now HN.out
  have hNl : N ≤ 64 := by rw [← HN.out]; exact hL.length
  obtain ⟨U, HU⟩ : ∃ U, Hid ((overD L now).map deadOf = U) := ⟨_, rfl⟩
  obtain ⟨S, HS⟩ : ∃ S, Hid (stayD L now = S) := ⟨_, rfl⟩
  rw [HU.out, HS.out]
  have hzb := ba.size
  clear hR
  go_enter Try.func15, Try.ntmps15
  go_upto_region 2 with fail
  rw [← HW0.out]
  clear HW0
  go_wp2_with fail
  refine hit.mono ?_
  rintro e w1 ⟨⟨v, rfl, hOv⟩, hb1⟩
  have hR1 := hR0.below hb1
  have hO1 := hE.below hb1
  have hB1 : But w.heap.size [q] w w1 := But.of (ba.trans (hb1.mono hzb))
  have hz1 := hb1.size
  clear hit hR0 hE ba hb1
  obtain ⟨av, acap, rfl, hac, _⟩ := hOv.rb
  rw [HN.out] at hac
  rw [HN.out] at hOv ⊢
  have hac2 : (N : Int) ≤ acap := by omega
  go_wp2_with fail
  go_loopg [5, 7] N (fun gk t5 t7 wr => ∃ k : Nat, k + gk = N ∧ t7 = .int .i64 k ∧ Own w.heap.size t5 ((overD (L.take k) now).map deadOf) wr ∧ (∃ K', K'.Perm (goneD L now k) ∧ Rg B q K' wr) ∧ OwD 68 w0.heap.size (.slice av N acap) L wr ∧ But w.heap.size [q] w wr)
  case atStart => exact ⟨0, by omega, rfl, hO1, ⟨K, by rw [HG0.out]; exact hP, hR1⟩, hOv, hB1⟩
  case round =>
    clear hO1 hR1 hB1 hOv hP HG0
    obtain ⟨k, hk, rfl, hO, ⟨K', hP', hRk⟩, hOv, hBk⟩ := hrel
    have k0 : (0 : Int) ≤ k := by omega
    have hzk := hBk.size
    by_cases hlt : (k : Int) < N
    · have hkl : k < L.length := by rw [HN.out]; omega
      obtain ⟨g, off, cap', e, _, _, hg, h7⟩ := hOv.rb.at hkl
      have e' := (Value.slice.inj e)
      obtain ⟨rfl, -, rfl⟩ := e'
      clear e
      have HT := hstep k hkl
      have hgn := hgone k hkl
      have hul := hol k
      have hgk := hgl k
      clear hstep hgone hol hgl HGN HON
      have h0 := h7.c0
      have h1 := h7.c1
      have h6 := h7.c6
      generalize hXX : L[k] = x at *
      have HX : Hid _ := hXX
      clear hXX h7
      generalize (overD (L.take k) now).map deadOf = V at *
      obtain ⟨av5, acap5, rfl, _⟩ := hO.ru
      by_cases hu : x.u ≤ now
      · have hless := hgn.out.1 hu
        rw [if_pos hu] at HT
        clear hgn
        have bc := below_alloc wr (.cells #[.int .i64 x.n, .int .u64 x.i, .int .i64 3] 34)
        have hO4 := hO.below bc
        have hY := Ru.one (u := deadOf x) (Bx.new 34 x.n x.i 3 wr)
        have hR4 := hRk.below bc
        have hB4 : But w.heap.size [q] w (wr.alloc (.cells #[.int .i64 x.n, .int .u64 x.i, .int .i64 3] 34)) := hBk.trans (But.of (bc.mono hzk))
        have hOv4 := hOv.below bc
        obtain ⟨w4, HW4⟩ : ∃ w4, Hid (w4 = (wr.alloc (.cells #[.int .i64 x.n, .int .u64 x.i, .int .i64 3] 34)).drew) := ⟨_, rfl⟩
        have hO4 : Own w.heap.size (.slice av5 V.length acap5) V w4 := by rw [HW4.out]; exact hO4.keep fun _ _ _ => rfl
        have hY : Ru (.slice (some ⟨wr.heap.size, 0, none⟩) 1 1) [deadOf x] w4 := by rw [HW4.out]; exact hY.keep fun _ _ _ => rfl
        have hR4 : Rg B q K' w4 := by rw [HW4.out]; exact hR4.keep rfl fun _ _ _ _ => rfl
        have hOv4 : OwD 68 w0.heap.size (.slice (some ⟨g, off, none⟩) N acap) L w4 := by rw [HW4.out]; exact hOv4.keep fun _ _ _ => rfl
        have hB4 : But w.heap.size [q] w w4 := by rw [HW4.out]; exact hB4.drew
        have hz4 : w.heap.size ≤ w4.heap.size := hB4.size
        clear bc hRk hBk hO hOv
        go_upto_region 7 with fail
        go_region_law (
          rw [← HW4.out]
          refine step_app _ (by rfl) (.tmp 24) (.tmp 38) (by rfl) w.heap.size _ V (by rfl) hO4 hz4 wr.heap.size 0 1 [deadOf x] 1 rfl (by rfl) hY (by simp; omega) ?_
          intro v5 w5 hO5 h3 h4
          obtain ⟨a5, c5, rfl, _⟩ := hO5.ru)
        all_goals
          have hOv5 : OwD 68 w0.heap.size (.slice (some ⟨g, off, none⟩) N acap) L w5 := hOv4.keep fun r hr hlt => h3.block r hlt (by obtain ⟨_, cur, hc⟩ := hOv4.blk hr; exact own_ne hO4 hc)
          have hR5 : Rg B q K' w5 := hR4.keep (h3.block q hR4.lt (fun e => by have := (hO4.lt q e.symm).1; omega)) (fun r cur _ hc => h3.block r (Array.getElem?_eq_some_iff.1 hc).1 (own_ne hO4 hc))
          have hB5 : But w.heap.size [q] w w5 := hB4.trans (But.of ⟨h3.os, h3.tape, h3.output, h3.size, fun r hr => h3.block r (by omega) (fun e => by have := (hO4.lt r e.symm).1; omega)⟩)
          have hz5 := h3.size
          obtain ⟨g', off', cap', e, _, _, hg', h7⟩ := hOv5.rb.at hkl
          have e' := (Value.slice.inj e)
          have e1 := e'.1
          clear e'
          cases e1
          clear e
          rw [HX.out] at h7
          have j0 := h7.c0
          clear h7 h3 h4 hY hO4 hOv4 hR4 hB4 h0 h1 h6
          have hdr := rdrop_any B q K' (by rw [hP'.length_eq]; omega) x.n w5 hR5
          go_wp2_with fail
          refine hdr.mono ?_
          rintro e w6 ⟨rfl, hR6, hb6⟩
          have hO6 := hO5.butS hb6 (Nat.le_refl _) (by omega)
          have hOv6 := hOv5.butS hb6 (Nat.le_refl _) (by omega)
          have hB6 := hB5.trans (hb6.mono (by omega))
          have hP6 : (lessD K' x.n).Perm (goneD L now (k + 1)) := by rw [← hless]; exact lessD_perm hP' x.n
          clear hdr
          go_wp2_with fail
          go_roundg (gk - 1)
          case rel => exact ⟨k + 1, by omega, by go_num, by rw [HT.out]; simpa using hO6, ⟨_, hP6, hR6.mono (by omega) hqB⟩, hOv6, hB6⟩
          case measure => omega
      · have hst := hgn.out.2 (by omega)
        rw [if_neg hu, List.append_nil] at HT
        clear hgn
        go_wp2_with fail
        go_roundg (gk - 1)
        case rel => exact ⟨k + 1, by omega, by go_num, by rw [HT.out]; exact hO, ⟨K', by rw [hst]; exact hP', hRk⟩, hOv, hBk⟩
        case measure => omega
    · obtain rfl : k = N := by omega
      rw [HON.out, HU.out] at hO
      rw [HGN.out, HS.out] at hP'
      obtain ⟨av5, acap5, rfl, _⟩ := hO.ru
      go_wp2_with fail
      go_ret
      exact ⟨⟨_, rfl, hO⟩, ⟨K', hP', hRk⟩, hBk⟩
end Go.Proofs.Ytahiiieifdhgeaa
