/-
  The reference's Take.
-/
import Derived.Test.YtagdacfgpgcbcaaRfp
namespace Go.Proofs.Ytagdacfgpgcbcaa
open Go.RowKit Go.Maps

theorem Ri.but {B r : Nat} {v : Value} {l : List Itm} {w w' : World} (h : Ri v l w) (k : But B r w w') (hB : w.heap.size ≤ B) (hr : ∀ g, v.ownBlock = some g → g ≠ r) : Ri v l w' := h.keep fun g hg hlt => k.block g (by omega) (hr g hg)
theorem Own.but {B C r : Nat} {v : Value} {l : List Upd} {w w' : World} (h : Own C v l w) (k : But B r w w') (hB : w.heap.size ≤ B) (hr : r < C) : Own C v l w' := h.keep fun g hg hlt => k.block g (by omega) (by have := (h.lt g hg).1; omega)

theorem own_ne {B C : Nat} {u v : Value} {l : List Upd} {l' : List Itm} {w : World} (h : Own B u l w) (h' : OwI 63 C v l' w) {g : Nat} (hg : v.ownBlock = some g) : u.ownBlock ≠ some g := by
  intro e
  rcases h.2 with ⟨rfl, _⟩ | ⟨g1, cap, cur, rfl, _, h1, _⟩
  · cases e
  · cases e
    rcases h'.2 with ⟨rfl, _⟩ | ⟨g2, cap2, cur2, rfl, _, h2, _⟩
    · cases hg
    · cases hg
      rw [h1] at h2
      cases h2
theorem own_ne_row {B : Nat} {u : Value} {l : List Upd} {w : World} (h : Own B u l w) {g : Nat} {cur : Array Value} (hg : w.heap[g]? = some (.cells cur 63 (0, 0))) : u.ownBlock ≠ some g := by
  intro e
  rcases h.2 with ⟨rfl, _⟩ | ⟨g1, cap, cur, rfl, _, h1, _⟩
  · cases e
  · cases e
    rw [h1] at hg
    cases hg
theorem OwI.but {B C r : Nat} {T : TypeId} {v : Value} {l : List Itm} {w w' : World} (h : OwI T C v l w) (k : But B r w w') (hB : w.heap.size ≤ B) (hr : r < C) : OwI T C v l w' := h.keep fun g hg hlt => k.block g (by omega) (by have := (h.lt g hg).1; omega)
theorem Rq.but_ {B C r : Nat} {L : List Itm} {w w' : World} (h : Rq B r L w) (k : But C r w w') (hC : w.heap.size ≤ C) (e : w'.heap[r]? = w.heap[r]?) : Rq B r L w' := h.keep e fun g _ hg hc => k.block g (Nat.lt_of_lt_of_le (Array.getElem?_eq_some_iff.1 hc).1 hC) (by have := h.lt_; omega)

set_option maxHeartbeats 4000000 in
set_option maxRecDepth 100000 in
theorem ftake_any (B r : Nat) (L : List Itm) (hL : L.length ≤ 32) (hq : Qi L) (n nodes : Int) (hn : -9223372036854775808 ≤ nodes ∧ nodes ≤ 9223372036854775807) (w : World) (hR : Rq B r L w) (hB : B ≤ w.heap.size) :
    Calls Try.prog 14 #[.pointer (some ⟨r, 0, none⟩), .int .i64 n, .int .i64 nodes] w fun e w' => (∃ v, e = .returned v ∧ Own w.heap.size v ((L.take n.toNat).map updOf) w') ∧ Rq B r (takeQ L n (capS nodes)) w' ∧ But w.heap.size r w w' := by
  have hcap := fun w => refCap_any nodes w hn
  obtain ⟨hc0, hc1⟩ := cap_range nodes hn.2
  have ba := below_alloc w (.cells #[] 34)
  have hE := Own.empty (B := w.heap.size) (heap_alloc_new w (.cells #[] 34)) (Nat.le_refl _)
  have hr0 := hR.lt_
  have hR0 := hR.below ba
  obtain ⟨w0, HW0⟩ : ∃ w0, Hid (w0 = w.alloc (.cells #[] 34)) := ⟨_, rfl⟩
  rw [← HW0.out] at ba hE hR0
  have hit := ritems_any B r L (by omega) w0 hR0
  unfold takeQ
  generalize capS nodes = c at *
  have hfold : ∀ k, Qi ((L.take k).foldl (tellQ c) L) ∧ ((L.take k).foldl (tellQ c) L).length ≤ 32 := fun k =>
    ⟨Qi.tells hc1 _ hq (fun x hx => hq.ok x (List.mem_of_mem_take hx)), Nat.le_trans (tells_length hc1 _ hq (fun x hx => List.mem_of_mem_take hx) hq.nodes.take) hL⟩
  have hstep : ∀ k (hk : k < L.length), Hid ((L.take (k + 1)).foldl (tellQ c) L = tellQ c ((L.take k).foldl (tellQ c) L) L[k]) := fun k hk => by
    rw [← List.take_append_getElem hk, List.foldl_append]
    exact rfl
  have hmap : ∀ k (hk : k < L.length), Hid ((L.take (k + 1)).map updOf = (L.take k).map updOf ++ [updOf L[k]]) := fun k hk => by
    rw [← List.take_append_getElem hk, List.map_append]
    exact rfl
  obtain ⟨N, HN⟩ : ∃ N, Hid (L.length = N) := ⟨_, rfl⟩
  have hNl : N ≤ 32 := by rw [← HN.out]; exact hL
  obtain ⟨U, HU⟩ : ∃ U, Hid ((L.take n.toNat).map updOf = U) := ⟨_, rfl⟩
  obtain ⟨T, HT⟩ : ∃ T, Hid ((L.take n.toNat).foldl (tellQ c) L = T) := ⟨_, rfl⟩
  rw [HU.out, HT.out]
  have hzb := ba.size
  clear hR
  go_enter Try.func14, Try.ntmps14
  go_upto_region 2 with fail
  rw [← HW0.out]
  clear HW0
  go_wp2_with fail
  refine hit.mono ?_
  rintro e w1 ⟨⟨v, rfl, hOv⟩, hb1⟩
  have hR1 := hR0.below hb1
  have hO1 := hE.below hb1
  have hB1 : But w.heap.size r w w1 := But.of (ba.trans (hb1.mono hzb))
  have hvl := hOv.lt
  have hRv := hOv.ri
  have hz1 := hb1.size
  clear hit hR0 hE ba hb1
  obtain ⟨av, acap, rfl⟩ := hRv.len
  have hac : L.length ≤ acap := by obtain ⟨_, _, e, h1, _⟩ := hRv; cases e; exact h1
  rw [HN.out] at hac
  rw [HN.out]
  have hac2 : (N : Int) ≤ acap := by omega
  go_wp2_with fail
  go_loopg [7, 9] N (fun gk t7 t9 wr => ∃ k : Nat, k + gk = N ∧ (k : Int) ≤ max n 0 ∧ t9 = .int .i64 k ∧ Own w.heap.size t7 ((L.take k).map updOf) wr ∧ Rq B r ((L.take k).foldl (tellQ c) L) wr ∧ But w.heap.size r w wr ∧ OwI 63 w0.heap.size (.slice av L.length acap) L wr ∧ w1.heap.size ≤ wr.heap.size)
  case atStart => exact ⟨0, by omega, by omega, rfl, hO1, hR1, hB1, hOv, Nat.le_refl _⟩
  case round =>
    clear hO1 hR1 hB1 hRv hOv
    obtain ⟨k, hk, hkn, rfl, hO, hRk, hBk, hOv, hzk⟩ := hrel
    have hRv := hOv.ri
    have k0 : (0 : Int) ≤ k := by omega
    by_cases hlt : (k : Int) < n ∧ k < N
    · obtain ⟨hlt1, hlt2⟩ := hlt
      have hlt3 : (k : Int) < N := by omega
      have hkl : k < L.length := by rw [HN.out]; exact hlt2
      obtain ⟨g, off, rfl, d0, d1, d2, d3⟩ := hRv.at_ hkl
      have hg : g < wr.heap.size := World.block_lt_of_cell? _ _ d0
      have hgr : g ≠ r := by have := (hvl g rfl).1; omega
      have hxk := hq.ok _ (List.getElem_mem hkl)
      have HS := hstep k hkl
      have HM := hmap k hkl
      obtain ⟨hqk, hlk⟩ := hfold k
      have hul : ((L.take k).map updOf).length ≤ 32 := by rw [List.length_map, List.length_take]; omega
      clear hstep hmap hfold
      obtain ⟨x, HX⟩ : ∃ x : Itm, Hid (L[k] = x) := ⟨L[k], (rfl : L[k] = L[k])⟩
      rw [HX.out] at d0 d1 d2 d3 hxk HS HM
      generalize (L.take k).foldl (tellQ c) L = M at *
      generalize (L.take k).map updOf = V at *
      obtain ⟨x1, x2, x3, x4⟩ := x
      simp only at d0 d1 d2 d3
      have t0 := hxk.t0
      have t1 := hxk.t1
      simp only at t0 t1
      have bc := below_alloc wr (.cells #[.int .i64 x1, .int .u64 x2, .int .i64 x3] 34)
      have hO4 := hO.below bc
      have hY := Ru.one (u := ⟨x1, x2, x3⟩) (Bx.new 34 x1 x2 x3 wr)
      have hz4 : w.heap.size ≤ (wr.alloc (.cells #[.int .i64 x1, .int .u64 x2, .int .i64 x3] 34)).heap.size := Nat.le_trans hBk.size bc.size
      have hR4 := hRk.below bc
      have hB4 : But w.heap.size r w (wr.alloc (.cells #[.int .i64 x1, .int .u64 x2, .int .i64 x3] 34)) := hBk.trans (But.of (bc.mono hBk.size))
      have hOv4 := hOv.below bc
      have hzbc := bc.size
      clear bc hRk hBk hRv hO hOv
      go_upto_region 7 with (at_builtin; refine wpList_app _ rfl (.tmp 24) (.tmp 30) rfl w.heap.size _ V rfl hO4 hz4 wr.heap.size 0 1 [⟨x1, x2, x3⟩] 1 rfl rfl hY (by simp; omega) ?_; intro v' w5 h1 h3 h4)
      have hOv5 : OwI 63 w0.heap.size (.slice (some ⟨g, off, none⟩) L.length acap) L w5 := hOv4.keep fun q hq hlt => h3.block q hlt (Ne.symm (own_ne hO4 hOv4 hq))
      have hR5 : Rq B r M w5 := hR4.keep (h3.block r hR4.lt (fun e => by have := (hO4.lt r e.symm).1; omega)) (fun q cur _ hc => h3.block q (Array.getElem?_eq_some_iff.1 hc).1 (Ne.symm (own_ne_row hO4 hc)))
      have hB5 : But w.heap.size r w w5 := hB4.trans (But.of ⟨h3.os, h3.tape, h3.output, h3.size, fun q hq => h3.block q (by omega) (fun e => by have := (hO4.lt q e.symm).1; omega)⟩)
      have hz5 := h3.size
      obtain ⟨g', off', e', d0, d1, d2, d3⟩ := hOv5.ri.at_ hkl
      cases e'
      rw [HX.out] at d0 d1 d2 d3
      simp only at d0 d1 d2 d3
      clear h3 h4 hY hO4 hOv4 hR4 hB4
      have hls := less_any B r M (by omega) x1 w5 hR5 (by omega)
      go_upto_region 8 with (go_at_call 26; refine hls.mono ?_; rintro e w6 ⟨rfl, hR6, hb6⟩)
      have hO6 := h1.but hb6 (Nat.le_refl _) (by omega)
      have hOv6 := hOv5.but hb6 (Nat.le_refl _) (by omega)
      have hB6 := hB5.trans (hb6.mono (by omega))
      have hz6 := hb6.size
      obtain ⟨g', off', e', d0, d1, d2, d3⟩ := hOv6.ri.at_ hkl
      cases e'
      rw [HX.out] at d0 d1 d2 d3
      simp only at d0 d1 d2 d3
      clear hls hb6 h1 hOv5 hB5 hR5
      have hne : Nonempty (Kept (Kb w6)) := ⟨⟨_, Kb.start w6⟩⟩
      have q0 := Kb.cell d0
      have q3 := Kb.cell d3
      go_wp2_with fail
      refine wp_region_kept (Kb w6) (by kernel_rfl) (by kernel_rfl) (Kb.start w6) ?_
      repeat (go_big_quiet_step (first | (refine (hcap _).mono ?_; rintro e w4 ⟨rfl, rfl⟩; exact ⟨rfl, _, rfl⟩)))
      refine wpQuiet_nil ?_
      intro w7 h7
      have hO7 := hO6.below h7
      have hOv7 := hOv6.below h7
      have hR7 := hR6.below h7
      have h7' : Below w.heap.size w6 w7 := Below.mono h7 (by omega)
      have hB7 := hB6.trans (But.of (r := r) h7')
      have hz7 := Below.size h7
      obtain ⟨g', off', e', d0, d1, d2, d3⟩ := hOv7.ri.at_ hkl
      cases e'
      rw [HX.out] at d0 d1 d2 d3
      simp only at d0 d1 d2 d3
      clear q0 q3 hne hO6 hOv6 hR6 hB6 h7
      by_cases hct : x4 + 1 < c
      · have HT : Hid (tellQ c M (x1, x2, x3, x4) = insQ (x1, x2, x3, x4 + 1) (lessQ M x1)) := by unfold tellQ; rw [if_pos (by simp; omega)]; exact rfl
        have hll := lessQ_length_le M x1
        have hrp := rput_any B r (lessQ M x1) (by omega) (x1, x2, x3, x4 + 1) w7.drew (hR7.keep rfl (fun _ _ _ _ => rfl)) (by show B ≤ w7.heap.size; omega)
        unfold itmV at hrp
        simp only at hrp
        have hwx : IntKind.i64.wrap (x4 + 1) = x4 + 1 := by simp [IntKind.wrap, IntKind.bits, IntKind.signed]; omega
        go_wp2_with fail
        go_region_with (go_at_call 27; refine hrp.mono ?_; rintro e w8 ⟨rfl, hR8, hb8⟩)
        all_goals
          have hb8' : But w7.heap.size r w7 w8 := ⟨hb8.os, hb8.tape, hb8.output, hb8.size, hb8.block⟩
          have hO8 := hO7.but hb8' (Nat.le_refl _) (by omega)
          have hOv8 := hOv7.but hb8' (Nat.le_refl _) (by omega)
          have hB8 := hB7.trans (hb8'.mono (by omega))
          have hz8 := hb8'.size
          clear hrp hb8 hO7 hOv7 hR7 hB7
          try go_wp2_with fail
          go_roundg (gk - 1)
          case rel => exact ⟨k + 1, by omega, by omega, by go_num, by rw [HM.out]; exact hO8, by rw [HS.out, HT.out]; exact hR8, hB8, hOv8, by omega⟩
          case measure => omega
      · have HT : Hid (tellQ c M (x1, x2, x3, x4) = lessQ M x1) := by unfold tellQ; rw [if_neg (by simp; omega)]; exact rfl
        go_wp2_with fail
        go_roundg (gk - 1)
        case rel => exact ⟨k + 1, by omega, by omega, by go_num, by rw [HM.out]; exact hO7, by rw [HS.out, HT.out]; exact hR7, hB7, hOv7, by omega⟩
        case measure => omega
    · have HK : Hid (L.take k = L.take n.toNat) := by
        show _ = _
        by_cases h : (k : Int) < n
        · rw [List.take_of_length_le (by rw [HN.out]; omega), List.take_of_length_le (by rw [HN.out]; omega)]
        · rw [show k = n.toNat by omega]
      rw [HK.out] at hO hRk
      rw [HU.out] at hO
      rw [HT.out] at hRk
      by_cases h : (k : Int) < n
      · have h2 : ¬ (k : Int) < N := by omega
        clear hlt
        go_wp2_with fail
        go_ret
        exact ⟨⟨_, rfl, hO⟩, hRk, hBk⟩
      · clear hlt
        go_wp2_with fail
        go_ret
        exact ⟨⟨_, rfl, hO⟩, hRk, hBk⟩
end Go.Proofs.Ytagdacfgpgcbcaa
