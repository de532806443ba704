/-
  RumorTurns.
-/
import Derived.Test.YtagdacfgpgcbcaaByt
namespace Go.Proofs.Ytagdacfgpgcbcaa
open Go.RowKit Go.Maps

theorem Qi.next {L : List Itm} (h : Qi L) {i : Nat} (hi : i + 1 < L.length) : decide ((L[i + 1]).2.2.2 < (L[i]).2.2.2) = false ∧ ((L[i + 1]).2.2.2 = (L[i]).2.2.2 → (L[i]).1 < (L[i + 1]).1) := by
  have := List.pairwise_iff_getElem.1 h.sorted i (i + 1) (by omega) hi (by omega)
  simp [ltI] at this
  constructor
  · simp; omega
  · intro e; omega
theorem Ri.at_ {a : Option Addr} {len cap : Nat} {l : List Itm} {w : World} (h : Ri (.slice a len cap) l w) {j : Nat} (hj : j < l.length) : ∃ g off, a = some ⟨g, off, none⟩ ∧ w.cell? ⟨g, off + j * 4, none⟩ = some (.int .i64 l[j].1) ∧ w.cell? ⟨g, off + j * 4 + 1, none⟩ = some (.int .u64 l[j].2.1) ∧ w.cell? ⟨g, off + j * 4 + 2, none⟩ = some (.int .i64 l[j].2.2.1) ∧ w.cell? ⟨g, off + j * 4 + 3, none⟩ = some (.int .i64 l[j].2.2.2) := by
  obtain ⟨_, _, e, _, _, h3⟩ := h
  cases e
  rcases h3 with h3 | ⟨g, off, rfl, h3⟩
  · omega
  · exact ⟨g, off, rfl, h3 j hj⟩
theorem Ri.len {v : Value} {l : List Itm} {w : World} (h : Ri v l w) : ∃ a cap, v = .slice a l.length cap := by
  obtain ⟨a, cap, e, _⟩ := h
  exact ⟨a, cap, e⟩

theorem Ru.at_ {a : Option Addr} {len cap : Nat} {l : List Upd} {w : World} (h : Ru (.slice a len cap) l w) {j : Nat} (hj : j < l.length) : ∃ g off, a = some ⟨g, off, none⟩ ∧ w.cell? ⟨g, off + j * 3, none⟩ = some (.int .i64 l[j].n) ∧ w.cell? ⟨g, off + j * 3 + 1, none⟩ = some (.int .u64 l[j].i) ∧ w.cell? ⟨g, off + j * 3 + 2, none⟩ = some (.int .i64 l[j].s) := by
  obtain ⟨_, _, e, _, _, h3⟩ := h
  cases e
  rcases h3 with h3 | ⟨g, off, rfl, h3⟩
  · omega
  · exact ⟨g, off, rfl, h3 j hj⟩

set_option maxHeartbeats 4000000 in
set_option maxRecDepth 100000 in
theorem turns_core (a : Option Addr) (cap : Nat) (l : List Int) (takes : Int) (h0 : 0 ≤ takes) (h1 : takes ≤ 255) (w : World) (hR : Rb (.slice a l.length cap) l w) (hl : ∀ x ∈ l, 0 ≤ x ∧ x ≤ 255) :
    Calls Try.prog 7 #[.slice a l.length cap, .int .u8 takes] w fun e w' => e = .returned (.bool true) ∧ Below w.heap.size w w' := by
  obtain ⟨N, HN⟩ : ∃ N, Hid (l.length = N) := ⟨_, rfl⟩
  rw [HN.out]
  by_cases hlen : 30 < N
  · have hl2 : (30 : Int) < N := by omega
    go_enter Try.func7, Try.ntmps7
    go_wp2_with (go_at_call 9; refine (shown_any _).mono ?_; rintro e w1 ⟨rfl, hb⟩)
    go_ret
    exact ⟨rfl, hb⟩
  · have hl2 : (N : Int) ≤ 30 := by omega
    have hl3 : ¬ (30 : Int) < N := by omega
    clear hlen
    go_enter Try.func7, Try.ntmps7
    go_wp2_with fail
    refine (shown_any _).mono ?_
    rintro e w1 ⟨rfl, hb1⟩
    have hQ := Qu.new w1
    have ba := below_alloc w1 (.cells #[.map none] 27)
    obtain ⟨w2, HW2⟩ : ∃ w2, Hid (w2 = w1.alloc (.cells #[.map none] 27)) := ⟨_, rfl⟩
    rw [← HW2.out] at hQ ba
    go_upto_region 4 with fail
    rw [← HW2.out]
    have hB2 : Below w.heap.size w w2 := hb1.trans (ba.mono hb1.size)
    have hpz : w.heap.size ≤ w1.heap.size := hb1.size
    generalize w1.heap.size = p at *
    clear hb1 ba HW2
    go_wp2_with fail
    go_loopg [6] N (fun gk t6 wr => ∃ (i : Nat) (m : Option Nat) (L : List Itm), i + gk = N ∧ t6 = .int .i64 i ∧ L.length ≤ 32 ∧ Qu p m L wr ∧ Mv p none m w2 wr)
    case atStart => exact ⟨0, none, [], by omega, rfl, by simp, hQ, Mv.refl _ _ _⟩
    case round =>
      obtain ⟨i, m, L, hi, rfl, hL, hQi, hmv⟩ := hrel
      by_cases hlt : (i : Int) < N
      · have hil : i < l.length := by rw [HN.out]; omega
        obtain ⟨g, off, rfl, hg, c0⟩ := hR.at_ hil
        have hx := hl _ (List.getElem_mem hil)
        have c0 := (World.cell?_of_block (w := w) ((hmv.block g (by have := hB2.size; omega) (by omega) (by simp)).trans (hB2.block g hg))).trans c0
        generalize l[i] = x at *
        have hxm : 0 ≤ x % 64 ∧ x % 64 < 64 := by omega
        obtain ⟨x0, x1⟩ := hx
        have i0 : (0 : Int) ≤ i := by omega
        have hput := put_any p m L hL (x % 64) 1 0 (by decide) wr hQi
        have hpl := putQ_length hL (x % 64, 1, 0)
        generalize putE L (x % 64, 1, 0) = E at *
        generalize putQ L (x % 64, 1, 0) = M at *
        go_wp2_with fail
        refine hput.mono ?_
        rintro e w3 ⟨rfl, m3, hQ3, hmv3⟩
        have hmv4 := hmv.trans hmv3
        clear hput hQi hmv hmv3 c0
        cases h3 : ((i : Int) % 3 == 0)
        case false =>
          go_wp2_with fail
          go_roundg (gk - 1)
          case rel => exact ⟨i + 1, m3, M, by omega, by go_num, hpl, hQ3, hmv4⟩
          case measure => omega
        case true =>
          have htk := take_any p m3 M hpl (takes % 4) 64 (by decide) w3 hQ3
          have htl := takeQ_length hQ3.qi (takes % 4) (c := capS 64) (by decide)
          generalize takeQ M (takes % 4) (capS 64) = T at *
          go_wp2_with fail
          refine htk.mono ?_
          rintro e w5 ⟨⟨v, rfl, _⟩, hQ5, hmv5⟩
          have hmv6 := hmv4.trans hmv5
          clear htk hQ3 hmv4 hmv5
          go_wp2_with fail
          go_roundg (gk - 1)
          case rel => exact ⟨i + 1, m3, T, by omega, by go_num, by omega, hQ5, hmv6⟩
          case measure => omega
      · have hit := items_any p m L (by omega) wr hQi
        obtain ⟨K, HK⟩ : ∃ K, Hid (L.length = K) := ⟨_, rfl⟩
        go_wp2_with fail
        refine hit.mono ?_
        rintro e w3 ⟨⟨v, rfl, hRi, hv⟩, hb3⟩
        have hQ3 := hQi.below hb3
        have hmv3 := hmv.be hb3
        have hpr := hQi.lt
        have hmr := hQi.mlt
        clear hit hmv hQi hQ
        obtain ⟨av, acap, rfl⟩ := hRi.len
        rw [HK.out]
        have hKl : (K : Int) ≤ 32 := by have := HK.out; omega
        go_wp2_with fail
        go_loopg [8] K (fun gk t8 ws => ∃ i : Nat, i + gk = K ∧ t8 = .int .i64 ((i : Int) + 1) ∧ Below w3.heap.size w3 ws)
        case atStart => exact ⟨0, by omega, rfl, Below.refl _ _⟩
        case round =>
          obtain ⟨j, hj, rfl, hbs⟩ := hrel
          by_cases hjl : (j : Int) + 1 < K
          · have hRs := hRi.below hbs
            have hjn : j + 1 < L.length := by rw [HK.out]; omega
            obtain ⟨g, off, rfl, x0, x1, x2, x3⟩ := hRs.at_ (show j < L.length by omega)
            obtain ⟨g', off', e', y0, y1, y2, y3⟩ := hRs.at_ hjn
            cases e'
            obtain ⟨n1, n2⟩ := hQ3.qi.next hjn
            generalize L[j] = x at *
            generalize L[j + 1] = y at *
            have j0 : (0 : Int) ≤ j := by omega
            have j1 : (j : Int) < K := by omega
            have j2 : (0 : Int) ≤ (j : Int) + 1 := by omega
            obtain ⟨xa, xb, xc, xd⟩ := x
            obtain ⟨ya, yb, yc, yd⟩ := y
            simp only at x0 x1 x2 x3 y0 y1 y2 y3 n1 n2
            clear x1 x2 y1 y2 hRs
            cases he : (yd == xd)
            case false =>
              clear n2
              go_wp2_with fail
              go_quiet (fail)
              go_wp2_with fail
              go_roundg (gk - 1)
              case rel => exact ⟨j + 1, by omega, by go_num, hbs.trans (below_drewN _ _ _)⟩
              case measure => omega
            case true =>
              have n3 : decide (ya ≤ xa) = false := by have := n2 (by simpa using he); simp; omega
              clear n2
              go_wp2_with fail
              go_quiet (fail)
              go_wp2_with fail
              go_roundg (gk - 1)
              case rel => exact ⟨j + 1, by omega, by go_num, hbs.trans (below_drewN _ _ _)⟩
              case measure => omega
          · have hQs := hQ3.below hbs
            have hRs := hRi.below hbs
            have hmvs := hmv3.be hbs
            have htk := take_any p m L hL (takes % 9) 64 (by decide) _ hQs
            obtain ⟨J, hJ, hJ1⟩ : ∃ J : Nat, min (takes % 9) (K : Int) = J ∧ J ≤ K := ⟨(min (takes % 9) (K : Int)).toNat, by omega, by omega⟩
            have HTL : Hid (((L.take (takes % 9).toNat).map updOf).length = J) := by
              rw [List.length_map, List.length_take, HK.out]
              show _ = _
              omega
            have HTG : Hid (∀ j (hj : j < ((L.take (takes % 9).toNat).map updOf).length) (hj' : j < L.length), ((L.take (takes % 9).toNat).map updOf)[j] = updOf L[j]) := fun j hj hj' => by
              rw [List.getElem_map, List.getElem_take]
            generalize (L.take (takes % 9).toNat).map updOf = U at *
            have hks := hbs.size
            clear hQ3 hmv3 hbs hRi
            go_wp2_with fail
            refine htk.mono ?_
            rintro e w6 ⟨⟨v, rfl, hO⟩, hQ6, hmv6⟩
            have hR6 : Ri (.slice av L.length acap) L w6 := hRs.keep fun q hq hlt => hmv6.block q hlt (fun e => by have := hv q hq; omega) (fun e => by have := hmr q e.symm; have := hv q hq; omega)
            have hB6 : Below w.heap.size w w6 := hB2.trans ((hmvs.trans hmv6).to hB2.size hpz (fun b hb => by cases hb))
            have hU6 := hO.ru
            clear hRs hmvs htk hQs hmv6 hO hQ6
            obtain ⟨au, ucap, rfl, u1, u2, u3⟩ := hU6
            rw [HTL.out]
            rw [HTL.out] at u1
            have hJ2 : (J : Int) ≤ K := by omega
            go_wp2_with fail
            go_loopg [11] J (fun gk t11 wt => ∃ i : Nat, i + gk = J ∧ t11 = .int .i64 i ∧ Below w6.heap.size w6 wt)
            case atStart => exact ⟨0, by omega, rfl, Below.refl _ _⟩
            case round =>
              obtain ⟨z, hz, rfl, hbt⟩ := hrel
              by_cases hzl : (z : Int) < J
              · have hzu : z < U.length := by rw [HTL.out]; omega
                have hzk : z < L.length := by rw [HK.out]; omega
                obtain ⟨g, off, rfl, y0, y1, y2, _⟩ := (hR6.below hbt).at_ hzk
                have hUt : Ru (.slice au J ucap) U w6 := by rw [← HTL.out]; exact ⟨au, ucap, rfl, by rw [HTL.out]; exact u1, u2, u3⟩
                obtain ⟨g2, off2, rfl, z0, z1, z2⟩ := (hUt.below hbt).at_ hzu
                rw [HTG.out z hzu hzk] at z0 z1 z2
                clear hUt
                have hqq := fun w => run_neqU (updOf L[z]) (updOf L[z]) w
                rw [show eqU (updOf L[z]) (updOf L[z]) = true from by simp [eqU], Bool.not_true] at hqq
                unfold updOf at z0 z1 z2 hqq
                simp only at z0 z1 z2 hqq
                generalize L[z] = x at *
                have k0 : (0 : Int) ≤ z := by omega
                have k1 : (z : Int) < K := by omega
                obtain ⟨xa, xb, xc, xd⟩ := x
                simp only at y0 y1 y2 z0 z1 z2 hqq
                clear u3 HTG
                go_wp2_with fail
                go_quiet (fail)
                go_wp2_with fail
                go_roundg (gk - 1)
                case rel => exact ⟨z + 1, by omega, by go_num, hbt.trans (below_drewN _ _ _)⟩
                case measure => omega
              · go_wp2_with fail
                go_ret
                exact ⟨rfl, hB6.trans (hbt.mono hB6.size)⟩

theorem turns_walk (a : Option Addr) (len cap : Nat) (l : List Int) (takes : Int) (h : (Lit.int .u8 takes).wf = true) (w : World) (hI : IsBytes w a len cap l) :
    Calls Try.prog 7 #[.slice a len cap, .int .u8 takes] w fun e w' => e = .returned (.bool true) ∧ Below w.heap.size w w' := by
  obtain ⟨rfl, h1, h2⟩ := hI
  exact turns_core a cap l takes (u8_of h).1 (u8_of h).2 w h1 h2
end Go.Proofs.Ytagdacfgpgcbcaa
