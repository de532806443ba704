/-
  MendGives, walked.
-/
import Derived.Test.YtlbeincgknmijaaGva
import Derived.Test.YtlbeincgknmijaaGvr
import Derived.Test.YtlbeincgknmijaaFil
import Derived.Test.YtlbeincgknmijaaLwl
import Derived.Test.YtlbeincgknmijaaKpt
import Derived.Deep.RegionHeld3
namespace Go.Proofs.Ytlbeincgknmijaa
open Go.RowKit

theorem keptB {w0 w' : World} {x : Kept (fun w => Below w0.heap.size w0 w)} (b : Below x.at_.heap.size x.at_ w') : ∃ y : Kept (fun w => Below w0.heap.size w0 w), w' = y.at_ := ⟨⟨w', x.is.trans (b.mono x.is.size)⟩, rfl⟩
theorem cellB {w w' : World} {a : Addr} {v : Value} (h : w.cell? a = some v) (hb : Below w.heap.size w w') : w'.cell? a = some v := by
  have hs := World.cell?_spot h
  obtain ⟨b, o, s⟩ := a
  cases hs
  exact (World.cell?_of_block (w := w) (hb.block b (World.block_lt_of_cell? _ _ h))).trans h
/-- What is given, piece by piece. -/
theorem giveS_at {low : Int} {R : Rng} (hI : RI low R) (l0 : 0 ≤ low) (l1 : low ≤ 1000000) (l : List Sn) (most : Int) {i : Nat} (h : i < (giveS low R l most).length) :
    hasM l (giveS low R l most)[i].n = true ∧ getE low (hasR low R (giveS low R l most)[i].n) (giveS low R l most)[i].n = 0 ∧ getM low R (giveS low R l most)[i].n = (giveS low R l most)[i].g ∧ low < (giveS low R l most)[i].n ∧ (giveS low R l most)[i].n ≤ low + 64 ∧
      ∀ j, j < i → ∀ hj : j < (giveS low R l most).length, (giveS low R l most)[j].n < (giveS low R l most)[i].n := by
  have hs : ((numS (wantS low R l)).take most.toNat).Pairwise (· < ·) := (numS_sorted (wantS_up l0 l1 l)).sublist (List.take_sublist _ _)
  have hm : ∀ x ∈ (numS (wantS low R l)).take most.toNat, hasM l x = true ∧ hasR low R x = true := fun x hx => by
    have := mem_numS.1 (List.mem_of_mem_take hx)
    rw [wantS_has hI l0 l1, Bool.and_eq_true] at this
    exact this
  unfold giveS at h ⊢
  rw [List.length_map] at h
  generalize (numS (wantS low R l)).take most.toNat = P at *
  simp only [List.getElem_map, List.length_map]
  obtain ⟨h1, h2⟩ := hm _ (List.getElem_mem h)
  obtain ⟨g1, g2⟩ := get_has hI l0 h2
  have h3 := hI.has l0 h2
  exact ⟨h1, g1, g2, h3.1, h3.2, fun j hj hjl => List.pairwise_iff_getElem.1 hs j i hjl h hj⟩
theorem giveS_len {low : Int} {R : Rng} (hI : RI low R) (l0 : 0 ≤ low) (l1 : low ≤ 1000000) (l : List Sn) (most : Int) : (giveS low R l most).length = min most.toNat (flt low R l 64).length := by
  rw [giveS_flt hI l0 l1, List.length_map, List.length_take]

def pcs (G : List Pl) (i : Nat) : Pl := G.getD i zP
theorem pcs_at {G : List Pl} {i : Nat} (h : i < G.length) : pcs G i = G[i] := by simp [pcs, List.getD, List.getElem?_eq_getElem h]
theorem gives_view {v : Value} {G : List Pl} {w : World} (h : RdE EI v G w) : ∃ a cap, v = .slice a G.length cap ∧ (G.length = 0 ∨ ∃ g off, a = some ⟨g, off, none⟩ ∧ ∀ i, i < G.length →
    w.cell? ⟨g, off + i * 4, none⟩ = some (.int .u64 (pcs G i).n) ∧ w.cell? ⟨g, off + i * 4 + 1, none⟩ = some (.int .i64 (pcs G i).g.s) ∧ w.cell? ⟨g, off + i * 4 + 2, none⟩ = some (.int .u64 (pcs G i).g.m) ∧ w.cell? ⟨g, off + i * 4 + 3, none⟩ = some (.string (pcs G i).g.x)) := by
  obtain ⟨a, cap, rfl, _, _, h3⟩ := h
  refine ⟨a, cap, rfl, ?_⟩
  rcases h3 with h3 | ⟨g, off, rfl, h3⟩
  · exact Or.inl h3
  · refine Or.inr ⟨g, off, rfl, fun i hi => ?_⟩
    rw [pcs_at hi]
    exact ⟨h3 i 0 hi (by decide), h3 i 1 hi (by decide), h3 i 2 hi (by decide), h3 i 3 hi (by decide)⟩

set_option maxRecDepth 100000 in
set_option maxHeartbeats 8000000 in
theorem gives_core (va vb : Value) (l t : List Int) (n : Int) (n0 : 0 ≤ n) (n1 : n ≤ 255) (w : World) (hA : Rn va l w) (hBa : Bytes l) (hT : Rn vb t w) (hBt : Bytes t) :
    Calls Try.prog 5 #[va, vb, .int .u8 n] w fun e w' => e = .returned (.bool true) ∧ Below w.heap.size w w' := by
  obtain ⟨aa, capa, rfl, ha3⟩ := id hA
  obtain ⟨ab, capb, rfl, hb3⟩ := id hT
  by_cases hla : 100 < l.length
  · have z1 : decide ((100 : Int) < (l.length : Int)) = true := decide_eq_true (by omega)
    have z1N : decide (100 < l.length) = true := decide_eq_true hla
    go_enter Try.func5, Try.ntmps5
    go_wp2_with fail
    refine (shown_any _).mono ?_
    rintro e w1 ⟨rfl, hb⟩
    go_wp2_with fail
    go_ret
    exact ⟨rfl, hb⟩
  have z1 : decide ((100 : Int) < (l.length : Int)) = false := decide_eq_false (by omega)
  have z1N : decide (100 < l.length) = false := decide_eq_false hla
  by_cases hlb : 100 < t.length
  · have z2 : decide ((100 : Int) < (t.length : Int)) = true := decide_eq_true (by omega)
    have z2N : decide (100 < t.length) = true := decide_eq_true hlb
    go_enter Try.func5, Try.ntmps5
    go_wp2_with fail
    refine (shown_any _).mono ?_
    rintro e w1 ⟨rfl, hb⟩
    go_wp2_with fail
    go_ret
    exact ⟨rfl, hb⟩
  have z2 : decide ((100 : Int) < (t.length : Int)) = false := decide_eq_false (by omega)
  have z2N : decide (100 < t.length) = false := decide_eq_false hlb
  have hll : (l.length : Int) ≤ 100 := by omega
  have htl : (t.length : Int) ≤ 100 := by omega
  obtain ⟨hc1, hc2⟩ := jnS_ok t hBt
  obtain ⟨C, HC⟩ : ∃ C, Hid (jnS t = C) := ⟨_, rfl⟩
  rw [HC.out] at hc1 hc2
  go_enter Try.func5, Try.ntmps5
  go_wp2_with fail
  refine (shown_any _).mono ?_
  rintro e w1 ⟨rfl, hb1⟩
  go_wp2_with fail
  refine (filled_any _ l 0 hBa (by omega) (by decide) (by decide) w1 (hA.below hb1)).mono ?_
  rintro e w2 ⟨⟨low, R, L, rfl, h2, h64, hL, hlow⟩, hb2⟩
  obtain rfl := hlow rfl
  have hB2 := hb1.trans (hb2.mono hb1.size)
  have hp1 := hb1.size
  have b3 := below_alloc w2 (.cells #[] 51)
  have hO3 := Ow.made w2
  have h3 := h2.below b3
  have hR3 := hO3.rs (fun s hs => by cases hs)
  have hB3 := hB2.trans (b3.mono hB2.size)
  clear hb1 hb2 b3 hO3 h2 hB2 hlow h64 z1 z1N z2 z2N hA hBa ha3
  go_wp2_with fail
  go_loopg [9, 10] t.length (fun gk t9 t10 wr => ∃ (i : Nat) (u9 : Value), i + gk = t.length ∧ t10 = .int .i64 i ∧ u9 = t9 ∧ Rs u9 (jnS (t.take i)) wr ∧ Two w1.heap.size (w1.heap.size + 1) (w1.heap.size + 2) 0 R L wr ∧ Below w.heap.size w wr)
  case atStart => exact ⟨0, _, by omega, rfl, rfl, hR3, h3, hB3⟩
  case round =>
    clear hR3 h3 hB3
    obtain ⟨i, u9, hi, rfl, rfl, hR7, h8, hB⟩ := hrel
    have i0 : (0 : Int) ≤ i := by omega
    by_cases hlt : (i : Int) < t.length
    · have hil : i < t.length := by omega
      rcases hb3 with hb3 | ⟨ga, offa, rfl, hb3⟩
      · omega
      clear hb3
      have c0 := fun w' (hb : Below w.heap.size w w') => (hT.below hb).at hil
      have hx := hBt _ (List.getElem_mem hil)
      have hst := jnS_take hil
      obtain ⟨u1, u2⟩ := jnS_ok (t.take i) (fun x hx => hBt x (List.mem_of_mem_take hx))
      rw [List.length_take] at u2
      generalize t[i] = x at *
      generalize jnS (t.take i) = M at *
      have hst : Hid (jnS (t.take (i + 1)) = joinS M [⟨x, x⟩]) := hst
      have hjo := joinM_ok M [⟨x, x⟩]
      have c1 := c0 _ hB
      have hwx : IntKind.u64.wrap x = x := by rw [IntKind.wrap_u64]; omega
      have b5 := below_alloc wr (.cells #[.int .u64 x, .int .u64 x] 51)
      have hU := Rs.one (Bx.new 51 x x wr) ⟨hx.1, by show x ≤ _; omega, hx.1, by show x ≤ _; omega⟩
      have b6 : Below (wr.alloc (.cells #[.int .u64 x, .int .u64 x] 51)).heap.size (wr.alloc (.cells #[.int .u64 x, .int .u64 x] 51)) (wr.alloc (.cells #[.int .u64 x, .int .u64 x] 51)).drew := ⟨rfl, rfl, rfl, Nat.le_refl _, fun _ _ => rfl⟩
      have hJ := fjoin_any _ _ M [⟨x, x⟩] _ ((hR7.below b5).below b6) (hU.below b6) (by omega) (by simp)
      have h8' := (h8.below b5).below b6
      have hB6 := (hB.trans (b5.mono hB.size)).trans (b6.mono (hB.trans (b5.mono hB.size)).size)
      have c3 := c0 _ hB6
      clear hU hR7 h8 b6 u1 hBt hT
      go_wp2_with fail
      go_region_held3 (fun w' => w'.cell? ⟨ga, offa + i, none⟩ = some (.int .u8 x)) (first | exact c1 | exact c3 | exact c2 | fail) ((first
        | (go_at_call 22; refine hJ.mono ?_; rintro e w2 ⟨⟨v2, rfl, hO2⟩, hb2⟩; have hR2 := hO2.rs hjo; have hB2 := hB6.trans (hb2.mono hB6.size); have c2 := c0 _ hB2; have h8 := h8'.below hb2)))
      go_wp2_with fail
      go_roundg (gk - 1)
      case rel => exact ⟨i + 1, _, by omega, by go_num, rfl, by rw [hst.out]; exact hR2, h8, hB2⟩
      case measure => omega
    · have ek : t.length ≤ i := by omega
      rw [List.take_of_length_le ek, HC.out] at hR7
      clear hb3 HC hT hBt
      have hwi : IntKind.i64.wrap n = n := by rw [IntKind.wrap_i64]; omega
      have hI := h8.cp.ri
      have hgv := give_any w1.heap.size 0 R hI (by decide) (by decide) u9 C n wr h8.sf hR7 (by omega)
      have hat := fun i => @giveS_at 0 R hI (by decide) (by decide) C n i
      have hln := giveS_len hI (by decide) (by decide) C n
      obtain ⟨G, HG⟩ : ∃ G, Hid (giveS 0 R C n = G) := ⟨_, rfl⟩
      rw [HG.out] at hgv hln
      rw [HG.out] at hat
      replace hln : Hid (G.length = min n.toNat (flt 0 R C 64).length) := hln
      go_wp2_with fail
      refine hgv.mono ?_
      rintro e w5 ⟨⟨v5, rfl, hO5⟩, hb5⟩
      have h5 := h8.below hb5
      have hR5 := hR7.below hb5
      have hB5 := hB.trans (hb5.mono hB.size)
      have hRd := hO5.rd
      obtain ⟨ag, cg, rfl, k5⟩ := gives_view hRd
      have hat : ∀ i, i < G.length → hasM C (pcs G i).n = true ∧ getE 0 (hasR 0 R (pcs G i).n) (pcs G i).n = 0 ∧ getM 0 R (pcs G i).n = (pcs G i).g ∧ 0 < (pcs G i).n ∧ (pcs G i).n ≤ 64 ∧ ∀ j, j < i → (pcs G j).n < (pcs G i).n := by
        intro i hi
        obtain ⟨b1, b2, b3, b4, b5, b6⟩ := hat i hi
        rw [pcs_at hi]
        exact ⟨b1, b2, b3, b4, by omega, fun j hj => by rw [pcs_at (show j < G.length by omega)]; exact b6 j hj (by omega)⟩
      clear hgv h8 hR7 hb5 hO5 i0 hi hlt ek hB hRd HG
      have hG64 := flt_len 0 R C 64
      have hGl : (G.length : Int) ≤ 64 := by have := hln.out; omega
      generalize pcs G = P at *
      obtain ⟨N, HN⟩ : ∃ N, Hid (G.length = N) := ⟨_, rfl⟩
      have hln : Hid (N = min n.toNat (flt 0 R C 64).length) := HN.out.symm.trans hln.out
      rw [HN.out] at hat hGl k5 ⊢
      clear HN
      go_wp2_with fail
      go_loopg [12] N (fun gk t12 wr => ∃ i : Nat, i + gk = N ∧ t12 = .int .i64 i ∧ Below w5.heap.size w5 wr)
      case atStart => exact ⟨0, by omega, rfl, Below.refl _ _⟩
      case round =>
        obtain ⟨i, hi, rfl, hBr⟩ := hrel
        have i0 : (0 : Int) ≤ i := by omega
        by_cases hlt : (i : Int) < N
        · have hil : i < N := by omega
          rcases k5 with k5 | ⟨g, off, rfl, k5⟩
          · omega
          obtain ⟨a1, a2, a3, a4, a5, a6⟩ := hat i hil
          have hget := fget_all (w1.heap.size + 2) (w1.heap.size + 1) 0 R L (P i).n h5.cp (by omega) wr (h5.rf.below hBr)
          rw [a2, a3] at hget
          obtain ⟨d0, d1, d2, d3⟩ := k5 i hil
          have c0 := cellB d0 hBr
          have hhas := fun w' h => fhas_any u9 C (P i).n w' h (by omega)
          rw [a1] at hhas
          have hne := run_neqM (P i).g
          have k6 := fun j (hj : j < i) => k5 j (by omega)
          generalize P i = x at *
          obtain ⟨y, M⟩ := x
          dsimp only at d0 d1 d2 d3 c0 a1 a4 a5 a6 hget hhas hne
          clear hat k5 hln a1 a2 a3
          go_wp2_with fail
          refine hget.mono ?_
          rintro e w6 ⟨rfl, hb6⟩
          have hB6 := hBr.trans (hb6.mono hBr.size)
          have hB7 := hB6.trans ((below_alloc w6 (.cells #[.int .i64 M.s, .int .u64 M.m, .string M.x] 28)).mono hB6.size)
          have hM7 := Bm.new M w6
          have r0 := cellB d0 hB7
          have r1 := cellB d1 hB7
          have r2 := cellB d2 hB7
          have r3 := cellB d3 hB7
          have hR7 := hR5.below hB7
          have k7 := fun j (hj : j < i) => cellB (k6 j hj).1 hB7
          clear hget hb6 c0 d0 d1 d2 d3 k6
          obtain ⟨w7, hw7⟩ : ∃ w7, Hid (w7 = w6.alloc (.cells #[.int .i64 M.s, .int .u64 M.m, .string M.x] 28)) := ⟨_, rfl⟩
          rw [← hw7.out] at hB7 hM7 r0 r1 r2 r3 hR7
          rw [← hw7.out] at k7
          have hnek : Nonempty (Kept (fun w' => Below w7.heap.size w7 w')) := ⟨⟨w7, Below.refl _ _⟩⟩
          have m0 : ∀ x : Kept (fun w' => Below w7.heap.size w7 w'), x.at_.cell? ⟨w6.heap.size, 0, none⟩ = some (.int .i64 M.s) := fun x => cellB hM7.c0 x.is
          have m1 : ∀ x : Kept (fun w' => Below w7.heap.size w7 w'), x.at_.cell? ⟨w6.heap.size, 1, none⟩ = some (.int .u64 M.m) := fun x => cellB hM7.c1 x.is
          have m2 : ∀ x : Kept (fun w' => Below w7.heap.size w7 w'), x.at_.cell? ⟨w6.heap.size, 2, none⟩ = some (.string M.x) := fun x => cellB hM7.c2 x.is
          have hRk : ∀ x : Kept (fun w' => Below w7.heap.size w7 w'), Rs u9 C x.at_ := fun x => hR7.below x.is
          replace r0 : ∀ x : Kept (fun w' => Below w7.heap.size w7 w'), x.at_.cell? ⟨g, off + i * 4, none⟩ = some (.int .u64 y) := fun x => cellB r0 x.is
          replace r1 : ∀ x : Kept (fun w' => Below w7.heap.size w7 w'), x.at_.cell? ⟨g, off + i * 4 + 1, none⟩ = some (.int .i64 M.s) := fun x => cellB r1 x.is
          replace r2 : ∀ x : Kept (fun w' => Below w7.heap.size w7 w'), x.at_.cell? ⟨g, off + i * 4 + 2, none⟩ = some (.int .u64 M.m) := fun x => cellB r2 x.is
          replace r3 : ∀ x : Kept (fun w' => Below w7.heap.size w7 w'), x.at_.cell? ⟨g, off + i * 4 + 3, none⟩ = some (.string M.x) := fun x => cellB r3 x.is
          go_wp2_with fail
          rw [← hw7.out]
          rcases Nat.eq_zero_or_pos i with hi0 | hi0
          · subst hi0
            rw [Nat.zero_mul, Nat.add_zero] at r0 r1 r2 r3
            clear k7 hM7 hR7 a6
            refine wp_region_kept (fun w' => Below w7.heap.size w7 w') (by kernel_rfl) (by kernel_rfl) ⟨rfl, rfl, rfl, Nat.le_refl _, fun _ _ => rfl⟩ ?_
            repeat (go_big_quiet_step (first
              | (refine (hhas _ (hRk _)).mono ?_; rintro e w4 ⟨rfl, hb4⟩; exact ⟨rfl, keptB hb4⟩)))
            refine wpQuiet_nil ?_
            intro w8 h8
            have hB8 := hB7.trans (h8.mono hB7.size)
            clear m0 m1 m2 r0 r1 r2 r3 hRk hne hhas
            go_wp2_with fail
            go_roundg (gk - 1)
            case rel => exact ⟨0 + 1, by omega, by go_num, hB8⟩
            case measure => omega
          · obtain ⟨j, rfl⟩ : ∃ j, i = j + 1 := ⟨i - 1, by omega⟩
            have k8 := k7 j (by omega)
            have a7 := a6 j (by omega)
            generalize (P j).n = z at *
            have k9 : ∀ x : Kept (fun w' => Below w7.heap.size w7 w'), x.at_.cell? ⟨g, off + j * 4, none⟩ = some (.int .u64 z) := fun x => cellB k8 x.is
            have hzy : decide (y ≤ z) = false := decide_eq_false (by omega)
            have hj0 : decide ((0 : Int) < ((j + 1 : Nat) : Int)) = true := decide_eq_true (by omega)
            have hj1 : (0 : Int) ≤ (j : Int) := by omega
            have hj2 : (j : Int) < N := by omega
            clear k7 k8 hM7 hR7 a6
            refine wp_region_kept (fun w' => Below w7.heap.size w7 w') (by kernel_rfl) (by kernel_rfl) ⟨rfl, rfl, rfl, Nat.le_refl _, fun _ _ => rfl⟩ ?_
            repeat (go_big_quiet_step (first
              | (refine (hhas _ (hRk _)).mono ?_; rintro e w4 ⟨rfl, hb4⟩; exact ⟨rfl, keptB hb4⟩)))
            refine wpQuiet_nil ?_
            intro w8 h8
            have hB8 := hB7.trans (h8.mono hB7.size)
            clear m0 m1 m2 r0 r1 r2 r3 hRk hne hhas
            go_wp2_with fail
            go_roundg (gk - 1)
            case rel => exact ⟨j + 1 + 1, by omega, by go_num, hB8⟩
            case measure => omega
        · have hB7 := hB5.trans (hBr.mono hB5.size)
          clear k5 hat i0 hi
          go_wp2_with fail
          go_loopg [15, 16] 64 (fun gk t15 t16 wr => ∃ k : Nat, k + gk = 64 ∧ t16 = .int .u64 (1 + k) ∧ t15 = .int .i64 (flt 0 R C k).length ∧ Below w5.heap.size w5 wr)
          case atStart => exact ⟨0, by omega, rfl, rfl, hBr⟩
          case round =>
            clear hBr hB7
            obtain ⟨k, hk, rfl, rfl, hBr⟩ := hrel
            have k0 : (0 : Int) ≤ k := by omega
            by_cases hlt : 1 + (k : Int) ≤ 64
            · have hst : Hid (flt 0 R C (k + 1) = if okW 0 R C (1 + k) then flt 0 R C k ++ [1 + (k : Int)] else flt 0 R C k) := by
                show _ = _
                have := flt_succ 0 R C k
                rw [show (0 : Int) + 1 + (k : Int) = 1 + k by omega] at this
                exact this
              have hfl := flt_len 0 R C k
              have hhas := fhas_any u9 C (1 + (k : Int)) wr (hR5.below hBr) (by omega)
              have hhv := hasM_up (haveR_up (low := 0) (R := R) (by decide) (by decide)) (1 + (k : Int))
              rw [haveR_has hI (by decide) (by decide), decide_eq_false (by omega), Bool.false_or] at hhv
              have hok : Hid (okW 0 R C (1 + (k : Int)) = (hasM C (1 + (k : Int)) && hasR 0 R (1 + (k : Int)))) := rfl
              have hHl := haveR_len (low := 0) (R := R) (by decide) (by decide)
              have hhave := fun w' h => fhave_all (w1.heap.size + 2) (w1.heap.size + 1) 0 R L h5.cp (by omega) (by decide) w' h
              cases hx : hasM C (1 + (k : Int))
              case false =>
                rw [hx] at hhas hok
                replace hst : Hid ((flt 0 R C (k + 1)).length = (flt 0 R C k).length) := by show (flt 0 R C (k + 1)).length = _; rw [hst.out, hok.out, Bool.false_and, if_neg (by simp)]
                clear hok hx hhave hhv
                generalize (flt 0 R C k).length = F at *
                go_wp2_with fail
                refine hhas.mono ?_
                rintro e w6 ⟨rfl, hb6⟩
                go_wp2_with fail
                go_roundg (gk - 1)
                case rel => exact ⟨k + 1, by omega, by go_num, by rw [hst.out], hBr.trans (hb6.mono hBr.size)⟩
                case measure => omega
              case true =>
                rw [hx] at hhas hok
                cases hy : hasR 0 R (1 + (k : Int))
                case false =>
                  rw [hy] at hok hhv
                  replace hst : Hid ((flt 0 R C (k + 1)).length = (flt 0 R C k).length) := by show (flt 0 R C (k + 1)).length = _; rw [hst.out, hok.out]; simp
                  generalize (flt 0 R C k).length = F at *
                  clear hok hx hy
                  go_wp2_with fail
                  refine hhas.mono ?_
                  rintro e w6 ⟨rfl, hb6⟩
                  have hB6 := hBr.trans (hb6.mono hBr.size)
                  go_wp2_with fail
                  refine (hhave _ (h5.rf.below hB6)).mono ?_
                  rintro e w7 ⟨⟨v7, rfl, hR7⟩, hb7⟩
                  have hB7 := hB6.trans (hb7.mono hB6.size)
                  have hh7 := fhas_any v7 (haveR 0 R) (1 + (k : Int)) w7 hR7 (by omega)
                  rw [hhv] at hh7
                  go_wp2_with fail
                  refine hh7.mono ?_
                  rintro e w8 ⟨rfl, hb8⟩
                  go_wp2_with fail
                  go_roundg (gk - 1)
                  case rel => exact ⟨k + 1, by omega, by go_num, by rw [hst.out], hB7.trans (hb8.mono hB7.size)⟩
                  case measure => omega
                case true =>
                  rw [hy] at hok hhv
                  replace hst : Hid ((flt 0 R C (k + 1)).length = (flt 0 R C k).length + 1) := by show (flt 0 R C (k + 1)).length = _; rw [hst.out, hok.out]; simp
                  generalize (flt 0 R C k).length = F at *
                  clear hok hx hy
                  go_wp2_with fail
                  refine hhas.mono ?_
                  rintro e w6 ⟨rfl, hb6⟩
                  have hB6 := hBr.trans (hb6.mono hBr.size)
                  go_wp2_with fail
                  refine (hhave _ (h5.rf.below hB6)).mono ?_
                  rintro e w7 ⟨⟨v7, rfl, hR7⟩, hb7⟩
                  have hB7 := hB6.trans (hb7.mono hB6.size)
                  have hh7 := fhas_any v7 (haveR 0 R) (1 + (k : Int)) w7 hR7 (by omega)
                  rw [hhv] at hh7
                  go_wp2_with fail
                  refine hh7.mono ?_
                  rintro e w8 ⟨rfl, hb8⟩
                  go_wp2_with fail
                  go_roundg (gk - 1)
                  case rel => exact ⟨k + 1, by omega, by go_num, by rw [hst.out]; go_num, hB7.trans (hb8.mono hB7.size)⟩
                  case measure => omega
            · obtain rfl : k = 64 := by omega
              have hB7 := hB5.trans (hBr.mono hB5.size)
              generalize (flt 0 R C 64).length = F at *
              have alt : ((F : Int) ≤ n ∧ Hid (N = F)) ∨ (n < (F : Int) ∧ Hid ((N : Int) = n)) := by
                have := hln.out
                by_cases h : (F : Int) ≤ n
                · exact Or.inl ⟨h, by show N = F; omega⟩
                · exact Or.inr ⟨by omega, by show (N : Int) = n; omega⟩
              clear hln
              rcases alt with ⟨h1, h2⟩ | ⟨h1, h2⟩
              · obtain rfl := h2.out
                go_wp2_with fail
                go_ret
                exact ⟨by simp, hB7⟩
              · obtain rfl := h2.out.symm
                go_wp2_with fail
                go_ret
                exact ⟨by simp, hB7⟩
theorem gives_walk (a : Option Addr) (len cap : Nat) (l : List Int) (a' : Option Addr) (len' cap' : Nat) (t : List Int) (n : Int) (hn : (Lit.int .u8 n).wf = true) (w : World) (h1 : IsBytes w a len cap l) (h2 : IsBytes w a' len' cap' t) :
    Calls Try.prog 5 #[.slice a len cap, .slice a' len' cap', .int .u8 n] w fun e w' => e = .returned (.bool true) ∧ Below w.heap.size w w' :=
  gives_core _ _ l t n (u8_of hn).1 (u8_of hn).2 w h1.2.1 h1.2.2 h2.2.1 h2.2.2
end Go.Proofs.Ytlbeincgknmijaa
