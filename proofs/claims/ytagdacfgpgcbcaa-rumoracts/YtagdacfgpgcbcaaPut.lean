/-
  Put.
-/
import Derived.Test.YtagdacfgpgcbcaaIts
namespace Go.Proofs.Ytagdacfgpgcbcaa
open Go.RowKit Go.Maps

/-- Block g is a box of type T, in which an update lies. -/
structure Bx (T : TypeId) (g : Nat) (n i s : Int) (w : World) : Prop where
  heap : w.heap[g]? = some (.cells #[.int .i64 n, .int .u64 i, .int .i64 s] T (0, 0))
section
variable {T : TypeId} {g : Nat} {n i s : Int} {w w' : World}
theorem Bx.c0 (h : Bx T g n i s w) : w.cell? ⟨g, 0, none⟩ = some (.int .i64 n) := by simp [World.cell?, h.heap]
theorem Bx.c1 (h : Bx T g n i s w) : w.cell? ⟨g, 1, none⟩ = some (.int .u64 i) := by simp [World.cell?, h.heap]
theorem Bx.c2 (h : Bx T g n i s w) : w.cell? ⟨g, 2, none⟩ = some (.int .i64 s) := by simp [World.cell?, h.heap]
theorem Bx.lt (h : Bx T g n i s w) : g < w.heap.size := (Array.getElem?_eq_some_iff.1 h.heap).1
theorem Bx.keep (h : Bx T g n i s w) (e : w'.heap[g]? = w.heap[g]?) : Bx T g n i s w' := ⟨e.trans h.heap⟩
theorem Bx.below (h : Bx T g n i s w) (b : Below w.heap.size w w') : Bx T g n i s w' := h.keep (b.block g h.lt)
theorem Bx.new (T : TypeId) (n i s : Int) (w : World) : Bx T w.heap.size n i s (w.alloc (.cells #[.int .i64 n, .int .u64 i, .int .i64 s] T)) := ⟨heap_alloc_new w _⟩
end

theorem stale_eq {L : List Itm} (h : Qi L) (u : Int × Int × Int) : staleQ L u = (hasQ L u.1 && !newerS u.2.1 u.2.2 (getQ L u.1).2.1 (getQ L u.1).2.2.1) := by
  cases e : hasQ L u.1
  case false =>
    have h1 := (hasQ_false e).1
    unfold staleQ
    rw [Bool.false_and, List.any_eq_false]
    intro x hx
    have := h1 x hx
    simp [this]
  case true =>
    obtain ⟨h1, h2⟩ := hasQ_true e
    rw [Bool.true_and]
    cases e' : newerS u.2.1 u.2.2 (getQ L u.1).2.1 (getQ L u.1).2.2.1
    case false => exact List.any_eq_true.2 ⟨_, h1, by simp [h2, e']⟩
    case true =>
      unfold staleQ
      rw [Bool.not_true, List.any_eq_false]
      intro x hx
      by_cases e2 : x.1 = u.1
      · obtain rfl := h.one hx h1 (e2.trans h2.symm)
        simp [e']
      · simp [e2]

theorem look_any {p : Nat} {m : Option Nat} {L : List Itm} {w : World} (h : Qu p m L w) {n : Int} (h0 : 0 ≤ n) (h1 : n < 64) :
    (Instr.lookup 25 (.map m) (.int .i64 n) true).run Try.prog w = .ok (.tuple #[itmV (getQ L n), .bool (hasQ L n)]) w := by
  cases m with
  | none =>
    obtain rfl := h.none_ rfl
    rw [look_nil true law3 Try.underlying25 (zeroI _) (keyOf_int_mk Try.underlying3 (wf_node h0 h1))]
    rfl
  | some b => exact (h.some_ b rfl).look h0 h1

theorem Mv.be {p : Nat} {m m1 : Option Nat} {w w1 w2 : World} (h : Mv p m m1 w w1) (k : Below w1.heap.size w1 w2) : Mv p m m1 w w2 := h.trans (Mv.of k)
theorem Mv.eb {p : Nat} {m m1 : Option Nat} {w w1 w2 : World} (h : Below w.heap.size w w1) (k : Mv p m m1 w1 w2) : Mv p m m1 w w2 := (Mv.of h).trans k

set_option maxHeartbeats 2000000 in
set_option maxRecDepth 100000 in
theorem put_any (p : Nat) (m : Option Nat) (L : List Itm) (hl : L.length ≤ 32) (n i s : Int) (hi : 0 ≤ i ∧ i ≤ 18446744073709551615) (w : World) (hQ : Qu p m L w) :
    Calls Try.prog 10 #[.pointer (some ⟨p, 0, none⟩), .agg #[.int .i64 n, .int .u64 i, .int .i64 s]] w fun e w' => e = .returned (.int .i64 (putE L (n, i, s))) ∧ ∃ m', Qu p m' (putQ L (n, i, s)) w' ∧ Mv p m m' w w' := by
  have hB := Bx.new 34 n i s w
  have hb0 := below_alloc w (.cells #[.int .i64 n, .int .u64 i, .int .i64 s] 34)
  obtain ⟨E, HE⟩ : ∃ E, Hid (putE L (n, i, s) = E) := ⟨_, rfl⟩
  obtain ⟨N, HN⟩ : ∃ N, Hid (putQ L (n, i, s) = N) := ⟨_, rfl⟩
  rw [HE.out, HN.out]
  go_enter Try.func10, Try.ntmps10
  obtain ⟨my, HM⟩ : ∃ b, Hid (mayS n s = b) := ⟨_, rfl⟩
  go_wp2_with fail
  refine (may_any _ _ _ _).mono ?_
  rw [HM.out]
  rintro e w1 ⟨rfl, hb1⟩
  have hb1' : Below w.heap.size w w1 := hb0.trans (hb1.mono hb0.size)
  have hB1 := hB.below hb1
  have hQ1 := hQ.below hb1'
  have hmv1 : Mv p m m w w1 := Mv.of hb1'
  clear hB hb0 hb1 hb1' hQ
  generalize w.heap.size = g at *
  cases my
  case false =>
    go_wp2_with fail
    go_ret
    exact ⟨by rw [← HE.out]; simp [putE, HM.out], m, by rw [← HN.out]; simpa [putQ, HM.out] using hQ1, hmv1⟩
  case true =>
    obtain ⟨n0, n1, s0, s1⟩ := mayS_ok HM.out
    have x0 := hB1.c0
    have x1 := hB1.c1
    have x2 := hB1.c2
    have hc := hQ1.c
    have hlt := hB1.lt
    have lk1 := look_any (show Qu p m L w1.drew from hQ1.keep rfl (fun _ _ => rfl)) n0 n1
    have hz := below_alloc w1 (.cells #[.int .i64 0, .int .u64 0, .int .i64 0, .int .i64 0] 53)
    have lk2 := look_any (show Qu p m L (w1.alloc (.cells #[.int .i64 0, .int .u64 0, .int .i64 0, .int .i64 0] 53)).drew from (hQ1.below hz).keep rfl (fun _ _ => rfl)) n0 n1
    have hst := stale_eq hQ1.qi (n, i, s)
    simp only at hst
    generalize getQ L n = k at *
    generalize hasQ L n = hs at *
    obtain ⟨k1, k2, k3, k4⟩ := k
    have HST : Hid (staleQ L (n, i, s) = (hs && !newerS i s k2 k3)) := hst
    clear hst hz
    have hc1 := (hQ1.below (below_alloc w1 (.cells #[.int .i64 0, .int .u64 0, .int .i64 0, .int .i64 0] 53))).c
    have hb2 : Below w1.heap.size w1 (w1.alloc (.cells #[.int .i64 k1, .int .u64 k2, .int .i64 k3, .int .i64 k4] 53)).drew := Below.drew' (below_alloc w1 _)
    have hK2 : Bi 53 w1.heap.size (k1, k2, k3, k4) (w1.alloc (.cells #[.int .i64 k1, .int .u64 k2, .int .i64 k3, .int .i64 k4] 53)).drew := ⟨(Bi.new 53 k1 k2 k3 k4 w1).heap⟩
    unfold itmV at lk1 lk2
    simp only at lk1 lk2
    obtain ⟨w2, HW2⟩ : ∃ w2, Hid (w2 = (w1.alloc (.cells #[.int .i64 k1, .int .u64 k2, .int .i64 k3, .int .i64 k4] 53)).drew) := ⟨_, rfl⟩
    rw [← HW2.out] at hb2 hK2
    have hB2 := hB1.below hb2
    have hQ2 := hQ1.below hb2
    have hmv2 := hmv1.be hb2
    go_wp2_with fail
    go_region
    all_goals rw [← HW2.out]
    all_goals clear lk1 lk2 x0 x1 x2 hc hc1 hB1 hQ1 hmv1 hb2
    all_goals generalize w1.heap.size = g1 at *
    all_goals have x0 := hB2.c0
    all_goals have x1 := hB2.c1
    all_goals have x2 := hB2.c2
    all_goals have y0 := hK2.c0
    all_goals have y1 := hK2.c1
    all_goals have y2 := hK2.c2
    all_goals clear HW2
    all_goals simp only at y0 y1 y2
    all_goals have hok : ItmOk (n, i, s, 0) := updI_ok (u := (n, i, s)) HM.out hi
    all_goals have hE0 : staleQ L (n, i, s) = false → Hid (E = 0 ∧ N = (keepQ L (n, i, s, 0)).take 32) := fun e => ⟨by rw [← HE.out]; simp [putE, HM.out, e], by rw [← HN.out]; simp [putQ, HM.out, e, updI]⟩
    all_goals have hE1 : staleQ L (n, i, s) = true → Hid (E = 70 ∧ N = L) := fun e => ⟨by rw [← HE.out]; simp [putE, HM.out, e], by rw [← HN.out]; simp [putQ, HM.out, e]⟩
    all_goals
      cases hs
      case false =>
        have hst := HST.out
        rw [Bool.false_and] at hst
        have hE := hE0 hst
        clear hE0 hE1 hst HST y0 y1 y2
        go_wp2_with fail
        refine (keep_any p m L (n, i, s, 0) hok (Nat.le_trans (keepQ_length _) (by omega)) _ hQ2).mono ?_
        have hll := keepQ_length (L := L) (n, i, s, 0)
        have hpos : 0 < (keepQ L (n, i, s, 0)).length := by unfold keepQ; rw [insQ_length]; omega
        generalize keepQ L (n, i, s, 0) = M at *
        rintro e w4 ⟨rfl, m', hQ4, hmv4⟩
        have hmv5 := hmv2.trans hmv4
        clear hmv2 hmv4 hQ2 hB2 x0 x1 x2
        go_wp2_with fail
        refine (items_any p m' M (by omega) _ hQ4).mono ?_
        rintro e w5 ⟨⟨v, rfl, hR, hv⟩, hb5⟩
        have hQ5 := hQ4.below hb5
        have hmv6 := hmv5.be hb5
        clear hb5 hmv5 hv hQ4
        obtain ⟨a, cap, rfl, h1, h2, h3⟩ := hR
        by_cases hM : M.length = 33
        · obtain ⟨b, rfl⟩ : ∃ b, m' = some b := by
            cases m' with
            | some b => exact ⟨b, rfl⟩
            | none => have := hQ5.none_ rfl; rw [this] at hpos; cases hpos
          have hcap : (33 : Int) ≤ cap := by omega
          obtain ⟨g5, off, rfl, hcell⟩ : ∃ g5 off, a = some ⟨g5, off, none⟩ ∧ w5.cell? ⟨g5, off + 32 * 4, none⟩ = some (.int .i64 (M[32]'(by omega)).1) := by
            rcases h3 with h3 | ⟨g5, off, rfl, h3⟩
            · omega
            · exact ⟨g5, off, rfl, (h3 32 (by omega)).1⟩
          have hlast := less_last hQ5.qi 32 hM
          have hmem := hQ5.qi.ok _ (List.getElem_mem (l := M) (n := 32) (by omega))
          have m0 := hmem.n0
          have m1 := hmem.n1
          clear hmem
          generalize (M[32]'(by omega)).1 = nn at *
          have HL : Hid (lessQ M nn = M.take 32) := hlast
          clear hlast h3 h1
          rw [hM]
          clear hM hll hpos
          have hne := hQ5.ne b rfl
          obtain ⟨w6, hrun, hM6, hg6⟩ := Mo.del (w := w5.drew) ((hQ5.some_ b rfl).keep rfl) hQ5.qi m0 m1 0
          have hmv7 := hmv6.trans (m2 := some b) (w2 := w6) ⟨hg6.os, hg6.tape, hg6.output, hg6.size, fun k hk _ hm => hg6.block k hk hm, Or.inl rfl⟩
          have hQ6 : Qu p (some b) (M.take 32) w6 := ⟨hQ5.qi.take 32, (hg6.block p hQ5.lt (by simpa using Ne.symm hne)).trans hQ5.heap, (fun e => by cases e), (fun b' e => by cases e; rw [← HL.out]; exact hM6)⟩
          have hc := hQ5.c
          clear hM6 hg6 hQ5
          go_wp2_with fail
          go_region
          go_wp2_with fail
          go_ret
          obtain ⟨e1, e2⟩ := hE.out
          exact ⟨by rw [e1]; rfl, _, by rw [e2]; exact hQ6, hmv7⟩
        · have hM' : ¬ (32 < M.length) := by omega
          have hM2 : (M.length : Int) ≤ 32 := by omega
          clear hM
          go_wp2_with fail
          go_ret
          obtain ⟨e1, e2⟩ := hE.out
          exact ⟨by rw [e1]; rfl, _, by rw [e2, List.take_of_length_le (by omega)]; exact hQ5, hmv6⟩
      case true =>
        obtain ⟨nw, HNW⟩ : ∃ b, Hid (newerS i s k2 k3 = b) := ⟨_, rfl⟩
        have hst := HST.out
        rw [HNW.out, Bool.true_and] at hst
        go_wp2_with fail
        refine (newer_any _ _ _ _ _ _ _).mono ?_
        rw [HNW.out]
        rintro e w3 ⟨rfl, hb3⟩
        have hQ3 := hQ2.below hb3
        have hmv3 := hmv2.be hb3
        have hB3 := hB2.below hb3
        clear hQ2 hmv2 hb3 hB2 x0 x1 x2 y0 y1 y2 HST hK2
        have x0 := hB3.c0
        have x1 := hB3.c1
        have x2 := hB3.c2
        cases nw
        case false =>
          have hE := hE1 hst
          clear hE0 hE1 hst
          go_wp2_with fail
          go_ret
          obtain ⟨e1, e2⟩ := hE.out
          exact ⟨by rw [e1]; rfl, _, by rw [e2]; exact hQ3, hmv3⟩
        case true =>
          have hE := hE0 hst
          clear hE0 hE1 hst
          go_wp2_with fail
          refine (keep_any p m L (n, i, s, 0) hok (Nat.le_trans (keepQ_length _) (by omega)) _ hQ3).mono ?_
          have hll := keepQ_length (L := L) (n, i, s, 0)
          have hpos : 0 < (keepQ L (n, i, s, 0)).length := by unfold keepQ; rw [insQ_length]; omega
          generalize keepQ L (n, i, s, 0) = M at *
          rintro e w4 ⟨rfl, m', hQ4, hmv4⟩
          have hmv5 := hmv3.trans hmv4
          clear hmv3 hmv4 hQ3 hB3 x0 x1 x2
          go_wp2_with fail
          refine (items_any p m' M (by omega) _ hQ4).mono ?_
          rintro e w5 ⟨⟨v, rfl, hR, hv⟩, hb5⟩
          have hQ5 := hQ4.below hb5
          have hmv6 := hmv5.be hb5
          clear hb5 hmv5 hv hQ4
          obtain ⟨a, cap, rfl, h1, h2, h3⟩ := hR
          by_cases hM : M.length = 33
          · obtain ⟨b, rfl⟩ : ∃ b, m' = some b := by
              cases m' with
              | some b => exact ⟨b, rfl⟩
              | none => have := hQ5.none_ rfl; rw [this] at hpos; cases hpos
            have hcap : (33 : Int) ≤ cap := by omega
            obtain ⟨g5, off, rfl, hcell⟩ : ∃ g5 off, a = some ⟨g5, off, none⟩ ∧ w5.cell? ⟨g5, off + 32 * 4, none⟩ = some (.int .i64 (M[32]'(by omega)).1) := by
              rcases h3 with h3 | ⟨g5, off, rfl, h3⟩
              · omega
              · exact ⟨g5, off, rfl, (h3 32 (by omega)).1⟩
            have hlast := less_last hQ5.qi 32 hM
            have hmem := hQ5.qi.ok _ (List.getElem_mem (l := M) (n := 32) (by omega))
            have m0 := hmem.n0
            have m1 := hmem.n1
            clear hmem
            generalize (M[32]'(by omega)).1 = nn at *
            have HL : Hid (lessQ M nn = M.take 32) := hlast
            clear hlast h3 h1
            rw [hM]
            clear hM hll hpos
            have hne := hQ5.ne b rfl
            obtain ⟨w6, hrun, hM6, hg6⟩ := Mo.del (w := w5.drew) ((hQ5.some_ b rfl).keep rfl) hQ5.qi m0 m1 0
            have hmv7 := hmv6.trans (m2 := some b) (w2 := w6) ⟨hg6.os, hg6.tape, hg6.output, hg6.size, fun k hk _ hm => hg6.block k hk hm, Or.inl rfl⟩
            have hQ6 : Qu p (some b) (M.take 32) w6 := ⟨hQ5.qi.take 32, (hg6.block p hQ5.lt (by simpa using Ne.symm hne)).trans hQ5.heap, (fun e => by cases e), (fun b' e => by cases e; rw [← HL.out]; exact hM6)⟩
            have hc := hQ5.c
            clear hM6 hg6 hQ5
            go_wp2_with fail
            go_region
            go_wp2_with fail
            go_ret
            obtain ⟨e1, e2⟩ := hE.out
            exact ⟨by rw [e1]; rfl, _, by rw [e2]; exact hQ6, hmv7⟩
          · have hM' : ¬ (32 < M.length) := by omega
            have hM2 : (M.length : Int) ≤ 32 := by omega
            clear hM
            go_wp2_with fail
            go_ret
            obtain ⟨e1, e2⟩ := hE.out
            exact ⟨by rw [e1]; rfl, _, by rw [e2, List.take_of_length_le (by omega)]; exact hQ5, hmv6⟩
end Go.Proofs.Ytagdacfgpgcbcaa
