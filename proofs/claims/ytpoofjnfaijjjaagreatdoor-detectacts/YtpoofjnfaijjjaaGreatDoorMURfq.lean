/-
  Put. first: the first n of Items. Take. Queues and rows, read. The reference's queue: ahead, less, put, Items.
-/
import Derived.Test.YtpoofjnfaijjjaaGreatDoorMUIts
import Derived.Test.YtpoofjnfaijjjaaGreatDoorMClr
import Derived.Test.YtpoofjnfaijjjaaGreatDoorMUBit
import Derived.Test.YtpoofjnfaijjjaaGreatDoorMRKpt
namespace Go.Proofs.YtpoofjnfaijjjaaGreatDoor.Ru
open Go.RowKit Go.Maps Go.Proofs.YtpoofjnfaijjjaaGreatDoor.Ro
variable {X : Value → Array Value}
theorem stale_eq {L : List Itm} (h : Qi L) (u : Int × Int × Int) : staleQ L u = (hasQ L u.1 && !newerS u.2.1 u.2.2 (getQ L u.1).2.1 (getQ L u.1).2.2.1) := by
  cases e : hasQ L u.1
  case false =>
    have h1 := (hasQ_false e).1
    unfold staleQ
    rw [Bool.false_and, List.any_eq_false]
    intro x hx
    have := h1 x hx
    simp [this]
  case true =>
    obtain ⟨h1, h2⟩ := hasQ_true e
    rw [Bool.true_and]
    cases e' : newerS u.2.1 u.2.2 (getQ L u.1).2.1 (getQ L u.1).2.2.1
    case false => exact List.any_eq_true.2 ⟨_, h1, by simp [h2, e']⟩
    case true =>
      unfold staleQ
      rw [Bool.not_true, List.any_eq_false]
      intro x hx
      by_cases e2 : x.1 = u.1
      · obtain rfl := h.one hx h1 (e2.trans h2.symm)
        simp [e']
      · simp [e2]
theorem look_any {p : Nat} {m : Option Nat} {L : List Itm} {w : World} (h : Qu X p m L w) {n : Int} (h0 : 0 ≤ n) (h1 : n < 64) :
    (Instr.lookup 85 (.map m) (.int .i64 n) true).run Tryz.prog w = .ok (.tuple #[itmV (getQ L n), .bool (hasQ L n)]) w := by
  cases m with
  | none =>
    obtain rfl := h.none_ rfl
    rw [look_nil true law3 Tryz.underlying85 (zeroI _) (keyOf_int_mk Tryz.underlying3 (wf_node h0 h1))]
    rfl
  | some b => exact (h.some_ b rfl).look h0 h1
theorem Mv.be {p : Nat} {m m1 : Option Nat} {w w1 w2 : World} (h : Mv p m m1 w w1) (k : Below w1.heap.size w1 w2) : Mv p m m1 w w2 := h.trans (Mv.of k)
theorem Mv.eb {p : Nat} {m m1 : Option Nat} {w w1 w2 : World} (h : Below w.heap.size w w1) (k : Mv p m m1 w1 w2) : Mv p m m1 w w2 := (Mv.of h).trans k
set_option maxHeartbeats 2000000 in
set_option maxRecDepth 100000 in
theorem put_any (p : Nat) (m : Option Nat) (L : List Itm) (hl : L.length ≤ 32) (n i s : Int) (hi : 0 ≤ i ∧ i ≤ 18446744073709551615) (w : World) (hQ : Qu X p m L w) :
    Calls Tryz.prog 32 #[.pointer (some ⟨p, 2, none⟩), .agg #[.int .i64 n, .int .u64 i, .int .i64 s]] w fun e w' => e = .returned (.int .i64 (putE L (n, i, s))) ∧ ∃ m', Qu X p m' (putQ L (n, i, s)) w' ∧ Mv p m m' w w' := by
  have hB := Bx.new 39 n i s w
  have hb0 := below_alloc w (.cells #[.int .i64 n, .int .u64 i, .int .i64 s] 39)
  obtain ⟨E, HE⟩ : ∃ E, Hid (putE L (n, i, s) = E) := ⟨_, rfl⟩
  obtain ⟨N, HN⟩ : ∃ N, Hid (putQ L (n, i, s) = N) := ⟨_, rfl⟩
  rw [HE.out, HN.out]
  go_enter Tryz.func32, Tryz.ntmps32
  obtain ⟨my, HM⟩ : ∃ b, Hid (mayS n s = b) := ⟨_, rfl⟩
  go_wp2_with fail
  refine (may_any _ _ _ _).mono ?_
  rw [HM.out]
  rintro e w1 ⟨rfl, hb1⟩
  have hb1' : Below w.heap.size w w1 := hb0.trans (hb1.mono hb0.size)
  have hB1 := hB.below hb1
  have hQ1 := hQ.below hb1'
  have hmv1 : Mv p m m w w1 := Mv.of hb1'
  clear hB hb0 hb1 hb1' hQ
  generalize w.heap.size = g at *
  cases my
  case false =>
    go_wp2_with fail
    go_ret
    exact ⟨by rw [← HE.out]; simp [putE, HM.out], m, by rw [← HN.out]; simpa [putQ, HM.out] using hQ1, hmv1⟩
  case true =>
    obtain ⟨n0, n1, s0, s1⟩ := mayS_ok HM.out
    have x0 := hB1.c0
    have x1 := hB1.c1
    have x2 := hB1.c2
    have hc := hQ1.c
    have hlt := hB1.lt
    have lk1 := look_any (show Qu X p m L w1.drew from hQ1.keep rfl (fun _ _ => rfl)) n0 n1
    have hz := below_alloc w1 (.cells #[.int .i64 0, .int .u64 0, .int .i64 0, .int .i64 0] 145)
    have lk2 := look_any (show Qu X p m L (w1.alloc (.cells #[.int .i64 0, .int .u64 0, .int .i64 0, .int .i64 0] 145)).drew from (hQ1.below hz).keep rfl (fun _ _ => rfl)) n0 n1
    have hst := stale_eq hQ1.qi (n, i, s)
    simp only at hst
    generalize getQ L n = k at *
    generalize hasQ L n = hs at *
    obtain ⟨k1, k2, k3, k4⟩ := k
    have HST : Hid (staleQ L (n, i, s) = (hs && !newerS i s k2 k3)) := hst
    clear hst hz
    have hc1 := (hQ1.below (below_alloc w1 (.cells #[.int .i64 0, .int .u64 0, .int .i64 0, .int .i64 0] 145))).c
    have hb2 : Below w1.heap.size w1 (w1.alloc (.cells #[.int .i64 k1, .int .u64 k2, .int .i64 k3, .int .i64 k4] 145)).drew := Below.drew' (below_alloc w1 _)
    have hK2 : Bi 145 w1.heap.size (k1, k2, k3, k4) (w1.alloc (.cells #[.int .i64 k1, .int .u64 k2, .int .i64 k3, .int .i64 k4] 145)).drew := ⟨(Bi.new 145 k1 k2 k3 k4 w1).heap⟩
    unfold itmV at lk1 lk2
    simp only at lk1 lk2
    obtain ⟨w2, HW2⟩ : ∃ w2, Hid (w2 = (w1.alloc (.cells #[.int .i64 k1, .int .u64 k2, .int .i64 k3, .int .i64 k4] 145)).drew) := ⟨_, rfl⟩
    rw [← HW2.out] at hb2 hK2
    have hB2 := hB1.below hb2
    have hQ2 := hQ1.below hb2
    have hmv2 := hmv1.be hb2
    go_wp2_with fail
    go_region
    all_goals rw [← HW2.out]
    all_goals clear lk1 lk2 x0 x1 x2 hc hc1 hB1 hQ1 hmv1 hb2
    all_goals generalize w1.heap.size = g1 at *
    all_goals have x0 := hB2.c0
    all_goals have x1 := hB2.c1
    all_goals have x2 := hB2.c2
    all_goals have y0 := hK2.c0
    all_goals have y1 := hK2.c1
    all_goals have y2 := hK2.c2
    all_goals clear HW2
    all_goals simp only at y0 y1 y2
    all_goals have hok : ItmOk (n, i, s, 0) := updI_ok (u := (n, i, s)) HM.out hi
    all_goals have hE0 : staleQ L (n, i, s) = false → Hid (E = 0 ∧ N = (keepQ L (n, i, s, 0)).take 32) := fun e => ⟨by rw [← HE.out]; simp [putE, HM.out, e], by rw [← HN.out]; simp [putQ, HM.out, e, updI]⟩
    all_goals have hE1 : staleQ L (n, i, s) = true → Hid (E = 70 ∧ N = L) := fun e => ⟨by rw [← HE.out]; simp [putE, HM.out, e], by rw [← HN.out]; simp [putQ, HM.out, e]⟩
    all_goals
      cases hs
      case false =>
        have hst := HST.out
        rw [Bool.false_and] at hst
        have hE := hE0 hst
        clear hE0 hE1 hst HST y0 y1 y2
        go_wp2_with fail
        refine (keep_any p m L (n, i, s, 0) hok (Nat.le_trans (keepQ_length _) (by omega)) _ hQ2).mono ?_
        have hll := keepQ_length (L := L) (n, i, s, 0)
        have hpos : 0 < (keepQ L (n, i, s, 0)).length := by unfold keepQ; rw [insQ_length]; omega
        generalize keepQ L (n, i, s, 0) = M at *
        rintro e w4 ⟨rfl, m', hQ4, hmv4⟩
        have hmv5 := hmv2.trans hmv4
        clear hmv2 hmv4 hQ2 hB2 x0 x1 x2
        go_wp2_with fail
        refine (items_any p m' M (by omega) _ hQ4).mono ?_
        rintro e w5 ⟨⟨v, rfl, hR, hv⟩, hb5⟩
        have hQ5 := hQ4.below hb5
        have hmv6 := hmv5.be hb5
        clear hb5 hmv5 hv hQ4
        obtain ⟨a, cap, rfl, h1, h2, h3⟩ := hR
        by_cases hM : M.length = 33
        · obtain ⟨b, rfl⟩ : ∃ b, m' = some b := by
            cases m' with
            | some b => exact ⟨b, rfl⟩
            | none => have := hQ5.none_ rfl; rw [this] at hpos; cases hpos
          have hcap : (33 : Int) ≤ cap := by omega
          obtain ⟨g5, off, rfl, hcell⟩ : ∃ g5 off, a = some ⟨g5, off, none⟩ ∧ w5.cell? ⟨g5, off + 32 * 4, none⟩ = some (.int .i64 (M[32]'(by omega)).1) := by
            rcases h3 with h3 | ⟨g5, off, rfl, h3⟩
            · omega
            · exact ⟨g5, off, rfl, (h3 32 (by omega)).1⟩
          have hlast := less_last hQ5.qi 32 hM
          have hmem := hQ5.qi.ok _ (List.getElem_mem (l := M) (n := 32) (by omega))
          have m0 := hmem.n0
          have m1 := hmem.n1
          clear hmem
          generalize (M[32]'(by omega)).1 = nn at *
          have HL : Hid (lessQ M nn = M.take 32) := hlast
          clear hlast h3 h1
          rw [hM]
          clear hM hll hpos
          have hne := hQ5.ne b rfl
          obtain ⟨w6, hrun, hM6, hg6⟩ := Mo.del (w := w5.drew) ((hQ5.some_ b rfl).keep rfl) hQ5.qi m0 m1 0
          have hmv7 := hmv6.trans (m2 := some b) (w2 := w6) ⟨hg6.os, hg6.tape, hg6.output, hg6.size, fun k hk _ hm => hg6.block k hk hm, Or.inl rfl⟩
          have hQ6 : Qu X p (some b) (M.take 32) w6 := ⟨hQ5.hole, hQ5.qi.take 32, (hg6.block p hQ5.lt (by simpa using Ne.symm hne)).trans hQ5.heap, (fun e => by cases e), (fun b' e => by cases e; rw [← HL.out]; exact hM6)⟩
          have hc := hQ5.c
          clear hM6 hg6 hQ5
          go_wp2_with fail
          go_region
          go_wp2_with fail
          go_ret
          obtain ⟨e1, e2⟩ := hE.out
          exact ⟨by rw [e1]; rfl, _, by rw [e2]; exact hQ6, hmv7⟩
        · have hM' : ¬ (32 < M.length) := by omega
          have hM2 : (M.length : Int) ≤ 32 := by omega
          clear hM
          go_wp2_with fail
          go_ret
          obtain ⟨e1, e2⟩ := hE.out
          exact ⟨by rw [e1]; rfl, _, by rw [e2, List.take_of_length_le (by omega)]; exact hQ5, hmv6⟩
      case true =>
        obtain ⟨nw, HNW⟩ : ∃ b, Hid (newerS i s k2 k3 = b) := ⟨_, rfl⟩
        have hst := HST.out
        rw [HNW.out, Bool.true_and] at hst
        go_wp2_with fail
        refine (newer_any _ _ _ _ _ _ _).mono ?_
        rw [HNW.out]
        rintro e w3 ⟨rfl, hb3⟩
        have hQ3 := hQ2.below hb3
        have hmv3 := hmv2.be hb3
        have hB3 := hB2.below hb3
        clear hQ2 hmv2 hb3 hB2 x0 x1 x2 y0 y1 y2 HST hK2
        have x0 := hB3.c0
        have x1 := hB3.c1
        have x2 := hB3.c2
        cases nw
        case false =>
          have hE := hE1 hst
          clear hE0 hE1 hst
          go_wp2_with fail
          go_ret
          obtain ⟨e1, e2⟩ := hE.out
          exact ⟨by rw [e1]; rfl, _, by rw [e2]; exact hQ3, hmv3⟩
        case true =>
          have hE := hE0 hst
          clear hE0 hE1 hst
          go_wp2_with fail
          refine (keep_any p m L (n, i, s, 0) hok (Nat.le_trans (keepQ_length _) (by omega)) _ hQ3).mono ?_
          have hll := keepQ_length (L := L) (n, i, s, 0)
          have hpos : 0 < (keepQ L (n, i, s, 0)).length := by unfold keepQ; rw [insQ_length]; omega
          generalize keepQ L (n, i, s, 0) = M at *
          rintro e w4 ⟨rfl, m', hQ4, hmv4⟩
          have hmv5 := hmv3.trans hmv4
          clear hmv3 hmv4 hQ3 hB3 x0 x1 x2
          go_wp2_with fail
          refine (items_any p m' M (by omega) _ hQ4).mono ?_
          rintro e w5 ⟨⟨v, rfl, hR, hv⟩, hb5⟩
          have hQ5 := hQ4.below hb5
          have hmv6 := hmv5.be hb5
          clear hb5 hmv5 hv hQ4
          obtain ⟨a, cap, rfl, h1, h2, h3⟩ := hR
          by_cases hM : M.length = 33
          · obtain ⟨b, rfl⟩ : ∃ b, m' = some b := by
              cases m' with
              | some b => exact ⟨b, rfl⟩
              | none => have := hQ5.none_ rfl; rw [this] at hpos; cases hpos
            have hcap : (33 : Int) ≤ cap := by omega
            obtain ⟨g5, off, rfl, hcell⟩ : ∃ g5 off, a = some ⟨g5, off, none⟩ ∧ w5.cell? ⟨g5, off + 32 * 4, none⟩ = some (.int .i64 (M[32]'(by omega)).1) := by
              rcases h3 with h3 | ⟨g5, off, rfl, h3⟩
              · omega
              · exact ⟨g5, off, rfl, (h3 32 (by omega)).1⟩
            have hlast := less_last hQ5.qi 32 hM
            have hmem := hQ5.qi.ok _ (List.getElem_mem (l := M) (n := 32) (by omega))
            have m0 := hmem.n0
            have m1 := hmem.n1
            clear hmem
            generalize (M[32]'(by omega)).1 = nn at *
            have HL : Hid (lessQ M nn = M.take 32) := hlast
            clear hlast h3 h1
            rw [hM]
            clear hM hll hpos
            have hne := hQ5.ne b rfl
            obtain ⟨w6, hrun, hM6, hg6⟩ := Mo.del (w := w5.drew) ((hQ5.some_ b rfl).keep rfl) hQ5.qi m0 m1 0
            have hmv7 := hmv6.trans (m2 := some b) (w2 := w6) ⟨hg6.os, hg6.tape, hg6.output, hg6.size, fun k hk _ hm => hg6.block k hk hm, Or.inl rfl⟩
            have hQ6 : Qu X p (some b) (M.take 32) w6 := ⟨hQ5.hole, hQ5.qi.take 32, (hg6.block p hQ5.lt (by simpa using Ne.symm hne)).trans hQ5.heap, (fun e => by cases e), (fun b' e => by cases e; rw [← HL.out]; exact hM6)⟩
            have hc := hQ5.c
            clear hM6 hg6 hQ5
            go_wp2_with fail
            go_region
            go_wp2_with fail
            go_ret
            obtain ⟨e1, e2⟩ := hE.out
            exact ⟨by rw [e1]; rfl, _, by rw [e2]; exact hQ6, hmv7⟩
          · have hM' : ¬ (32 < M.length) := by omega
            have hM2 : (M.length : Int) ≤ 32 := by omega
            clear hM
            go_wp2_with fail
            go_ret
            obtain ⟨e1, e2⟩ := hE.out
            exact ⟨by rw [e1]; rfl, _, by rw [e2, List.take_of_length_le (by omega)]; exact hQ5, hmv6⟩
variable {X : Value → Array Value}
theorem Ri.take {a : Option Addr} {cap : Nat} {l : List Itm} {w : World} {M : Nat} (hM : l.length = M) (h : Ri (.slice a M cap) l w) (q : Nat) (hq : q ≤ M) : Ri (.slice a q cap) (l.take q) w := by
  subst hM
  obtain ⟨_, _, e, h1, h2, h3⟩ := h
  cases e
  have hl : (l.take q).length = q := by rw [List.length_take]; omega
  refine ⟨_, cap, by rw [hl], by omega, h2, ?_⟩
  rcases h3 with h3 | ⟨g', off', e, h3⟩
  · exact Or.inl (by omega)
  · refine Or.inr ⟨g', off', e, fun j hj => ?_⟩
    rw [List.getElem_take]
    exact h3 j (by omega)
theorem take_min (L : List Itm) (n : Int) : L.take (min (max n 0) (L.length : Int)).toNat = L.take n.toNat := by
  rcases Int.le_total n 0 with h | h
  · rw [show min (max n 0) (L.length : Int) = 0 by omega, show n.toNat = 0 by omega]
    rfl
  · rcases Int.le_total n L.length with h1 | h1
    · rw [show min (max n 0) (L.length : Int) = n by omega]
    · rw [show min (max n 0) (L.length : Int) = L.length by omega, List.take_of_length_le (by omega), List.take_of_length_le (by omega)]
set_option maxHeartbeats 1000000 in
theorem first_any (p : Nat) (m : Option Nat) (L : List Itm) (hl : L.length ≤ 40) (n : Int) (w : World) (hQ : Qu X p m L w) :
    Calls Tryz.prog 189 #[.pointer (some ⟨p, 2, none⟩), .int .i64 n] w fun e w' => (∃ v, e = .returned v ∧ Ri v (L.take n.toNat) w' ∧ ∀ g, v.ownBlock = some g → w.heap.size ≤ g) ∧ Below w.heap.size w w' := by
  rw [← take_min]
  have hk : ∃ k : Nat, min (max n 0) (L.length : Int) = k ∧ k ≤ L.length := ⟨(min (max n 0) (L.length : Int)).toNat, by omega, by omega⟩
  obtain ⟨k, hk, hk1⟩ := hk
  have hi := items_any p m L hl w hQ
  rw [hk, Int.toNat_natCast]
  generalize hN : L.length = N at *
  have HN : Hid (L.length = N) := hN
  clear hN
  go_enter Tryz.func189, Tryz.ntmps189
  go_wp2_with fail
  refine hi.mono ?_
  rintro e w1 ⟨⟨v, rfl, hR, hv⟩, hb⟩
  obtain ⟨a, cap, rfl, h1, h2, h3⟩ := id hR
  have hN := HN.out
  rw [hN] at hR hv h1
  rw [hN]
  clear hN
  have c0 : (k : Int) ≤ cap := by omega
  have c1 : (0 : Int) ≤ k := by omega
  clear h3
  go_wp2_with fail
  go_ret
  exact ⟨⟨_, rfl, hR.take HN.out k hk1, fun g hg => hv g (by cases a with | none => cases hg | some x => exact hg)⟩, hb⟩
variable {X : Value → Array Value}
def updOf (x : Itm) : Upd := ⟨x.1, x.2.1, x.2.2.1⟩
theorem tell_mem {c : Int} {L : List Itm} {x y : Itm} (hy : y ∈ L) (hne : y.1 ≠ x.1) : y ∈ tellQ c L x := by
  unfold tellQ
  split
  · exact (insQ_mem _ _ _).2 (Or.inr ((lessQ_mem _ _ _).2 ⟨hy, hne⟩))
  · exact (lessQ_mem _ _ _).2 ⟨hy, hne⟩
theorem tell_length {c : Int} {L : List Itm} (h : Qi L) {x : Itm} (hx : x ∈ L) : (tellQ c L x).length ≤ L.length := by
  unfold tellQ
  split
  · exact Nat.le_of_eq (keepQ_length_same h _ ⟨x, hx, rfl⟩)
  · exact lessQ_length_le _ _
theorem tells_length {c : Int} (hc : c ≤ 192) (l : List Itm) : ∀ {L : List Itm}, Qi L → (∀ x ∈ l, x ∈ L) → l.Pairwise (fun x y => x.1 ≠ y.1) → (l.foldl (tellQ c) L).length ≤ L.length := by
  induction l with
  | nil => intro L _ _ _; exact Nat.le_refl _
  | cons x r ih =>
    intro L h hx hp
    rw [List.pairwise_cons] at hp
    have h1 := tell_length (c := c) h (hx x List.mem_cons_self)
    have h2 := ih (h.tell hc (h.ok x (hx x List.mem_cons_self))) (fun y hy => tell_mem (hx y (List.mem_cons_of_mem _ hy)) (Ne.symm (hp.1 y hy))) hp.2
    exact Nat.le_trans h2 h1
theorem Own.ne_map {B : Nat} {v : Value} {l : List Upd} {w : World} (h : Own B v l w) {b : Nat} {L : List Itm} (hM : Mo b L w) : v.ownBlock ≠ some b := by
  intro e
  rcases h.2 with ⟨rfl, _⟩ | ⟨g, cap, cur, rfl, hb, hg, _⟩
  · cases e
  · obtain ⟨D, ⟨es, clock, h1, _⟩, _⟩ := hM
    have : g = b := by simpa [Value.ownBlock] using e
    subst this
    rw [hg] at h1
    cases h1
theorem Own.mono {B C : Nat} {v : Value} {l : List Upd} {w : World} (h : Own C v l w) (hB : B ≤ C) : Own B v l w := by
  refine ⟨h.1, ?_⟩
  rcases h.2 with hn | ⟨g, cap, cur, e, hb, rest⟩
  · exact Or.inl hn
  · exact Or.inr ⟨g, cap, cur, e, Nat.le_trans hB hb, rest⟩
set_option maxRecDepth 100000 in
set_option maxHeartbeats 2000000 in
theorem take_some (p b : Nat) (L : List Itm) (hl : L.length ≤ 32) (n nodes : Int) (hn : -9223372036854775808 ≤ nodes ∧ nodes ≤ 9223372036854775807) (w : World) (hQ : Qu X p (some b) L w) :
    Calls Tryz.prog 156 #[.pointer (some ⟨p, 2, none⟩), .int .i64 n, .int .i64 nodes] w fun e w' => (∃ v, e = .returned v ∧ Own w.heap.size v ((L.take n.toNat).map updOf) w') ∧ Qu X p (some b) (takeQ L n (capS nodes)) w' ∧ Mv p (some b) (some b) w w' := by
  have hcap := fun w => cap_any nodes w hn
  have hcr := cap_range nodes hn.2
  have hfi := first_any p (some b) L (by omega) n w hQ
  have hL := hQ.qi
  have hls : ∀ x ∈ L.take n.toNat, x ∈ L := fun x hx => List.mem_of_mem_take hx
  have hln : (L.take n.toNat).Pairwise (fun x y => x.1 ≠ y.1) := hL.nodes.take
  have hll : (L.take n.toNat).length ≤ 32 := by rw [List.length_take]; omega
  unfold takeQ
  generalize capS nodes = c at *
  generalize L.take n.toNat = l at *
  have hfold : ∀ k, Qi ((l.take k).foldl (tellQ c) L) ∧ ((l.take k).foldl (tellQ c) L).length ≤ 32 := fun k =>
    ⟨Qi.tells hcr.2 _ hL (fun x hx => hL.ok x (hls x (List.mem_of_mem_take hx))), Nat.le_trans (tells_length hcr.2 _ hL (fun x hx => hls x (List.mem_of_mem_take hx)) hln.take) hl⟩
  have hstep : ∀ k (hk : k < l.length), (l.take (k + 1)).foldl (tellQ c) L = tellQ c ((l.take k).foldl (tellQ c) L) l[k] := fun k hk => by
    rw [← List.take_append_getElem hk, List.foldl_append]
    rfl
  have hall : (l.take l.length).foldl (tellQ c) L = l.foldl (tellQ c) L := by rw [List.take_length]
  have hok : ∀ k (hk : k < l.length), ItmOk l[k] := fun k hk => hL.ok _ (hls _ (List.getElem_mem hk))
  have hmap : ∀ k (hk : k < l.length), (l.take (k + 1)).map updOf = (l.take k).map updOf ++ [updOf l[k]] := fun k hk => by
    rw [← List.take_append_getElem hk, List.map_append]
    rfl
  have hmall : (l.take l.length).map updOf = l.map updOf := by rw [List.take_length]
  generalize hR0 : l.foldl (tellQ c) L = LR at *
  have HALL : Hid ((l.take l.length).foldl (tellQ c) L = LR) := hall
  have HMALL : Hid ((l.take l.length).map updOf = l.map updOf) := hmall
  clear hR0 hall hmall hls hln
  generalize l.map updOf = UR at *
  obtain ⟨c0, c1⟩ := hcr
  go_enter Tryz.func156, Tryz.ntmps156
  go_wp2_with fail
  refine (hcap _).mono ?_
  rintro e w ⟨rfl, rfl⟩
  go_wp2_with fail
  refine hfi.mono ?_
  rintro e wF ⟨⟨v, rfl, hR, hv⟩, hbF⟩
  have hQF := hQ.below hbF
  have hpb := hQ.lt
  have hbb := hQ.mlt b rfl
  clear hfi hcap hQ
  obtain ⟨a, cap, rfl, h1, h2, h3⟩ := id hR
  obtain ⟨N, HN⟩ : ∃ N, Hid (l.length = N) := ⟨_, rfl⟩
  have hNl : N ≤ 32 := by rw [← HN.out]; exact hll
  rw [HN.out]
  clear hR hll
  go_wp2_with fail
  go_loopg [8, 17] N (fun gk t8 t17 wr => ∃ k : Nat, k + gk = N ∧ t17 = .int .i64 k ∧ Own wF.heap.size t8 ((l.take k).map updOf) wr ∧ Qu X p (some b) ((l.take k).foldl (tellQ c) L) wr ∧ Mv p (some b) (some b) wF wr)
  case atStart => exact ⟨0, by omega, rfl, Own.nil _ _, hQF, Mv.refl _ _ _⟩
  case round =>
    obtain ⟨k, hk, rfl, hO, hQk, hmv⟩ := hrel
    by_cases hlt : k < N
    · have hkl : k < l.length := by rw [HN.out]; exact hlt
      obtain ⟨g1, off, rfl, hg1, hg2, d0, d1, d2, d3⟩ : ∃ g1 off, a = some ⟨g1, off, none⟩ ∧ w.heap.size ≤ g1 ∧ g1 < wF.heap.size ∧ wF.cell? ⟨g1, off + k * 4, none⟩ = some (.int .i64 l[k].1) ∧ wF.cell? ⟨g1, off + k * 4 + 1, none⟩ = some (.int .u64 l[k].2.1) ∧ wF.cell? ⟨g1, off + k * 4 + 2, none⟩ = some (.int .i64 l[k].2.2.1) ∧ wF.cell? ⟨g1, off + k * 4 + 3, none⟩ = some (.int .i64 l[k].2.2.2) := by
        rcases h3 with h3 | ⟨g1, off, rfl, h3⟩
        · omega
        · obtain ⟨d0, d1, d2, d3⟩ := h3 k hkl
          exact ⟨g1, off, rfl, hv g1 rfl, World.block_lt_of_cell? _ _ d0, d0, d1, d2, d3⟩
      have hsame := hmv.block g1 hg2 (by omega) (by simp; omega)
      have d0 := (World.cell?_of_block (w := wF) hsame).trans d0
      have d1 := (World.cell?_of_block (w := wF) hsame).trans d1
      have d2 := (World.cell?_of_block (w := wF) hsame).trans d2
      have d3 := (World.cell?_of_block (w := wF) hsame).trans d3
      have hxk := hok k hkl
      have HS : Hid ((l.take (k + 1)).foldl (tellQ c) L = tellQ c ((l.take k).foldl (tellQ c) L) l[k]) := hstep k hkl
      have HU : Hid ((l.take (k + 1)).map updOf = (l.take k).map updOf ++ [updOf l[k]]) := hmap k hkl
      obtain ⟨hqi, hqn⟩ := hfold k
      have hul : ((l.take k).map updOf).length ≤ 32 := by rw [List.length_map, List.length_take]; omega
      generalize l[k] = x at *
      generalize (l.take k).foldl (tellQ c) L = M at *
      generalize (l.take k).map updOf = U at *
      obtain ⟨x1, x2, x3, x4⟩ := x
      simp only at d0 d1 d2 d3
      have t0 := hxk.t0
      have t1 := hxk.t1
      simp only at t0 t1
      have k0 : (0 : Int) ≤ k := by omega
      have k1 : (k : Int) < N := by omega
      have ba := below_alloc wr (.cells #[.int .i64 x1, .int .u64 x2, .int .i64 x3, .int .i64 x4] 145)
      have hb1 := Bi.new 145 x1 x2 x3 x4 wr
      obtain ⟨W1, HW1⟩ : ∃ W1, Hid (W1 = wr.alloc (.cells #[.int .i64 x1, .int .u64 x2, .int .i64 x3, .int .i64 x4] 145)) := ⟨_, rfl⟩
      rw [← HW1.out] at ba hb1
      have hO1 := hO.below ba
      have hQ1 := hQk.below ba
      have hmv1 := hmv.be ba
      have bc := below_alloc W1 (.cells #[.int .i64 x1, .int .u64 x2, .int .i64 x3] 39)
      have hO2 := hO1.below bc
      have hQ2 := hQ1.below bc
      have hmv2 := hmv1.be bc
      have hb2 := hb1.below bc
      have hY := Ru.one (u := ⟨x1, x2, x3⟩) (Bx.new 39 x1 x2 x3 W1)
      have hz2 : wF.heap.size ≤ (W1.alloc (.cells #[.int .i64 x1, .int .u64 x2, .int .i64 x3] 39)).heap.size := hmv2.size
      have e0 := hb1.c0
      have e1 := hb1.c1
      have e2 := hb1.c2
      have hnm := Own.ne_map hO2 (hQ2.some_ b rfl)
      have hgn : wr.heap.size < W1.heap.size := hb1.lt
      have hOlt := hO.lt
      have hgz : wF.heap.size ≤ wr.heap.size := hmv.size
      have hzF := hbF.size
      clear hb1 hO hQk hmv hO1 hQ1 hmv1 ba bc hok hstep hmap hfold h3 hv hsame
      go_upto_region 6 with fail
      rw [← HW1.out]
      generalize hgg : wr.heap.size = g at *
      go_upto_region 7 with (at_builtin; refine wpList_app _ rfl (.tmp 21) (.tmp 24) rfl wF.heap.size _ U rfl hO2 hz2 W1.heap.size 0 1 [⟨x1, x2, x3⟩] 1 rfl rfl hY (by simp; omega) ?_; intro v' w3 h1 h3 h4)
      have hQ3 : Qu X p (some b) M w3 := hQ2.keep (h3.block p hQ2.lt (fun e => by have := (hOlt p e.symm).1; omega)) (fun b' e => by cases e; exact h3.block b (hQ2.mlt b rfl) (Ne.symm hnm))
      have hb3 : Bi 145 g (x1, x2, x3, x4) w3 := hb2.keep (h3.block g hb2.lt (fun e => by have := (hOlt g e.symm).2; omega))
      have hmv3 : Mv p (some b) (some b) wF w3 := ⟨h3.os.trans hmv2.os, h3.tape.trans hmv2.tape, h3.output.trans hmv2.output, Nat.le_trans hmv2.size h3.size, fun q hq hp hm => (h3.block q (by omega) (fun e => by have := (hOlt q e.symm).1; omega)).trans (hmv2.block q hq hp hm), Or.inl rfl⟩
      have hvg : v'.ownBlock ≠ some g := by
        rcases h4 with e | e
        · rw [e]; intro e'; have := (hOlt g e').2; omega
        · rw [e]; simp; omega
      obtain ⟨w4, HW4⟩ : ∃ w4, Hid (w4 = w3.setCell ⟨g, 3, none⟩ (.int .i64 (x4 + 1))) := ⟨_, rfl⟩
      have h4o : ∀ q, q ≠ g → w4.heap[q]? = w3.heap[q]? := fun q hq => by rw [HW4.out]; exact Below.heap_setCell _ _ _ _ (by simpa using hq)
      have hb4 : Bi 145 g (x1, x2, x3, x4 + 1) w4 := ⟨by rw [HW4.out]; simp [World.setCell, Array.getElem?_modify, hb3.heap]⟩
      have hO4 : Own wF.heap.size v' (U ++ [⟨x1, x2, x3⟩]) w4 := h1.keep fun q hq _ => h4o q (fun e => hvg (by rw [hq, e]))
      have hQ4 : Qu X p (some b) M w4 := hQ3.keep (h4o p (by omega)) (fun b' e => by cases e; exact h4o b (by omega))
      have hz4 : w4.heap.size = w3.heap.size := by rw [HW4.out]; simp [World.setCell]
      have hmv4 : Mv p (some b) (some b) wF w4 := ⟨by rw [HW4.out]; exact hmv3.os, by rw [HW4.out]; exact hmv3.tape, by rw [HW4.out]; exact hmv3.output, by rw [hz4]; exact hmv3.size, fun q hq hp hm => (h4o q (by omega)).trans (hmv3.block q hq hp hm), Or.inl rfl⟩
      have f3 := hb3.c3
      have f4 := hb3.free 3
      simp only at f3
      clear h3 h4 hQ2 hb2 hmv2 hQ3 hmv3 h1 hO2 hnm hb3 hY
      go_upto_region 8 with fail
      rw [← HW4.out]
      clear f3 f4 h4o HW4 hgg e0 e1 e2 d0 d1 d2 d3
      have y0 := hb4.c0
      have y1 := hb4.c1
      have y2 := hb4.c2
      have y3 := hb4.c3
      simp only at y0 y1 y2 y3
      have hvb := Own.ne_map hO4 (hQ4.some_ b rfl)
      by_cases hct : c ≤ x4 + 1
      · have HT : Hid (tellQ c M (x1, x2, x3, x4) = lessQ M x1) := by unfold tellQ; rw [if_neg (by simp; omega)]; rfl
        obtain ⟨w6, hrun, hM6, hg6⟩ := Mo.del (w := w4.drew) ((hQ4.some_ b rfl).keep rfl) hQ4.qi hxk.n0 hxk.n1 0
        have hmv7 := hmv4.trans (m2 := some b) (w2 := w6) ⟨hg6.os, hg6.tape, hg6.output, hg6.size, fun k hk _ hm => hg6.block k hk hm, Or.inl rfl⟩
        have hQ6 : Qu X p (some b) (lessQ M x1) w6 := ⟨hQ4.hole, hQ4.qi.less _, (hg6.block p hQ4.lt (by simpa using Ne.symm (hQ4.ne b rfl))).trans hQ4.heap, (fun e => by cases e), (fun b' e => by cases e; exact hM6)⟩
        have hO6 : Own wF.heap.size v' (U ++ [⟨x1, x2, x3⟩]) w6 := hO4.keep fun q hq hlt => hg6.block q hlt (fun e => hvb (by rw [hq, e]))
        have hc := hQ4.c
        simp only at hrun
        clear hM6 hg6 hQ4 hmv4 hO4 hb4
        go_wp2_with fail
        go_region
        go_wp2_with fail
        go_roundg (gk - 1)
        case rel => exact ⟨k + 1, by omega, by go_num, by rw [HU.out]; exact hO6, by rw [HS.out, HT.out]; exact hQ6, hmv7⟩
        case measure => omega
      · have HT : Hid (tellQ c M (x1, x2, x3, x4) = keepQ M (x1, x2, x3, x4 + 1)) := by unfold tellQ; rw [if_pos (by simp; omega)]; exact rfl
        have hok' : ItmOk (x1, x2, x3, x4 + 1) := ⟨hxk.n0, hxk.n1, hxk.i0, hxk.i1, hxk.s0, hxk.s1, by simp; omega, by simp; omega⟩
        have hkp := keep_some p b M (x1, x2, x3, x4 + 1) hok' (Nat.le_trans (keepQ_length _) (by omega)) w4 hQ4
        unfold itmV at hkp
        simp only at hkp
        have hp4 := hQ4.lt
        clear hQ4 hb4
        go_wp2_with fail
        refine hkp.mono ?_
        rintro e w6 ⟨rfl, hQ6, hmv6⟩
        have hO6 : Own wF.heap.size v' (U ++ [⟨x1, x2, x3⟩]) w6 := hO4.keep fun q hq hlt => hmv6.block q hlt (fun e => by have := (hO4.lt q hq).1; omega) (fun e => hvb (by rw [hq, e]))
        have hmv7 := hmv4.trans hmv6
        clear hmv6 hmv4 hO4 hkp
        go_wp2_with fail
        go_roundg (gk - 1)
        case rel => exact ⟨k + 1, by omega, by go_num, by rw [HU.out]; exact hO6, by rw [HS.out, HT.out]; exact hQ6, hmv7⟩
        case measure => omega
    · obtain rfl : k = N := by omega
      have hlt' : ¬ ((k : Int) < (k : Int)) := by omega
      go_wp2_with fail
      go_ret
      have hN := HN.out
      refine ⟨⟨_, rfl, ?_⟩, ?_, Mv.eb hbF hmv⟩
      · have := HMALL.out
        rw [hN] at this
        rw [← this]; exact Own.mono hO hbF.size
      · have := HALL.out
        rw [hN] at this
        rw [← this]; exact hQk
set_option maxRecDepth 100000 in
set_option maxHeartbeats 1000000 in
theorem take_none (p : Nat) (n nodes : Int) (hn : -9223372036854775808 ≤ nodes ∧ nodes ≤ 9223372036854775807) (w : World) (hQ : Qu X p none [] w) :
    Calls Tryz.prog 156 #[.pointer (some ⟨p, 2, none⟩), .int .i64 n, .int .i64 nodes] w fun e w' => e = .returned (.slice none 0 0) ∧ Below w.heap.size w w' := by
  have hcap := fun w => cap_any nodes w hn
  have hfi := first_any p none [] (by simp) n w hQ
  rw [List.take_nil] at hfi
  generalize capS nodes = c at *
  go_enter Tryz.func156, Tryz.ntmps156
  go_wp2_with fail
  refine (hcap _).mono ?_
  rintro e w ⟨rfl, rfl⟩
  go_wp2_with fail
  refine hfi.mono ?_
  rintro e wF ⟨⟨v, rfl, hR, hv⟩, hbF⟩
  obtain ⟨a, cap, rfl, h1, h2, h3⟩ := id hR
  clear hR hfi hcap h3 hv hQ
  simp only [List.length_nil] at *
  go_wp2_with fail
  refine wp_loop_rounds 1 ?_
  rw [rounds_succ]
  go_wp2_with fail
  go_ret
  exact ⟨rfl, hbF⟩
theorem take_any (p : Nat) (m : Option Nat) (L : List Itm) (hl : L.length ≤ 32) (n nodes : Int) (hn : -9223372036854775808 ≤ nodes ∧ nodes ≤ 9223372036854775807) (w : World) (hQ : Qu X p m L w) :
    Calls Tryz.prog 156 #[.pointer (some ⟨p, 2, none⟩), .int .i64 n, .int .i64 nodes] w fun e w' => (∃ v, e = .returned v ∧ Own w.heap.size v ((L.take n.toNat).map updOf) w') ∧ Qu X p m (takeQ L n (capS nodes)) w' ∧ Mv p m m w w' := by
  cases m with
  | none =>
    obtain rfl := hQ.none_ rfl
    refine (take_none p n nodes hn w hQ).mono ?_
    rintro e w' ⟨rfl, hb⟩
    refine ⟨⟨_, rfl, ?_⟩, ?_, Mv.of hb⟩
    · rw [List.take_nil]; exact Own.nil _ _
    · unfold takeQ
      rw [List.take_nil]
      exact hQ.below hb
  | some b => exact take_some p b L hl n nodes hn w hQ
theorem takeQ_length {L : List Itm} (h : Qi L) (n : Int) {c : Int} (hc : c ≤ 192) : (takeQ L n c).length ≤ L.length :=
  tells_length hc _ h (fun _ hx => List.mem_of_mem_take hx) h.nodes.take
theorem Ri.at_ {a : Option Addr} {len cap : Nat} {l : List Itm} {w : World} (h : Ri (.slice a len cap) l w) {j : Nat} (hj : j < l.length) : ∃ g off, a = some ⟨g, off, none⟩ ∧ w.cell? ⟨g, off + j * 4, none⟩ = some (.int .i64 l[j].1) ∧ w.cell? ⟨g, off + j * 4 + 1, none⟩ = some (.int .u64 l[j].2.1) ∧ w.cell? ⟨g, off + j * 4 + 2, none⟩ = some (.int .i64 l[j].2.2.1) ∧ w.cell? ⟨g, off + j * 4 + 3, none⟩ = some (.int .i64 l[j].2.2.2) := by
  obtain ⟨_, _, e, _, _, h3⟩ := h
  cases e
  rcases h3 with h3 | ⟨g, off, rfl, h3⟩
  · omega
  · exact ⟨g, off, rfl, h3 j hj⟩
theorem Ri.len {v : Value} {l : List Itm} {w : World} (h : Ri v l w) : ∃ a cap, v = .slice a l.length cap := by
  obtain ⟨a, cap, e, _⟩ := h
  exact ⟨a, cap, e⟩
set_option maxHeartbeats 1000000 in
theorem ahead_any (x y : Itm) (w : World) : Calls Tryz.prog 120 #[itmV x, itmV y] w fun e w' => e = .returned (.bool (ltI x y)) ∧ Below w.heap.size w w' := by
  obtain ⟨x1, x2, x3, x4⟩ := x
  obtain ⟨y1, y2, y3, y4⟩ := y
  unfold itmV ltI
  simp only
  cases h1 : decide (x4 < y4)
  case true =>
    go_enter Tryz.func120, Tryz.ntmps120
    go_wp2_with fail
    go_ret
    exact ⟨rfl, ((Below.refl _ _).alloc (Nat.le_refl _) _).alloc (by simp) _⟩
  case false =>
    cases h2 : (x4 == y4)
    case false =>
      go_enter Tryz.func120, Tryz.ntmps120
      go_wp2_with fail
      go_ret
      exact ⟨rfl, ((Below.refl _ _).alloc (Nat.le_refl _) _).alloc (by simp) _⟩
    case true =>
      cases h3 : decide (x1 < y1)
      all_goals go_enter Tryz.func120, Tryz.ntmps120
      all_goals go_wp2_with fail
      all_goals go_ret
      all_goals exact ⟨rfl, ((Below.refl _ _).alloc (Nat.le_refl _) _).alloc (by simp) _⟩
structure But (B r : Nat) (w w' : World) : Prop where
  os : w'.os = w.os
  tape : w'.tape = w.tape
  output : w'.output = w.output
  size : w.heap.size ≤ w'.heap.size
  block : ∀ k, k < B → k ≠ r → w'.heap[k]? = w.heap[k]?
section
variable {B C r : Nat} {a w w' : World}
theorem But.of (h : Below B w w') : But B r w w' := ⟨h.os, h.tape, h.output, h.size, fun k hk _ => h.block k hk⟩
theorem But.setCell (h : But B r a w) (u : Value) : But B r a (w.setCell ⟨r, 0, none⟩ u) :=
  ⟨h.os, h.tape, h.output, by simpa [World.setCell] using h.size, fun k hk hp => (Below.heap_setCell _ _ _ _ (by simpa using hp)).trans (h.block k hk hp)⟩
theorem But.trans (h : But B r a w) (k : But B r w w') : But B r a w' :=
  ⟨k.os.trans h.os, k.tape.trans h.tape, k.output.trans h.output, Nat.le_trans h.size k.size, fun i hi hp => (k.block i hi hp).trans (h.block i hi hp)⟩
theorem But.mono (h : But C r w w') (hB : B ≤ C) : But B r w w' := ⟨h.os, h.tape, h.output, h.size, fun i hi hp => h.block i (by omega) hp⟩
theorem But.drew (h : But B r a w) : But B r a w.drew := ⟨h.os, h.tape, h.output, h.size, fun i hi hp => h.block i hi hp⟩
end
structure Rq (G : Nat → Prop) (r : Nat) (L : List Itm) (w : World) : Prop where
  lt_ : ¬ G r
  is : ∃ a cap, w.heap[r]? = some (.cells #[.slice a L.length cap] 100 (0, 0)) ∧ Ri (.slice a L.length cap) L w ∧ (∀ g, (Value.slice a L.length cap).ownBlock = some g → G g ∧ ∃ cur, w.heap[g]? = some (.cells cur 153 (0, 0))) ∧ (a = none ∨ ∃ g off, a = some ⟨g, off, none⟩)
section
variable {G : Nat → Prop} {r : Nat} {L : List Itm} {w w' : World}
theorem Rq.lt (h : Rq G r L w) : r < w.heap.size := by
  obtain ⟨a, cap, h1, _⟩ := h.is
  exact (Array.getElem?_eq_some_iff.1 h1).1
theorem Ri.keep2 {v : Value} {l : List Itm} (h : Ri v l w) (hw : ∀ g off x, v.ownBlock = some g → w.cell? ⟨g, off, none⟩ = some x → w'.heap[g]? = w.heap[g]?) : Ri v l w' := by
  obtain ⟨a, cap, rfl, h1, h2, h3⟩ := h
  refine ⟨a, cap, rfl, h1, h2, ?_⟩
  rcases h3 with h3 | ⟨g, off, rfl, h3⟩
  · exact Or.inl h3
  · refine Or.inr ⟨g, off, rfl, fun j hj => ?_⟩
    obtain ⟨c0, c1, c2, c3⟩ := h3 j hj
    have e := hw g _ _ rfl c0
    exact ⟨(World.cell?_of_block (w := w) e).trans c0, (World.cell?_of_block (w := w) e).trans c1, (World.cell?_of_block (w := w) e).trans c2, (World.cell?_of_block (w := w) e).trans c3⟩
theorem Rq.keep (h : Rq G r L w) (e : w'.heap[r]? = w.heap[r]?) (hw : ∀ g cur, G g → w.heap[g]? = some (.cells cur 153 (0, 0)) → w'.heap[g]? = w.heap[g]?) : Rq G r L w' := by
  obtain ⟨a, cap, h1, h2, h3, h4⟩ := h.is
  refine ⟨h.lt_, a, cap, e.trans h1, h2.keep2 fun g off x hg _ => ?_, fun g hg => ?_, h4⟩
  · obtain ⟨k1, cur, k2⟩ := h3 g hg
    exact hw g cur k1 k2
  · obtain ⟨k1, cur, k2⟩ := h3 g hg
    exact ⟨k1, cur, (hw g cur k1 k2).trans k2⟩
theorem Rq.below (h : Rq G r L w) (k : Below w.heap.size w w') : Rq G r L w' := h.keep (k.block r h.lt) fun g _ _ hc => k.block g (Array.getElem?_eq_some_iff.1 hc).1
theorem Rq.set (hr : ¬ G r) {v : Value} {M : List Itm} {C : Nat} (hO : OwI 153 C v M w) (hC : ∀ g, C ≤ g → G g) (hh : ∃ u, w.heap[r]? = some (.cells #[u] 100 (0, 0))) : Rq G r M (w.setCell ⟨r, 0, none⟩ v) := by
  have hlt := hO.lt
  have had : ∀ a n cap, v = .slice a n cap → (a = none ∨ ∃ g off, a = some ⟨g, off, none⟩) := by
    intro a n cap e
    rcases hO.2 with ⟨e', _⟩ | ⟨g, c, cur, e', _⟩
    · rw [e'] at e; cases e; exact Or.inl rfl
    · rw [e'] at e; cases e; exact Or.inr ⟨_, _, rfl⟩
  have hty : ∀ g, v.ownBlock = some g → ∃ cur, w.heap[g]? = some (.cells cur 153 (0, 0)) := by
    intro g hg
    rcases hO.2 with ⟨e', _⟩ | ⟨g', c, cur, e', _, hh, _⟩
    · rw [e'] at hg; cases hg
    · rw [e'] at hg; cases hg; exact ⟨cur, hh⟩
  have hty2 : ∀ g, v.ownBlock = some g → ∃ cur, (w.setCell ⟨r, 0, none⟩ v).heap[g]? = some (.cells cur 153 (0, 0)) := fun g hg => by
    obtain ⟨cur, k⟩ := hty g hg
    exact ⟨cur, (Below.heap_setCell _ _ _ _ (show g ≠ r from fun e => hr (e ▸ hC g (hlt g hg).1))).trans k⟩
  obtain ⟨a, cap, rfl, h1, h2, h3⟩ := hO.ri
  obtain ⟨u, hh⟩ := hh
  refine ⟨hr, a, cap, ?_, Ri.keep2 (w := w) ⟨a, cap, rfl, h1, h2, h3⟩ (fun g off x hg _ => Below.heap_setCell _ _ _ _ (show g ≠ r from fun e => hr (e ▸ hC g (hlt g hg).1))), fun g hg => ⟨hC g (hlt g hg).1, hty2 g hg⟩, had _ _ _ rfl⟩
  simp [World.setCell, Array.getElem?_modify, hh]
theorem Rq.cells (h : Rq G r L w) : ∃ a cap, w.cell? ⟨r, 0, none⟩ = some (.slice a L.length cap) ∧ w.frozen? ⟨r, 0, none⟩ = false ∧ L.length ≤ cap ∧ Ri (.slice a L.length cap) L w ∧ (∀ g, (Value.slice a L.length cap).ownBlock = some g → G g) := by
  obtain ⟨a, cap, h1, h2, h3, _⟩ := h.is
  refine ⟨a, cap, by simp [World.cell?, h1], by simp [World.frozen?, h1], ?_, h2, fun g hg => (h3 g hg).1⟩
  obtain ⟨_, _, e, h4, _⟩ := h2
  cases e
  exact h4
theorem Rq.ad (h : Rq G r L w) : ∀ a n cap, w.cell? ⟨r, 0, none⟩ = some (.slice a n cap) → (a = none ∨ ∃ g off, a = some ⟨g, off, none⟩) := by
  obtain ⟨a, cap, h1, _, _, h4⟩ := h.is
  intro a' n cap' e
  simp [World.cell?, h1] at e
  rw [← e.1]
  exact h4
theorem Rq.one (h : Rq G r L w) : ∃ u, w.heap[r]? = some (.cells #[u] 100 (0, 0)) := by
  obtain ⟨a, cap, h1, _⟩ := h.is
  exact ⟨_, h1⟩
end
theorem lessQ_snoc (l : List Itm) (y : Itm) (n : Int) : lessQ (l ++ [y]) n = if y.1 != n then lessQ l n ++ [y] else lessQ l n := by
  unfold lessQ
  rw [List.filter_append]
  by_cases h : (y.1 != n) = true
  · rw [if_pos h]; simp [h]
  · rw [if_neg h]; simp [h]
set_option maxHeartbeats 2000000 in
set_option maxRecDepth 100000 in
theorem less_any (G : Nat → Prop) (r : Nat) (L : List Itm) (hL : L.length ≤ 40) (n : Int) (w : World) (hR : Rq G r L w) (hB : ∀ g, w.heap.size ≤ g → G g) :
    Calls Tryz.prog 74 #[.pointer (some ⟨r, 0, none⟩), .int .i64 n] w fun e w' => e = .returned (.tuple #[]) ∧ Rq G r (lessQ L n) w' ∧ But w.heap.size r w w' := by
  obtain ⟨a, cap, hc, hf, hcap, hRi, hown⟩ := hR.cells
  have ba := below_alloc w (.cells #[] 153)
  have hE := OwI.empty (B := w.heap.size) (heap_alloc_new w (.cells #[] 153)) (Nat.le_refl _)
  have hu := hR.one
  have hrz := hR.lt
  obtain ⟨N, HN⟩ : ∃ N, Hid (L.length = N) := ⟨_, rfl⟩
  have hc' := hc
  rw [HN.out] at hc'
  have HALL : Hid (L.take N = L) := by rw [← HN.out, List.take_length]; exact rfl
  have hr0 := hR.lt_
  clear hR hc
  obtain ⟨M, HM⟩ : ∃ M, Hid (lessQ L n = M) := ⟨_, rfl⟩
  rw [HM.out]
  have hNc : (N : Int) ≤ cap := by rw [← HN.out]; omega
  have hNl : N ≤ 40 := by rw [← HN.out]; exact hL
  go_enter Tryz.func74, Tryz.ntmps74
  go_wp2_with fail
  go_loopg [4, 5] N (fun gk t4 t5 wr => ∃ k : Nat, k + gk = N ∧ t5 = .int .i64 k ∧ OwI 153 w.heap.size t4 (lessQ (L.take k) n) wr ∧ Below w.heap.size w wr)
  case atStart => exact ⟨0, by omega, rfl, hE, ba⟩
  case round =>
    obtain ⟨k, hk, rfl, hO, hBk⟩ := hrel
    have c1 := (World.cell?_of_block (w := w) (hBk.block r hrz)).trans hc'
    have hz := hBk.size
    by_cases hlt : (k : Int) < N
    · have hkl : k < L.length := by rw [HN.out]; omega
      obtain ⟨g, off, rfl, d0, d1, d2, d3⟩ := hRi.at_ hkl
      have hg : g < w.heap.size := World.block_lt_of_cell? _ _ d0
      have eb := hBk.block g hg
      have d0 := (World.cell?_of_block (w := w) eb).trans d0
      have d1 := (World.cell?_of_block (w := w) eb).trans d1
      have d2 := (World.cell?_of_block (w := w) eb).trans d2
      have d3 := (World.cell?_of_block (w := w) eb).trans d3
      have HS : Hid (lessQ (L.take (k + 1)) n = if L[k].1 != n then lessQ (L.take k) n ++ [L[k]] else lessQ (L.take k) n) := by
        rw [← List.take_append_getElem hkl, lessQ_snoc]
        exact rfl
      have hll : (lessQ (L.take k) n).length ≤ 40 := Nat.le_trans (lessQ_length_le _ _) (by rw [List.length_take]; omega)
      generalize L[k] = x at *
      generalize lessQ (L.take k) n = P at *
      obtain ⟨x1, x2, x3, x4⟩ := x
      simp only at d0 d1 d2 d3 HS
      have k0 : (0 : Int) ≤ k := by omega
      cases hx : (x1 != n)
      case false =>
        rw [hx] at HS
        simp only [Bool.false_eq_true, if_false] at HS
        go_wp2_with fail
        go_roundg (gk - 1)
        case rel => exact ⟨k + 1, by omega, by go_num, by rw [HS.out]; exact hO, hBk⟩
        case measure => omega
      case true =>
        rw [hx] at HS
        simp only [if_true] at HS
        have bc := below_alloc wr (.cells #[.int .i64 x1, .int .u64 x2, .int .i64 x3, .int .i64 x4] 153)
        have hB4 := hBk.trans (bc.mono hz)
        have hO4 := hO.below bc
        have hY := Ri.one (Bi.new 153 x1 x2 x3 x4 wr)
        have hz4 := hB4.size
        clear bc
        go_wp2_with (at_builtin; refine wpList_appI Tryz.underlying98 Tryz.infoJ _ rfl (.tmp 27) (.tmp 35) rfl w.heap.size _ P rfl hO4 hz4 wr.heap.size 0 1 [(x1, x2, x3, x4)] 1 rfl rfl hY (by simp; omega) ?_; intro v' w' h1 h3 h4)
        have hB5 : Below w.heap.size w w' := hB4.trans ⟨h3.os, h3.tape, h3.output, h3.size, fun q hq => h3.block q (by omega) (fun e => by have := (hO4.lt q e.symm).1; omega)⟩
        clear h3 h4 hY
        go_wp2_with fail
        go_roundg (gk - 1)
        case rel => exact ⟨k + 1, by omega, by go_num, by rw [HS.out]; exact h1, hB5⟩
        case measure => omega
    · obtain rfl : k = N := by omega
      rw [HALL.out, HM.out] at hO
      have f1 : wr.frozen? ⟨r, 0, none⟩ = false := by
        obtain ⟨u, hu⟩ := hu
        simp [World.frozen?, (hBk.block r hrz).trans hu]
      obtain ⟨av, acap, rfl⟩ := hO.ri.len
      have hend := Rq.set hr0 hO hB (by obtain ⟨u, hu⟩ := hu; exact ⟨u, (hBk.block r hrz).trans hu⟩)
      go_wp2_with fail
      go_end0
      exact ⟨rfl, hend, (But.of hBk).setCell _⟩
end Go.Proofs.YtpoofjnfaijjjaaGreatDoor.Ru
