/-
  The reference's glued and Join.
-/
import Derived.Test.YtlbeincgknmijaaDcu
namespace Go.Proofs.Ytlbeincgknmijaa
open Go.RowKit

theorem flat_set (l : List Sn) : ∀ (j : Nat) (t : Int), j < l.length → (flat l).set (j * 2 + 1) (.int .u64 t) = flat (l.set j ⟨(el l j).f, t⟩) := by
  induction l with
  | nil => intro j t h; cases h
  | cons s r ih =>
    intro j t h
    cases j with
    | zero => rfl
    | succ j =>
      have h' : j < r.length := by simpa using h
      rw [el_succ, List.set_cons_succ]
      simp only [flat, Sn.cs, List.cons_append, List.nil_append]
      rw [show (j + 1) * 2 + 1 = (j * 2 + 1) + 1 + 1 from by omega, List.set_cons_succ, List.set_cons_succ, ih j t h']
theorem Ow.setT {B g n cap : Nat} {l : List Sn} {w : World} (h : Ow B (.slice (some ⟨g, 0, none⟩) n cap) l w) (hn : n = l.length) {j : Nat} (hj : j < l.length) (t : Int) :
    Ow B (.slice (some ⟨g, 0, none⟩) n cap) (l.set j ⟨(el l j).f, t⟩) (w.setCell ⟨g, j * 2 + 1, none⟩ (.int .u64 t)) := by
  subst hn
  unfold Ow at h ⊢
  rw [List.length_set]
  refine ⟨by rw [flat_length, List.length_set], Or.inr ?_⟩
  rcases h.2 with ⟨e, _⟩ | ⟨g', cap', cur, e, hb, hg, h1, h2, h3, h4⟩
  · cases e
  · cases e
    refine ⟨g, cap, cur.setIfInBounds (j * 2 + 1) (.int .u64 t), rfl, hb, ?_, h1, h2, by simpa using h3, ?_⟩
    · simp [World.setCell, Array.getElem?_modify, hg]
    · rw [Array.toList_setIfInBounds, List.take_set, h4, flat_set l j t hj]
theorem Ow.at {B g n cap : Nat} {l : List Sn} {w : World} (h : Ow B (.slice (some ⟨g, 0, none⟩) n cap) l w) {j : Nat} (hj : j < l.length) :
    w.cell? ⟨g, j * 2, none⟩ = some (.int .u64 (el l j).f) ∧ w.cell? ⟨g, j * 2 + 1, none⟩ = some (.int .u64 (el l j).t) ∧ w.frozen? ⟨g, j * 2 + 1, none⟩ = false := by
  obtain ⟨a, b⟩ := flat_get l j hj
  have k := World.ownsRow.cells h (g := g) rfl
  have a := k _ _ a
  have b := k _ _ b
  rw [add_off, Nat.zero_add] at a b
  refine ⟨a, b, ?_⟩
  rcases h.2 with ⟨e, _⟩ | ⟨g', cap', cur, e, hb, hg, _⟩
  · cases e
  · cases e
    simp [World.frozen?, hg]

theorem glue_take {l : List Sn} {k : Nat} (h : k < l.length) : (l.take (k + 1)).foldl glueS [] = glueS ((l.take k).foldl glueS []) (el l k) := by
  rw [take_snoc h, List.foldl_append]; rfl

set_option maxRecDepth 100000 in
set_option maxHeartbeats 2000000 in
theorem glued_any (v : Value) (l : List Sn) (w : World) (hR : Rs v l w) (hl : l.length ≤ 200000) (hv : ∀ s ∈ l, 0 ≤ s.f ∧ s.f ≤ s.t ∧ s.t < 18446744073709551615) (hs : ∀ i j, i < j → j < l.length → (el l i).f ≤ (el l j).f) :
    Calls Try.prog 41 #[v] w fun e w' => Told w.heap.size (l.foldl glueS []) e w' ∧ Below w.heap.size w w' := by
  obtain ⟨⟨a, cap, rfl, h1, h2, h3⟩, hok⟩ := id hR
  have hlen : (l.length : Int) ≤ 200000 := by omega
  obtain ⟨R, HR⟩ : ∃ R, Hid (l.foldl glueS [] = R) := ⟨_, rfl⟩
  rw [HR.out]
  have b0 := below_alloc w (.cells #[] 51)
  have hO0 := made_os (w := w) (Nat.le_refl _)
  go_enter Try.func41, Try.ntmps41
  go_wp2_with fail
  go_loopg [3, 4] l.length (fun gk t3 t4 wr => ∃ (k g c N : Nat) (M : List Sn), k + gk = l.length ∧ t4 = .int .i64 k ∧ t3 = .slice (some ⟨g, 0, none⟩) N c ∧ N = M.length ∧ Hid ((l.take k).foldl glueS [] = M) ∧ Ow w.heap.size (.slice (some ⟨g, 0, none⟩) N c) M wr ∧ Below w.heap.size w wr)
  case atStart => exact ⟨0, _, 0, 0, [], by omega, rfl, rfl, rfl, rfl, hO0, b0⟩
  case round =>
    obtain ⟨k, ga, c, N, M, hk, rfl, rfl, hN, hM, hO, hB⟩ := hrel
    clear b0 hO0
    have hz := hB.size
    by_cases hlt : (k : Int) < l.length
    · have hk' : k < l.length := by omega
      have k0 : (0 : Int) ≤ k := by omega
      rcases h3 with h3 | ⟨g, off, rfl, h3⟩
      · omega
      obtain ⟨c0, c1⟩ := (hR.below hB).at hk'
      obtain ⟨u1, _, u3, _⟩ := glued_take hv hs k (by omega)
      rw [hM.out] at u1 u3
      have hst := glue_take hk'
      rw [hM.out] at hst
      obtain ⟨v1, v2, v3⟩ := hv _ (el_mem hk')
      have hNk : N ≤ 200000 := by omega
      have hpush : glueS M (el l k) = M ++ [el l k] → Hid ((l.take (k + 1)).foldl glueS [] = M ++ [⟨(el l k).f, (el l k).t⟩]) := fun e => hst.trans e
      have hRd : ∀ w' : World, Below w.heap.size w w' → w'.cell? ⟨g, off + k * 2, none⟩ = some (.int .u64 (el l k).f) ∧ w'.cell? ⟨g, off + k * 2 + 1, none⟩ = some (.int .u64 (el l k).t) := fun w' hb => (hR.below hb).at hk'
      have hsn : SnOk ⟨(el l k).f, (el l k).t⟩ := ⟨v1, by show (el l k).f ≤ 18446744073709551615; omega, by show 0 ≤ (el l k).t; omega, by show (el l k).t ≤ 18446744073709551615; omega⟩
      rcases Nat.eq_zero_or_pos N with h0 | h0
      · subst h0
        have hM0 : M = [] := List.length_eq_zero_iff.1 hN.symm
        subst hM0
        have hp := hpush rfl
        clear hst hpush h3 hv hs u1 u3 hN hNk
        generalize (el l k).f = f at *
        generalize (el l k).t = t at *
        go_wp2_with fail
        go_quiet (fail)
        have hB1 := hB.trans (below_drewN w.heap.size wr nq)
        obtain ⟨c0, c1⟩ := hRd _ hB1
        have hO1 : Ow w.heap.size (.slice (some ⟨ga, 0, none⟩) 0 c) [] (wr.drewN nq) := hO.keep fun _ _ _ => rfl
        clear hB hO hz hRd
        generalize wr.drewN nq = w1 at *
        have b4 := below_alloc w1 (.cells #[.int .u64 f, .int .u64 t] 51)
        have hU := Rs.one (Bx.new 51 f t w1) hsn
        have hO4 := hO1.below b4
        have hB4 := hB1.trans (b4.mono hB1.size)
        have hz4 := hB4.size
        clear b4 hO1
        go_wp2_with (at_builtin; refine wpList_appS rfl (.tmp 47) (.tmp 52) rfl _ w.heap.size [] rfl hO4 hz4 w1.heap.size 0 1 1 [⟨f, t⟩] rfl rfl hU (by simp) ?_; intro v5 w5 hO5 h5; obtain ⟨gw, cw, rfl, hgw, _⟩ := hO5.place (by simp))
        go_roundg (gk - 1)
        case rel => exact ⟨k + 1, gw, cw, _, _, by omega, by go_num, rfl, rfl, hp, hO5, below_grown hB4 hO4 h5 hz4⟩
        case measure => omega
      · obtain ⟨n, rfl⟩ : ∃ n, N = n + 1 := ⟨N - 1, by omega⟩
        have hnM : n < M.length := by omega
        have hla : lastS M = el M n := by unfold lastS; rw [← hN, Nat.add_sub_cancel]
        have hz1 := u1.at hnM
        have hgl : glueS M (el l k) = if (el l k).f ≤ (el M n).t + 1 then M.set n ⟨(el M n).f, max (el M n).t (el l k).t⟩ else M ++ [el l k] := by
          unfold glueS
          rw [hla, ← hN, Nat.add_sub_cancel]
          by_cases e : (el l k).f ≤ (el M n).t + 1
          · rw [if_pos ⟨by omega, e⟩, if_pos e]
          · rw [if_neg (fun h => e h.2), if_neg e]
        rw [hgl] at hst hpush
        have hset := fun (w' : World) (h : Ow w.heap.size (.slice (some ⟨ga, 0, none⟩) (n + 1) c) M w') (t : Int) => h.setT hN hnM t
        have hat := fun (w' : World) (h : Ow w.heap.size (.slice (some ⟨ga, 0, none⟩) (n + 1) c) M w') => h.at hnM
        have n0 : (0 : Int) ≤ n := by omega
        have n1 : (n : Int) ≤ 200000 := by omega
        have z0 : decide ((0 : Int) ≤ (n : Int)) = true := decide_eq_true n0
        obtain ⟨d0, d1, d2⟩ := hat _ hO
        obtain ⟨p0, p1, p2⟩ := hz1
        have hset2 : ∀ x : Int, (M.set n (⟨(el M n).f, x⟩ : Sn)).length = n + 1 := fun x => by simp [← hN]
        have hN2 : (M ++ [(⟨(el l k).f, (el l k).t⟩ : Sn)]).length = n + 1 + 1 := by simp [← hN]
        by_cases q : (el l k).f ≤ (el M n).t + 1
        · rw [if_pos q] at hst
          have zq : decide ((el l k).f ≤ (el M n).t + 1) = true := decide_eq_true q
          clear hpush hgl hla hN2
          have hq0 : Hid ((l.take (k + 1)).foldl glueS [] = M.set n ⟨(el M n).f, max (el M n).t (el l k).t⟩) := hst
          clear hst h3 hv hs u1 u3 hN
          generalize (el l k).f = f at *
          generalize (el l k).t = t at *
          generalize (el M n).t = pt at *
          generalize (el M n).f = pf at *
          go_wp2_with fail
          go_quiet (fail)
          have hB1 := hB.trans (below_drewN w.heap.size wr nq)
          obtain ⟨c0, c1⟩ := hRd _ hB1
          have hO1 : Ow w.heap.size (.slice (some ⟨ga, 0, none⟩) (n + 1) c) M (wr.drewN nq) := hO.keep fun _ _ _ => rfl
          clear hB hO hz hRd d0 d1 d2
          generalize wr.drewN nq = w1 at *
          obtain ⟨d0, d1, d2⟩ := hat _ hO1
          have hga := (hO1.lt ga rfl).1
          rcases Int.lt_or_le pt t with m | m
          · have hmx : max pt t = t := by omega
            rw [hmx] at hq0
            have hfin := hset _ hO1 t
            have hB2 := hB1.setCell (p := ⟨ga, n * 2 + 1, none⟩) hga (.int .u64 t)
            have hl2 := hset2 t
            clear hset hset2 hat hmx
            go_wp2_with fail
            go_region
            have hfin' : Ow w.heap.size (.slice (some ⟨ga, 0, none⟩) (n + 1) c) (M.set n ⟨pf, t⟩) (w1.setCell ⟨ga, n * 2 + 1, none⟩ (.int .u64 t)).drew := hfin.keep fun _ _ _ => rfl
            have hB3 := hB2.trans (c := (w1.setCell ⟨ga, n * 2 + 1, none⟩ (.int .u64 t)).drew) ⟨rfl, rfl, rfl, Nat.le_refl _, fun _ _ => rfl⟩
            clear hfin hB2
            go_wp2_with fail
            go_roundg (gk - 1)
            case rel => exact ⟨k + 1, ga, c, n + 1, _, by omega, by go_num, rfl, hl2.symm, hq0, hfin', hB3⟩
            case measure => omega
          · have hmx : max pt t = pt := by omega
            rw [hmx] at hq0
            have hfin := hset _ hO1 pt
            have hB2 := hB1.setCell (p := ⟨ga, n * 2 + 1, none⟩) hga (.int .u64 pt)
            have hl2 := hset2 pt
            clear hset hset2 hat hmx
            go_wp2_with fail
            go_region
            have hfin' : Ow w.heap.size (.slice (some ⟨ga, 0, none⟩) (n + 1) c) (M.set n ⟨pf, pt⟩) (w1.setCell ⟨ga, n * 2 + 1, none⟩ (.int .u64 pt)).drew := hfin.keep fun _ _ _ => rfl
            have hB3 := hB2.trans (c := (w1.setCell ⟨ga, n * 2 + 1, none⟩ (.int .u64 pt)).drew) ⟨rfl, rfl, rfl, Nat.le_refl _, fun _ _ => rfl⟩
            clear hfin hB2
            go_wp2_with fail
            go_roundg (gk - 1)
            case rel => exact ⟨k + 1, ga, c, n + 1, _, by omega, by go_num, rfl, hl2.symm, hq0, hfin', hB3⟩
            case measure => omega
        · have hp := hpush (if_neg q)
          have zq : decide ((el l k).f ≤ (el M n).t + 1) = false := decide_eq_false q
          have hMl : M.length + 1 ≤ 1000000 := by omega
          clear hpush hgl hla hst h3 hv hs u1 u3 hset hset2 hN
          generalize (el l k).f = f at *
          generalize (el l k).t = t at *
          generalize (el M n).t = pt at *
          go_wp2_with fail
          go_quiet (fail)
          have hB1 := hB.trans (below_drewN w.heap.size wr nq)
          obtain ⟨c0, c1⟩ := hRd _ hB1
          have hO1 : Ow w.heap.size (.slice (some ⟨ga, 0, none⟩) (n + 1) c) M (wr.drewN nq) := hO.keep fun _ _ _ => rfl
          clear hB hO hz hRd d0 d1 d2 hat
          generalize wr.drewN nq = w1 at *
          have b4 := below_alloc w1 (.cells #[.int .u64 f, .int .u64 t] 51)
          have hU := Rs.one (Bx.new 51 f t w1) hsn
          have hO4 := hO1.below b4
          have hB4 := hB1.trans (b4.mono hB1.size)
          have hz4 := hB4.size
          clear b4 hO1
          go_wp2_with (at_builtin; refine wpList_appS rfl (.tmp 47) (.tmp 52) rfl _ w.heap.size M rfl hO4 hz4 w1.heap.size 0 1 1 [⟨f, t⟩] rfl rfl hU (by simpa using hMl) ?_; intro v5 w5 hO5 h5; obtain ⟨gw, cw, rfl, hgw, _⟩ := hO5.place (by simp))
          go_roundg (gk - 1)
          case rel => exact ⟨k + 1, gw, cw, _, _, by omega, by go_num, rfl, hN2.symm, hp, (by rw [← hN2]; exact hO5), below_grown hB4 hO4 h5 hz4⟩
          case measure => omega
    · have ek : l.length ≤ k := by omega
      have hM' := hM.out
      rw [List.take_of_length_le ek, HR.out] at hM'
      subst hM'
      subst hN
      go_wp2_with fail
      go_ret
      exact ⟨⟨_, _, rfl, hO⟩, hB⟩
end Go.Proofs.Ytlbeincgknmijaa
