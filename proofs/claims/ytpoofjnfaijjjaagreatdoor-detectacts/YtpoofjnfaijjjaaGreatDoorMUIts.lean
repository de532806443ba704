/-
  Items: the map gone through, in whatever order, and sorted.
-/
import Derived.Test.YtpoofjnfaijjjaaGreatDoorMUKep
import Derived.Sort.OwnSorted
namespace Go.Proofs.YtpoofjnfaijjjaaGreatDoor.Ru
open Go.RowKit Go.Maps Go.Proofs.YtpoofjnfaijjjaaGreatDoor.Ro
variable {X : Value → Array Value}
structure Coll (L : List Itm) (left : Lit → Bool) (ss : List Itm) : Prop where
  nodup : ss.Nodup
  mem : ∀ y, y ∈ ss ↔ (y ∈ L ∧ left (.int .i64 y.1) = false)
theorem Coll.start {D : DataW Unit} {L : List Itm} (h : Mp D L) : Coll L (Maps.has D) [] := by
  refine ⟨List.nodup_nil, fun y => ⟨(fun h => by cases h), fun ⟨h1, h2⟩ => ?_⟩⟩
  rw [h.hit h1] at h2
  cases h2
theorem same_int (a b : Int) : (Lit.int .i64 a).sameKey (.int .i64 b) = (a == b) := by
  by_cases h : a = b
  · subst h; simp [Lit.sameKey]
  · rw [sameKey_ne (lit_ne h)]; simp [h]
theorem Coll.step {D : DataW Unit} {L : List Itm} {left : Lit → Bool} {ss : List Itm} (hc : Coll L left ss) (hp : Mp D L) (hL : Qi L) {x : Int} {c : Itm} (hl : left (.int .i64 x) = true) (hat : ∀ z, D.atKey (.int .i64 x) z = dat c) :
    Coll L (fun z => left z && !z.sameKey (.int .i64 x)) (ss ++ [c]) ∧ c.1 = x := by
  obtain ⟨y, hy, rfl⟩ := hp.has x (has_true_of_atKey hat)
  obtain rfl : y = c := dat_inj ((hp.is y hy .nil).symm.trans (hat .nil))
  refine ⟨⟨?_, fun z => ?_⟩, rfl⟩
  · refine List.nodup_append.2 ⟨hc.nodup, by simp, fun a ha b hb => ?_⟩
    simp at hb
    subst hb
    intro e
    subst e
    have := ((hc.mem a).1 ha).2
    rw [hl] at this
    cases this
  · rw [List.mem_append, hc.mem z, List.mem_singleton, same_int]
    by_cases e : z.1 = y.1
    · simp [e]
      constructor
      · rintro (⟨h1, h2⟩ | rfl)
        · exact h1
        · exact hy
      · intro h
        exact Or.inr (hL.one h hy e)
    · have : z ≠ y := fun h => e (by rw [h])
      simp [e, this]
theorem Coll.perm {L : List Itm} {left : Lit → Bool} {ss : List Itm} (hc : Coll L left ss) (hL : Qi L) (hl : ∀ kl, left kl = false) : ss.Perm L :=
  (List.perm_ext_iff_of_nodup hc.nodup hL.nodup).2 fun y => by rw [hc.mem y, hl]; simp
set_option maxHeartbeats 1000000 in
theorem items_none (p : Nat) (w : World) (hQ : Qu X p none [] w) :
    Calls Tryz.prog 71 #[.pointer (some ⟨p, 2, none⟩)] w fun e w' => (∃ v, e = .returned v ∧ Ri v [] w' ∧ ∀ g, v.ownBlock = some g → w.heap.size ≤ g) ∧ Below w.heap.size w w' := by
  have hc := hQ.c
  have hrg := run_range_nilMap (P := Tryz.prog) w 85 3 145 Tryz.underlying85
  have hnx : ∀ ty, (Instr.next (.pointer (some ⟨w.heap.size, 0, none⟩)) false ty).run Tryz.prog (w.alloc (.mapIter none 0 #[] 0)) = _ := fun ty => run_next_nilMap w ty 0 0 #[]
  have hs := sort_any (OwI.nil 145 w.heap.size (w.alloc (.mapIter none 0 #[] 0))) (by simp) (by simp)
  have ba := below_alloc w (.mapIter none 0 #[] 0)
  go_enter Tryz.func71, Tryz.ntmps71
  go_wp2_with fail
  refine wp_loop_rounds 1 ?_
  rw [rounds_succ]
  go_wp2_with fail
  refine hs.mono ?_
  rintro e w1 ⟨rfl, ⟨l', hp, _, hr⟩, hb⟩
  obtain rfl : l' = [] := List.Perm.eq_nil hp
  go_wp2_with fail
  go_ret
  exact ⟨⟨_, rfl, hr, fun g hg => by cases hg⟩, ba.trans hb⟩
set_option maxRecDepth 100000 in
set_option maxHeartbeats 2000000 in
theorem items_some (p b : Nat) (L : List Itm) (hl : L.length ≤ 40) (w : World) (hQ : Qu X p (some b) L w) :
    Calls Tryz.prog 71 #[.pointer (some ⟨p, 2, none⟩)] w fun e w' => (∃ v, e = .returned v ∧ Ri v L w' ∧ ∀ g, v.ownBlock = some g → w.heap.size ≤ g) ∧ Below w.heap.size w w' := by
  have hc := hQ.c
  have hL := hQ.qi
  obtain ⟨D, hown, hp⟩ := hQ.some_ b rfl
  have hbl := hown.lt
  have hsz := hp.size
  go_enter Tryz.func71, Tryz.ntmps71
  go_wp2_with (first
    | (at_range; refine wpList_range_own _ rfl _ 85 rfl 3 145 law3 Tryz.underlying85 _ b 40 D rfl hown ?_; intro w0 hrg0 hg0 hs0)
    | go_in)
  go_frame
  go_loopg [3] 64 (fun gk t3 wr => ∃ (left : Lit → Bool) (cnt : Nat) (ss : List Itm), wr.ranges Tryz.prog 3 itmElem b w.heap.size 40 D left cnt ∧ ss.length + cnt ≤ L.length ∧ cnt ≤ gk ∧ OwI 145 w.heap.size t3 ss wr ∧ Coll L left ss ∧ Below w.heap.size w wr)
  case atStart =>
    exact ⟨_, _, [], hrg0, by rw [hsz]; simp, by omega, OwI.nil _ _ _, Coll.start hp, (Below.refl _ _).grown hg0 (Nat.le_refl _) (fun j hj => by cases hj)⟩
  case round =>
    obtain ⟨left, cnt, ss, hrg, hcs, hgk, hO, hC, hB⟩ := hrel
    go_wp2_with (first
      | (at_next; refine wpList_next_ranges _ rfl _ rfl 3 law3 itmElem (Value.int .i64) (fun c : Itm => Value.agg #[.int .i64 c.1, .int .u64 c.2.1, .int .i64 c.2.2.1, .int .i64 c.2.2.2]) (fun key kl hk => by obtain ⟨x, rfl, _⟩ := Maps.keyOf_int_inv Tryz.underlying3 hk; exact ⟨x, rfl⟩) (fun v y hv => by obtain ⟨c, rfl, _⟩ := itmElem_inv hv; exact ⟨c, rfl⟩) b w.heap.size 40 _ _ _ rfl hrg ?_ ?_)
      | go_in)
    · intro hc0 hl0
      have hs := sort_any hO (by omega) hB.size
      have hperm := hC.perm hL hl0
      go_wp2_with fail
      refine hs.mono ?_
      rintro e w1 ⟨rfl, ⟨l', hp', hso, hr⟩, hb⟩
      obtain rfl : l' = L := hL.unique (hp'.trans hperm) hso
      have hlt := hO.lt
      go_wp2_with fail
      go_ret
      exact ⟨⟨_, rfl, hr, fun g hg => (hlt g hg).1⟩, hB.trans hb⟩
    · intro x c1 c2 c3 c4 kl yd yp w2 cnt2 hkey hlk hv hat hrg2 hlt hg2 hs2 hen
      obtain ⟨x', ex, rfl, _⟩ := Maps.keyOf_int_inv Tryz.underlying3 hkey
      cases ex
      have hv' : itmElem (itmV (c1, c2, c3, c4)) = some (yd, yp) := hv
      rw [itmElem_mk] at hv'
      cases hv'
      obtain ⟨hC2, _⟩ := hC.step hp hL hlk hat
      have hB2 : Below w.heap.size w w2 := hB.grown hg2 hB.size (fun j hj => by cases hj; exact Nat.le_refl _)
      have hne := row_ne_iter hO hrg
      have hO2 : OwI 145 w.heap.size u3 ss w2 := World.ownsRow.kept hO hg2 (Or.inr hne.symm)
      clear hs2 hv hat hkey hrg hg2 hO hB hlk hC hne hg0 hs0 hrg0
      have ba := below_alloc w2 (.cells #[.int .i64 c1, .int .u64 c2, .int .i64 c3, .int .i64 c4] 145)
      have hB3 := hB2.trans (ba.mono hB2.size)
      have hO3 := hO2.below ba
      have hrg3 := hrg2.alloc (.cells #[.int .i64 c1, .int .u64 c2, .int .i64 c3, .int .i64 c4] 145)
      have hb3 := Bi.new 145 c1 c2 c3 c4 w2
      obtain ⟨w3, HW3⟩ : ∃ w3, Hid (w3 = w2.alloc (.cells #[.int .i64 c1, .int .u64 c2, .int .i64 c3, .int .i64 c4] 145)) := ⟨_, rfl⟩
      rw [← HW3.out] at ba hB3 hO3 hrg3 hb3
      have bc := below_alloc w3 (.cells #[.int .i64 c1, .int .u64 c2, .int .i64 c3, .int .i64 c4] 145)
      have hB4 := hB3.trans (bc.mono hB3.size)
      have hO4 := hO3.below bc
      have hrg4 := hrg3.alloc (.cells #[.int .i64 c1, .int .u64 c2, .int .i64 c3, .int .i64 c4] 145)
      have hY := Ri.one (Bi.new 145 c1 c2 c3 c4 w3)
      have hz4 := hB4.size
      have hne2 := row_ne_iter hO4 hrg4
      have hnl := row_ne_low hO4 hbl
      have x0 := hb3.c0
      have x1 := hb3.c1
      have x2 := hb3.c2
      have x3 := hb3.c3
      clear hb3 ba bc hO2 hO3 hB2 hB3 hrg2 hrg3
      go_upto_region 5 with fail
      rw [← HW3.out]
      go_wp2_with (at_builtin; refine wpList_appI Tryz.underlying149 Tryz.infoI _ rfl (.tmp 15) (.tmp 17) rfl w.heap.size _ ss rfl hO4 hz4 w3.heap.size 0 1 [(c1, c2, c3, c4)] 1 rfl rfl hY (by simp; omega) ?_; intro v' w' h1 h3 h4)
      have hB5 : Below w.heap.size w w' := hB4.trans ⟨h3.os, h3.tape, h3.output, h3.size, fun q hq => h3.block q (by omega) (fun e => by have := (hO4.lt q e.symm).1; omega)⟩
      have hrg5 := hrg4.kept h3 hnl hne2
      go_roundg (gk - 1)
      case rel => exact ⟨_, cnt2, ss ++ [(c1, c2, c3, c4)], hrg5, by simp; omega, by omega, h1, hC2, hB5⟩
      case measure => omega
theorem items_any (p : Nat) (m : Option Nat) (L : List Itm) (hl : L.length ≤ 40) (w : World) (hQ : Qu X p m L w) :
    Calls Tryz.prog 71 #[.pointer (some ⟨p, 2, none⟩)] w fun e w' => (∃ v, e = .returned v ∧ Ri v L w' ∧ ∀ g, v.ownBlock = some g → w.heap.size ≤ g) ∧ Below w.heap.size w w' := by
  cases m with
  | none =>
    obtain rfl := hQ.none_ rfl
    exact items_none p w hQ
  | some b => exact items_some p b L hl w hQ
end Go.Proofs.YtpoofjnfaijjjaaGreatDoor.Ru
