/-
  The walk of RankBest.
-/
import Derived.Test.YtjhpbnijjdmclaaRow
import Derived.Test.YtjhpbnijjdmclaaMth
import Derived.Test.YtjhpbnijjdmclaaKpt
import Derived.Test.YtjhpbnijjdmclaaFbs
import Derived.Deep.RegionHeld3
import Derived.Deep.CutRange
namespace Go.Proofs.Ytjhpbnijjdmclaa
open Go.RowKit

/-- The update, told of node 3. -/
def tri (u : Upd) : Upd := ⟨3, u.i, u.s⟩
theorem tri_take (l : List Upd) (k : Nat) (hk : k < l.length) : (l.take (k + 1)).map tri = (l.take k).map tri ++ [tri l[k]] := by
  rw [List.take_add_one, List.getElem?_eq_getElem hk, List.map_append]; rfl
theorem tri_node (l : List Upd) : ∀ v ∈ l.map tri, v.n = 3 := by
  intro v hv
  obtain ⟨u, _, rfl⟩ := List.mem_map.1 hv
  rfl

theorem Ru.one {g : Nat} {u : Upd} {w : World} (h : Bx 24 g u.n u.i u.s w) : Ru (.slice (some ⟨g, 0, none⟩) 1 1) [u] w :=
  ⟨_, 1, rfl, Nat.le_refl _, by unfold maxLen; omega, Or.inr ⟨g, 0, rfl, fun j hj => by
    have : j = 0 := by simpa using hj
    subst this
    exact ⟨h.c0, h.c1, h.c2⟩⟩⟩

/-- What stands behind the first Best: the row, and the best of it in a box. -/
structure Rst (w0 : World) (gm L mcap : Nat) (M : List Upd) (gb : Nat) (R : Upd) (w : World) : Prop where
  ru : Ru (.slice (some ⟨gm, 0, none⟩) L mcap) M w
  box : Bx 24 gb R.n R.i R.s w
  below : Below w0.heap.size w0 w
section
variable {w0 : World} {gm L mcap : Nat} {M : List Upd} {gb : Nat} {R : Upd} {w w' : World}
theorem Rst.later (h : Rst w0 gm L mcap M gb R w) (b : Below w.heap.size w w') : Rst w0 gm L mcap M gb R w' := ⟨h.ru.below b, h.box.below b, h.below.trans (b.mono h.below.size)⟩
theorem Rst.drew (h : Rst w0 gm L mcap M gb R w) : Rst w0 gm L mcap M gb R w.drew := h.later ⟨rfl, rfl, rfl, Nat.le_refl _, fun _ _ => rfl⟩
theorem Rst.on {x : Kept (Rst w0 gm L mcap M gb R)} (b : Below x.at_.heap.size x.at_ w') : ∃ y : Kept (Rst w0 gm L mcap M gb R), w' = y.at_ := ⟨⟨w', x.is.later b⟩, rfl⟩
end

/-- Behind the second Best: its answer in a box, too. -/
structure Rs2 (w0 : World) (gm L mcap : Nat) (M : List Upd) (gb gc : Nat) (R : Upd) (w : World) : Prop where
  rst : Rst w0 gm L mcap M gb R w
  c : Bx 24 gc R.n R.i R.s w
section
variable {w0 : World} {gm L mcap : Nat} {M : List Upd} {gb gc : Nat} {R : Upd} {w w' : World}
theorem Rs2.later (h : Rs2 w0 gm L mcap M gb gc R w) (b : Below w.heap.size w w') : Rs2 w0 gm L mcap M gb gc R w' := ⟨h.rst.later b, h.c.below b⟩
theorem Rs2.drew (h : Rs2 w0 gm L mcap M gb gc R w) : Rs2 w0 gm L mcap M gb gc R w.drew := h.later ⟨rfl, rfl, rfl, Nat.le_refl _, fun _ _ => rfl⟩
theorem Rs2.on {x : Kept (Rs2 w0 gm L mcap M gb gc R)} (b : Below x.at_.heap.size x.at_ w') : ∃ y : Kept (Rs2 w0 gm L mcap M gb gc R), w' = y.at_ := ⟨⟨w', x.is.later b⟩, rfl⟩
theorem Rs2.cell (h : Rs2 w0 gm L mcap M gb gc R w) (hL : M.length = L) (k : Nat) (hk : k < M.length) : w.cell? ⟨gm, k * 3, none⟩ = some (.int .i64 M[k].n) ∧ w.cell? ⟨gm, k * 3 + 1, none⟩ = some (.int .u64 M[k].i) ∧ w.cell? ⟨gm, k * 3 + 2, none⟩ = some (.int .i64 M[k].s) := by
  subst hL
  obtain ⟨_, _, e, _, _, h3⟩ := h.rst.ru
  cases e
  rcases h3 with h3 | ⟨g', off', e, h3⟩
  · omega
  · cases e
    have := h3 k hk
    rw [Nat.zero_add] at this
    exact this
end
theorem Bx.grown {T : TypeId} {g : Nat} {n i s : Int} {w w' : World} {row : Option Nat} (h : Bx T g n i s w) (hg : w.grownBy w' row) (hne : some g ≠ row) : Bx T g n i s w' := h.keep (hg.block g h.lt hne)
theorem Ru.drop {g cap : Nat} {l : List Upd} {w : World} {L : Nat} (hL : l.length = L) (h : Ru (.slice (some ⟨g, 0, none⟩) L cap) l w) (q : Nat) (hq : q ≤ L) (off : Nat) (ho : (if cap = q then some (⟨g, 0, none⟩ : Addr) else some ⟨g, q * 3, none⟩) = some ⟨g, off, none⟩) :
    Ru (.slice (some ⟨g, off, none⟩) (L - q) (cap - q)) (l.drop q) w := by
  subst hL
  obtain ⟨_, _, e, h1, h2, h3⟩ := h
  cases e
  have hl : (l.drop q).length = l.length - q := List.length_drop
  refine ⟨_, cap - q, by rw [hl], by omega, by omega, ?_⟩
  rcases Nat.eq_or_lt_of_le hq with e | hlt
  · exact Or.inl (by omega)
  · right
    rw [if_neg (by omega)] at ho
    cases ho
    refine ⟨g, q * 3, rfl, fun j hj => ?_⟩
    rcases h3 with h3 | ⟨g', off', e, h3⟩
    · omega
    · cases e
      rw [List.getElem_drop, show q * 3 + j * 3 = 0 + (q + j) * 3 from by omega]
      exact h3 (q + j) (by omega)
theorem Ru.take {g cap : Nat} {l : List Upd} {w : World} {L : Nat} (hL : l.length = L) (h : Ru (.slice (some ⟨g, 0, none⟩) L cap) l w) (q : Nat) (hq : q ≤ L) : Ru (.slice (some ⟨g, 0, none⟩) q cap) (l.take q) w := by
  subst hL
  obtain ⟨_, _, e, h1, h2, h3⟩ := h
  cases e
  have hl : (l.take q).length = q := by rw [List.length_take]; omega
  refine ⟨_, cap, by rw [hl], by omega, h2, ?_⟩
  rcases h3 with h3 | ⟨g', off', e, h3⟩
  · exact Or.inl (by omega)
  · cases e
    refine Or.inr ⟨g, 0, rfl, fun j hj => ?_⟩
    rw [List.getElem_take]
    exact h3 j (by omega)

theorem below_alloc (w : World) (o : Obj) : Below w.heap.size w (w.alloc o) := (Below.refl _ _).alloc (Nat.le_refl _) _

theorem belowA {w3 w : World} {B : Nat} (o : Obj) (hB : B ≤ w3.heap.size) (h : Below B w3 w) : Below B w3 (w.alloc o) := h.alloc (Nat.le_trans hB h.size) o
theorem belowS {w3 w : World} {B g : Nat} (n i s : Int) (hg : B ≤ g) (h : Below B w3 w) : Below B w3 (((w.setCell ⟨g, 0, none⟩ (.int .i64 n)).setCell ⟨g, 1, none⟩ (.int .u64 i)).setCell ⟨g, 2, none⟩ (.int .i64 s)) :=
  ((h.setCell (p := ⟨g, 0, none⟩) hg _).setCell (p := ⟨g, 1, none⟩) hg _).setCell (p := ⟨g, 2, none⟩) hg _
theorem belowD {w3 w : World} {B : Nat} (h : Below B w3 w) : Below B w3 w.drew := h.trans ⟨rfl, rfl, rfl, Nat.le_refl _, fun _ _ => rfl⟩

set_option maxRecDepth 100000 in
set_option maxHeartbeats 1000000 in
theorem best_core (a : Option Addr) (cap : Nat) (l : List Upd) (at_ : Int) (ha : 0 ≤ at_ ∧ at_ ≤ 255) (w : World) (hR : Ru (.slice a l.length cap) l w) (hl : (l.length : Int) ≤ 100) :
    Calls Try.prog 6 #[.slice a l.length cap, .int .u8 at_] w fun e w' => e = .returned (.bool true) ∧ Below w.heap.size w w' := by
  obtain ⟨_, _, e, c1, c2, h3⟩ := id hR
  cases e
  go_enter Try.func6, Try.ntmps6
  go_wp2_with fail
  refine (shown_any _).mono ?_
  rintro e w1 ⟨rfl, hb1⟩
  have hz1 := hb1.size
  go_wp2_with fail
  go_loopg [5, 6] l.length (fun gk t5 t6 wr => ∃ k : Nat, k + gk = l.length ∧ t6 = .int .i64 k ∧ Own w.heap.size t5 ((l.take k).map tri) wr ∧ t5 ≠ .slice none 0 0 ∧ Below w.heap.size w wr)
  case atStart => exact ⟨0, by omega, rfl, Own.empty (heap_alloc_new w1 _) hz1, (fun e => by cases e), hb1.alloc hz1 _⟩
  case round =>
    obtain ⟨k, hk, rfl, hO, hvn, hB⟩ := hrel
    by_cases hlt : (k : Int) < l.length
    · have hk' : k < l.length := by omega
      have k0 : (0 : Int) ≤ k := by omega
      rcases h3 with h3 | ⟨g, off, rfl, h3⟩
      · omega
      obtain ⟨x0, x1, x2⟩ : wr.cell? ⟨g, off + k * 3, none⟩ = some (.int .i64 l[k].n) ∧ wr.cell? ⟨g, off + k * 3 + 1, none⟩ = some (.int .u64 l[k].i) ∧ wr.cell? ⟨g, off + k * 3 + 2, none⟩ = some (.int .i64 l[k].s) := by
        obtain ⟨_, _, e, _, _, e3⟩ := hR.below hB
        cases e
        rcases e3 with e3 | ⟨g', off', e, e3⟩
        · omega
        · cases e; exact e3 k hk'
      have hT : Hid _ := tri_take l k hk'
      have hll : ((l.take k).map tri).length = k := by simp; omega
      generalize (l.take k).map tri = M at *
      generalize l[k] = u at *
      have hzr := hB.size
      have hX := Bx.new 24 3 u.i u.s wr
      have ba := below_alloc wr (.cells #[.int .i64 3, .int .u64 u.i, .int .i64 u.s] 24)
      have bb := below_alloc (wr.alloc (.cells #[.int .i64 3, .int .u64 u.i, .int .i64 u.s] 24)) (.cells #[.int .i64 3, .int .u64 u.i, .int .i64 u.s] 24)
      have hY := Bx.new 24 3 u.i u.s (wr.alloc (.cells #[.int .i64 3, .int .u64 u.i, .int .i64 u.s] 24))
      rw [show (wr.alloc (.cells #[.int .i64 3, .int .u64 u.i, .int .i64 u.s] 24)).heap.size = wr.heap.size + 1 from by simp] at hY
      have hO2 := (hO.below ba).below bb
      have hB2 := hB.trans ((ba.trans (bb.mono ba.size)).mono hzr)
      have hz2 := hB2.size
      have hU := Ru.one (u := tri u) hY
      clear bb ba hX
      go_wp2_with (at_builtin; refine wpList_app _ rfl (.tmp 35) (.tmp 37) rfl w.heap.size _ M rfl hO2 hvn hz2 (wr.heap.size + 1) 0 1 [tri u] 1 rfl rfl hU (by rw [hll]; simp; omega) ?_; intro v' w' h1 h2 h3 h4)
      have hB3 : Below w.heap.size w w' := hB2.trans ⟨h3.os, h3.tape, h3.output, h3.size, fun q hq => h3.block q (by omega) (fun e => by have := (hO2.lt q e.symm).1; omega)⟩
      clear h3 h4 hU hO2 hB2 hY
      go_roundg (gk - 1)
      case rel => exact ⟨k + 1, by omega, by go_num, by rw [hT.out]; exact h1, h2, hB3⟩
      case measure => omega
    · obtain rfl : k = l.length := by omega
      rw [List.take_length] at hO
      clear h3
      have hno := tri_node l
      have hML : (l.map tri).length = l.length := by simp
      generalize l.map tri = M at *
      obtain ⟨gm, mcap, rfl, m1, m2, m3, m4⟩ := hO.len hvn
      have hRm := hO.ru
      rw [hML] at m1 hRm hO ⊢
      go_wp2_with fail
      refine (best_any _ M _ hRm (by omega)).mono ?_
      obtain ⟨R, HR⟩ : ∃ R, Hid (bestS M = R) := ⟨_, rfl⟩
      rw [HR.out]
      rintro e w2 ⟨rfl, hb2⟩
      have b3 := below_alloc w2 (.cells #[.int .i64 R.1.n, .int .u64 R.1.i, .int .i64 R.1.s] 24)
      have hS : Rst w gm l.length mcap M w2.heap.size R.1 (w2.alloc (.cells #[.int .i64 R.1.n, .int .u64 R.1.i, .int .i64 R.1.s] 24)) := ⟨(hRm.below hb2).below b3, Bx.new 24 _ _ _ w2, (hB.trans (hb2.mono hB.size)).trans (b3.mono (Nat.le_trans hB.size hb2.size))⟩
      clear b3 hb2 hRm hO hB hb1
      obtain ⟨q, hq, hqL⟩ : ∃ q : Nat, at_ % ((l.length : Int) + 1) = (q : Int) ∧ q ≤ l.length := by
        have h1 := Int.emod_nonneg at_ (show (l.length : Int) + 1 ≠ 0 by omega)
        have h2 := Int.emod_lt_of_pos at_ (show (0 : Int) < (l.length : Int) + 1 by omega)
        exact ⟨(at_ % ((l.length : Int) + 1)).toNat, by omega, by omega⟩
      go_upto_region 12 with fail
      rw [hq]
      generalize World.alloc _ _ = w3 at hS
      generalize w2.heap.size = gb at *
      go_cut [11, 12] from 50 to 62 (fun t11 t12 wx => ∃ gc : Nat, t11 = .pointer (some ⟨gc, 0, none⟩) ∧ t12 = .bool R.2 ∧ Bx 24 gc R.1.n R.1.i R.1.s wx ∧ Rst w gm l.length mcap M gb R.1 wx)
      case first =>
        have q0 : (0 : Int) ≤ (q : Int) := by omega
        have q1 : (q : Int) ≤ l.length := by omega
        have q2 : (q : Int) ≤ mcap := by omega
        have q3 : (l.length : Int) ≤ mcap := by omega
        obtain ⟨off, hoff⟩ : ∃ off, (if mcap = q then some (⟨gm, 0, none⟩ : Addr) else some ⟨gm, q * 3, none⟩) = some ⟨gm, off, none⟩ := by
          split
          · exact ⟨_, rfl⟩
          · exact ⟨_, rfl⟩
        have hdl : (M.drop q).length = l.length - q := by rw [List.length_drop, hML]
        have htl : (M.take q).length = q := by rw [List.length_take, hML]; omega
        have hrot : bestS (M.drop q ++ M.take q) = R := by rw [bestS_rot M 3 hno q]; exact HR.out
        have E1 : Own w3.heap.size (.slice (some ⟨w3.heap.size, 0, none⟩) 0 0) [] (w3.alloc (.cells #[] 24)).drew := Own.empty (heap_alloc_new w3 _) (Nat.le_refl _)
        have E2 : Own w3.heap.size (.slice (some ⟨w3.heap.size + 1, 0, none⟩) 0 0) [] ((w3.alloc (.cells #[.int .i64 0, .int .u64 0, .int .i64 0] 24)).alloc (.cells #[] 24)).drew :=
          Own.empty (by have := heap_alloc_new (w3.alloc (.cells #[.int .i64 0, .int .u64 0, .int .i64 0] 24)) (.cells #[] 24); rw [show (w3.alloc (.cells #[.int .i64 0, .int .u64 0, .int .i64 0] 24)).heap.size = w3.heap.size + 1 from by simp] at this; exact this) (Nat.le_succ _)
        have E3 : Own w3.heap.size (.slice (some ⟨w3.heap.size, 0, none⟩) 0 0) [] ((w3.alloc (.cells #[] 24)).alloc (.cells #[.int .i64 0, .int .u64 0, .int .i64 0] 24)).drew :=
          Own.below (Own.below (Own.empty (heap_alloc_new w3 _) (Nat.le_refl _)) (below_alloc _ _)) ⟨rfl, rfl, rfl, Nat.le_refl _, fun _ _ => rfl⟩
        have C1 : Bx 24 w3.heap.size 0 0 0 ((w3.alloc (.cells #[.int .i64 0, .int .u64 0, .int .i64 0] 24)).alloc (.cells #[] 24)).drew := ⟨((Bx.new 24 0 0 0 w3).below (below_alloc _ (.cells #[] 24))).heap⟩
        have C2 : Bx 24 (w3.heap.size + 1) 0 0 0 ((w3.alloc (.cells #[] 24)).alloc (.cells #[.int .i64 0, .int .u64 0, .int .i64 0] 24)).drew := ⟨by have := (Bx.new 24 0 0 0 (w3.alloc (.cells #[] 24))).heap; rw [show (w3.alloc (.cells #[] 24)).heap.size = w3.heap.size + 1 from by simp] at this; exact this⟩
        go_region_held3 (fun w' => Below w3.heap.size w3 w') (first | assumption | (refine belowA _ (Nat.le_refl _) ?_; assumption) | (refine belowS _ _ _ (by first | exact Nat.le_refl _ | exact Nat.le_succ _ | exact Below.size (by assumption)) ?_; assumption) | (refine belowD ?_; assumption) | (refine belowD (Below.refl _ _)) | (refine belowD (belowA _ (Nat.le_refl _) (Below.refl _ _))) | (refine belowD (belowA _ (Nat.le_refl _) (belowA _ (Nat.le_refl _) (Below.refl _ _))))) ((first
          | (refine step_app _ (by rfl) (.tmp 51) (.tmp 54) (by rfl) w3.heap.size _ [] (by rfl) (by first | exact E1 | exact E2 | exact E3) (by intro e; cases e) (Below.size (by assumption)) gm off (mcap - q) (M.drop q) (l.length - q) hdl.symm (by first | rfl | exact congrArg (fun z => Value.slice z (l.length - q) (mcap - q)) hoff) (Ru.drop hML (hS.later (by assumption)).ru q hqL off hoff) (by rw [hdl]; simp; omega) ?_
             intro v1 w4 ho1 hn1 hg1 hat1
             have hB4 : Below w3.heap.size w3 w4 := Below.grown (by assumption) hg1 (Below.size (by assumption)) (fun z hz => by first | exact (E1.lt z hz).1 | exact (E2.lt z hz).1 | exact (E3.lt z hz).1)
             first
               | (have hg1' : World.grownBy _ w4 (some (w3.heap.size + 1)) := hg1; have hat1' : v1.ownBlock = some (w3.heap.size + 1) ∨ v1.ownBlock = some ((w3.alloc (.cells #[.int .i64 0, .int .u64 0, .int .i64 0] 24)).alloc (.cells #[] 24)).drew.heap.size := hat1; have hc : Bx 24 _ 0 0 0 w4 := Bx.grown C1 hg1' (by simp); have hcn : some (w3.heap.size) ≠ v1.ownBlock := (by rcases hat1' with h | h <;> rw [h] <;> simp <;> omega); clear hg1' hat1')
               | (have hg1' : World.grownBy _ w4 (some (w3.heap.size)) := hg1; have hat1' : v1.ownBlock = some (w3.heap.size) ∨ v1.ownBlock = some ((w3.alloc (.cells #[] 24)).alloc (.cells #[.int .i64 0, .int .u64 0, .int .i64 0] 24)).drew.heap.size := hat1; have hc : Bx 24 _ 0 0 0 w4 := Bx.grown C2 hg1' (by simp); have hcn : some (w3.heap.size + 1) ≠ v1.ownBlock := (by rcases hat1' with h | h <;> rw [h] <;> simp <;> omega); clear hg1' hat1')
               | skip)
          | (refine step_app _ (by rfl) (.tmp 55) (.tmp 58) (by rfl) w3.heap.size v1 ([] ++ M.drop q) (by rfl) (by first | exact ho1 | exact Own.below ho1 (below_alloc _ _)) hn1 (Below.size (by assumption)) gm 0 mcap (M.take q) q htl.symm (by rfl) (Ru.take hML (hS.later (by assumption)).ru q hqL) (by rw [List.nil_append, hdl, htl]; omega) ?_
             intro v2 w5 ho2 hn2 hg2 hat2
             have hB5 : Below w3.heap.size w3 w5 := Below.grown (by assumption) hg2 (Below.size (by assumption)) (fun z hz => (ho1.lt z hz).1)
             first
               | have hc : Bx 24 _ 0 0 0 w5 := Bx.grown (Bx.new 24 0 0 0 w4) hg2 (fun e => Nat.lt_irrefl _ (ho1.lt _ e.symm).2)
               | have hc : Bx 24 _ 0 0 0 w5 := Bx.grown hc hg2 hcn
               | skip)
          | (go_at_call 10
             refine (best_any _ ([] ++ M.drop q ++ M.take q) _ (by first | exact ho2.ru | exact (Own.below ho2 (below_alloc _ _)).ru) (by rw [List.nil_append, List.length_append, hdl, htl]; omega)).mono ?_
             rw [List.nil_append, hrot]
             rintro e w6 ⟨rfl, hb6⟩
             have hB6 : Below w3.heap.size w3 w6 := Below.trans (by assumption) (hb6.mono (Below.size (by assumption)))
             first
               | have hc : Bx 24 _ 0 0 0 w6 := Bx.below (Bx.new 24 0 0 0 w5) hb6
               | have hc : Bx 24 _ 0 0 0 w6 := Bx.below hc hb6
               | skip
             try (have c0 := hc.c0; have c1 := hc.c1; have c2 := hc.c2; have f0 := hc.free 0; have f1 := hc.free 1; have f2 := hc.free 2))))
        all_goals (go_wp2_with fail; go_meet; first | exact ⟨_, rfl, rfl, Bx.set hc _ _ _, hS.later (by assumption)⟩ | exact ⟨_, rfl, rfl, Bx.new 24 _ _ _ _, hS.later (by assumption)⟩)
      case rest =>
        obtain ⟨gc, rfl, rfl, hC, hS3⟩ := hcut
        have hP : Rs2 w gm l.length mcap M gb gc R.1 wc := ⟨hS3, hC⟩
        clear hS hS3 hC
        have hfound : Hid (R.2 = M.any mayU) := by
          show _ = _
          rw [← HR.out]; exact bestS_found M 3 hno
        have htops : ∀ u ∈ M, mayU u = true → newerU u R.1 = false := by rw [← HR.out]; exact bestS_top M 3 hno
        go_wp2_with fail
        go_loopg [13, 14] l.length (fun gk t13 t14 wr => ∃ (k : Nat) (f : Bool), k + gk = l.length ∧ t13 = .bool f ∧ t14 = .int .i64 k ∧ Hid ((M.take k).any mayU = f) ∧ Rs2 w gm l.length mcap M gb gc R.1 wr)
        case atStart => exact ⟨0, false, by omega, rfl, rfl, rfl, hP⟩
        case round =>
          obtain ⟨k, f, hk, rfl, rfl, hf, hQ⟩ := hrel
          clear hP
          by_cases hlt : (k : Int) < l.length
          · have hkM : k < M.length := by omega
            have k0 : (0 : Int) ≤ k := by omega
            have hcell := fun w' (h : Rs2 w gm l.length mcap M gb gc R.1 w') => h.cell hML k hkM
            have hany : Hid ((M.take (k + 1)).any mayU = (f || mayU M[k])) := by
              show _ = _
              rw [any_take M k hkM, hf.out]
            have htop0 := htops M[k] (List.getElem_mem hkM)
            generalize M[k] = u at *
            clear htops
            unfold mayU newerU at htop0
            have hne : Nonempty (Kept (Rs2 w gm l.length mcap M gb gc R.1)) := ⟨⟨_, hQ⟩⟩
            have c0 : ∀ x : Kept (Rs2 w gm l.length mcap M gb gc R.1), x.at_.cell? ⟨gm, k * 3, none⟩ = some (.int .i64 u.n) := fun x => (hcell _ x.is).1
            have c1 : ∀ x : Kept (Rs2 w gm l.length mcap M gb gc R.1), x.at_.cell? ⟨gm, k * 3 + 1, none⟩ = some (.int .u64 u.i) := fun x => (hcell _ x.is).2.1
            have c2 : ∀ x : Kept (Rs2 w gm l.length mcap M gb gc R.1), x.at_.cell? ⟨gm, k * 3 + 2, none⟩ = some (.int .i64 u.s) := fun x => (hcell _ x.is).2.2
            have d0 : ∀ x : Kept (Rs2 w gm l.length mcap M gb gc R.1), x.at_.cell? ⟨gb, 0, none⟩ = some (.int .i64 R.1.n) := fun x => x.is.rst.box.c0
            have d1 : ∀ x : Kept (Rs2 w gm l.length mcap M gb gc R.1), x.at_.cell? ⟨gb, 1, none⟩ = some (.int .u64 R.1.i) := fun x => x.is.rst.box.c1
            have d2 : ∀ x : Kept (Rs2 w gm l.length mcap M gb gc R.1), x.at_.cell? ⟨gb, 2, none⟩ = some (.int .i64 R.1.s) := fun x => x.is.rst.box.c2
            obtain ⟨x0, x1, x2⟩ := hcell _ hQ
            have hmu : mayU u = mayS u.n u.s := rfl
            rw [hmu] at hany
            clear hcell hmu
            cases hm : mayS u.n u.s
            all_goals
              rw [hm] at hany htop0
            case false =>
              clear htop0
              rw [Bool.or_false] at hany
              cases f
              case false =>
                go_wp2_with fail
                refine (fmay_any _ _ _ _).mono ?_
                rw [hm]
                rintro e w4 ⟨rfl, hb4⟩
                have hQ := hQ.later hb4
                go_wp2_with fail
                refine wp_region_kept (Rs2 w gm l.length mcap M gb gc R.1) (by kernel_rfl) (by kernel_rfl) hQ.drew ?_
                repeat (go_big_quiet_step (first
                  | (refine (fmay_any _ _ _ _).mono ?_; rw [hm]; rintro e w4 ⟨rfl, hb4⟩; exact ⟨rfl, Rs2.on hb4⟩)
                  | (refine (fnewer_any _ _ _ _ _ _ _).mono ?_; rw [htop]; rintro e w4 ⟨rfl, hb4⟩; exact ⟨rfl, Rs2.on hb4⟩)))
                refine wpQuiet_nil ?_
                intro w5 h5
                go_wp2_with fail
                go_roundg (gk - 1)
                case rel => exact ⟨k + 1, _, by omega, rfl, by go_num, hany, h5⟩
                case measure => omega

              case true =>
                go_wp2_with fail
                refine wp_region_kept (Rs2 w gm l.length mcap M gb gc R.1) (by kernel_rfl) (by kernel_rfl) hQ.drew ?_
                repeat (go_big_quiet_step (first
                  | (refine (fmay_any _ _ _ _).mono ?_; rw [hm]; rintro e w4 ⟨rfl, hb4⟩; exact ⟨rfl, Rs2.on hb4⟩)
                  | (refine (fnewer_any _ _ _ _ _ _ _).mono ?_; rw [htop]; rintro e w4 ⟨rfl, hb4⟩; exact ⟨rfl, Rs2.on hb4⟩)))
                refine wpQuiet_nil ?_
                intro w5 h5
                go_wp2_with fail
                go_roundg (gk - 1)
                case rel => exact ⟨k + 1, _, by omega, rfl, by go_num, hany, h5⟩
                case measure => omega

            case true =>
              have htop := htop0 rfl
              clear htop0
              rw [Bool.or_true] at hany
              cases f
              case false =>
                go_wp2_with fail
                refine (fmay_any _ _ _ _).mono ?_
                rw [hm]
                rintro e w4 ⟨rfl, hb4⟩
                have hQ := hQ.later hb4
                go_wp2_with fail
                refine wp_region_kept (Rs2 w gm l.length mcap M gb gc R.1) (by kernel_rfl) (by kernel_rfl) hQ.drew ?_
                repeat (go_big_quiet_step (first
                  | (refine (fmay_any _ _ _ _).mono ?_; rw [hm]; rintro e w4 ⟨rfl, hb4⟩; exact ⟨rfl, Rs2.on hb4⟩)
                  | (refine (fnewer_any _ _ _ _ _ _ _).mono ?_; rw [htop]; rintro e w4 ⟨rfl, hb4⟩; exact ⟨rfl, Rs2.on hb4⟩)))
                refine wpQuiet_nil ?_
                intro w5 h5
                go_wp2_with fail
                go_roundg (gk - 1)
                case rel => exact ⟨k + 1, _, by omega, rfl, by go_num, hany, h5⟩
                case measure => omega

              case true =>
                go_wp2_with fail
                refine wp_region_kept (Rs2 w gm l.length mcap M gb gc R.1) (by kernel_rfl) (by kernel_rfl) hQ.drew ?_
                repeat (go_big_quiet_step (first
                  | (refine (fmay_any _ _ _ _).mono ?_; rw [hm]; rintro e w4 ⟨rfl, hb4⟩; exact ⟨rfl, Rs2.on hb4⟩)
                  | (refine (fnewer_any _ _ _ _ _ _ _).mono ?_; rw [htop]; rintro e w4 ⟨rfl, hb4⟩; exact ⟨rfl, Rs2.on hb4⟩)))
                refine wpQuiet_nil ?_
                intro w5 h5
                go_wp2_with fail
                go_roundg (gk - 1)
                case rel => exact ⟨k + 1, _, by omega, rfl, by go_num, hany, h5⟩
                case measure => omega

          · obtain rfl : k = l.length := by omega
            rw [← hML, List.take_length, ← hfound.out] at hf
            obtain rfl := hf.out
            have c0 := hQ.rst.box.c0
            have c1 := hQ.rst.box.c1
            have c2 := hQ.rst.box.c2
            have d0 := hQ.c.c0
            have d1 := hQ.c.c1
            have d2 := hQ.c.c2
            go_wp2_with fail
            go_ret
            exact ⟨rfl, hQ.rst.below⟩
end Go.Proofs.Ytjhpbnijjdmclaa
