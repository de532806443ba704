/-
  RumorTold.
-/
import Derived.Test.YtagdacfgpgcbcaaTmt
namespace Go.Proofs.Ytagdacfgpgcbcaa
open Go.RowKit Go.Maps

theorem zero3 (w : World) : (zeroValue 3).run Try.prog w = .ok (.int .i64 0) w := by kernel_rfl
/-- Block b is a map of at most n entries, which has W x at x. -/
def Cnt (W : Int → Int) (b n : Nat) (w : World) : Prop := ∃ D : DataW Unit, w.ownsMap Try.prog 3 (plainElem Try.prog 3) b n D ∧ ∀ x, D.atKey (.int .i64 x) (.lit (.int .i64 0)) = .lit (.int .i64 (W x))
section
variable {W : Int → Int} {b n : Nat} {w w' : World}
theorem Cnt.keep (h : Cnt W b n w) (e : w'.heap[b]? = w.heap[b]?) : Cnt W b n w' := by
  obtain ⟨D, ⟨es, clock, hb, r⟩, hp⟩ := h
  exact ⟨D, ⟨es, clock, e.trans hb, r⟩, hp⟩
theorem Cnt.lt (h : Cnt W b n w) : b < w.heap.size := by
  obtain ⟨D, h, _⟩ := h
  exact h.lt
theorem Cnt.below (h : Cnt W b n w) (k : Below w.heap.size w w') : Cnt W b n w' := h.keep (k.block b h.lt)
theorem Cnt.made (w : World) : Cnt (fun _ => 0) w.heap.size 0 (w.alloc (.map #[] 0)) := ⟨_, World.ownsMap_made w _ _ _, fun _ => rfl⟩
theorem Cnt.look (h : Cnt W b n w) {k : Int} (hk : 0 ≤ k ∧ k < 64) : (Instr.lookup 50 (.map (some b)) (.int .i64 k) false).run Try.prog w = .ok (.int .i64 (W k)) w := by
  obtain ⟨D, ho, hp⟩ := h
  obtain ⟨c, hr, hat, _⟩ := ho.lookup_int law3 Try.underlying50 Try.underlying3 (zero3 _) (keyOf_int_mk Try.underlying3 (wf_node hk.1 hk.2))
  rw [hr]
  rw [hp k] at hat
  simp at hat
  rw [hat]
theorem Cnt.store (h : Cnt W b n w) (hn : n ≤ 1000000) {k y : Int} (hk : 0 ≤ k ∧ k < 64) (hy : -9223372036854775808 ≤ y ∧ y ≤ 9223372036854775807) :
    ∃ w', (Instr.mapUpdate 50 (.map (some b)) (.int .i64 k) (.int .i64 y)).run Try.prog w = .ok () w' ∧ Cnt (setW W k y) b (n + 1) w' ∧ w.grownBy w' (some b) := by
  obtain ⟨D, ho, hp⟩ := h
  obtain ⟨w', hr, h1, h2⟩ := ho.update law3 Try.underlying50 (by unfold maxLen; omega) (keyOf_int_mk Try.underlying3 (wf_node hk.1 hk.2)) (plainElem_int Try.underlying3 (WalkArith.wf_i64 hy))
  refine ⟨w', hr, ⟨_, h1, fun z => ?_⟩, h2⟩
  unfold setW
  by_cases e : z = k
  · subst e
    rw [atKey_put_same ho.isMap (show WideAt.IsKeyLit (.int .i64 z) from trivial), if_pos rfl]
  · rw [atKey_put_other (lit_ne e), hp z, if_neg e]
end
theorem setW_dec (W : Int → Int) (k : Int) : setW W k (W k - 1) = decW W k := by
  funext z
  unfold setW decW
  by_cases e : z = k
  · subst e; simp
  · simp [e]
theorem below_grown_at {B b : Nat} {w0 w w' : World} (h : Below B w0 w) (hg : w.grownBy w' (some b)) (hb : B ≤ b) (hB : B ≤ w.heap.size) : Below B w0 w' :=
  h.grown hg hB (fun j hj => by cases hj; exact hb)

set_option maxHeartbeats 4000000 in
set_option maxRecDepth 100000 in
theorem told_core (a : Option Addr) (cap : Nat) (l : List Int) (many n : Int) (h0 : 0 ≤ many) (h1 : many ≤ 255) (h2 : 0 ≤ n) (h3 : n ≤ 255) (w : World) (hR : Rb (.slice a l.length cap) l w) (hl : ∀ x ∈ l, 0 ≤ x ∧ x ≤ 255) :
    Calls Try.prog 4 #[.slice a l.length cap, .int .u8 many, .int .u8 n] w fun e w' => e = .returned (.bool true) ∧ Below w.heap.size w w' := by
  obtain ⟨N, HN⟩ : ∃ N, Hid (l.length = N) := ⟨_, rfl⟩
  rw [HN.out]
  by_cases hlen : 30 < N
  · have hl2 : (30 : Int) < N := by omega
    go_enter Try.func4, Try.ntmps4
    go_wp2_with (go_at_call 9; refine (shown_any _).mono ?_; rintro e w1 ⟨rfl, hb⟩)
    go_ret
    exact ⟨rfl, hb⟩
  · have hl2 : (N : Int) ≤ 30 := by omega
    have hl3 : ¬ (30 : Int) < N := by omega
    clear hlen
    have hcap := fun w => cap_any many w (by omega)
    have htake := fun p m L hl nn w hQ => take_any p m L hl nn many (by omega) w hQ
    obtain ⟨c0, c1⟩ := cap_byte h1
    have hwm : IntKind.i64.wrap many = many := by simp [IntKind.wrap, IntKind.bits, IntKind.signed]; omega
    generalize capS many = c at *
    go_enter Try.func4, Try.ntmps4
    go_wp2_with fail
    refine (shown_any _).mono ?_
    rintro e w1 ⟨rfl, hb1⟩
    have hQ := Qu.new w1
    have ba := below_alloc w1 (.cells #[.map none] 27)
    obtain ⟨w2, HW2⟩ : ∃ w2, Hid (w2 = w1.alloc (.cells #[.map none] 27)) := ⟨_, rfl⟩
    rw [← HW2.out] at hQ ba
    have hC := Cnt.made w2
    have bb := below_alloc w2 (.map #[] 0)
    have hmm := @run_makeMap Try.prog 50 w2
    obtain ⟨w3, HW3⟩ : ∃ w3, Hid (w3 = w2.alloc (.map #[] 0)) := ⟨_, rfl⟩
    rw [← HW3.out] at hC bb hmm
    go_upto_region 4 with fail
    rw [← HW2.out]
    have hB3 : Below w.heap.size w w3 := hb1.trans ((ba.mono hb1.size).trans (bb.mono (Nat.le_trans hb1.size ba.size)))
    have hQ3 := hQ.below bb
    have hpb : w1.heap.size < w2.heap.size := hQ.lt
    have hbz : w2.heap.size < w3.heap.size := hC.lt
    have hpz : w.heap.size ≤ w1.heap.size := hb1.size
    generalize w1.heap.size = p at *
    clear hb1 ba HW2 hQ bb
    generalize w2.heap.size = bm at *
    go_wp2_with fail
    clear hmm HW3
    go_loopg [9] N (fun gk t9 wr => ∃ (i : Nat) (m : Option Nat) (L : List Itm) (W : Int → Int) (k : Nat), i + gk = N ∧ t9 = .int .i64 i ∧ L.length ≤ i ∧ Qu p m L wr ∧ (∀ b, m = some b → w3.heap.size ≤ b) ∧ Cnt W bm k wr ∧ k ≤ i ∧ Inv c L W ∧ Fresh L ∧ Below p w3 wr)
    case atStart => exact ⟨0, none, [], _, 0, by omega, rfl, by simp, hQ3, (fun b hb => by cases hb), hC, Nat.le_refl _, Inv.nil c, Fresh.nil, Below.refl _ _⟩
    case round =>
      obtain ⟨i, m, L, W, k, hi, rfl, hL, hQi, hm, hCi, hk, hI, hF, hB⟩ := hrel
      have hwz := hB.size
      by_cases hlt : (i : Int) < N
      · have hil : i < l.length := by rw [HN.out]; omega
        obtain ⟨g, off, rfl, hg, d0⟩ := hR.at_ hil
        have hx := hl _ (List.getElem_mem hil)
        have d0 := (World.cell?_of_block (w := w) ((hB.block g (by omega)).trans (hB3.block g hg))).trans d0
        generalize l[i] = x at *
        have hxm : 0 ≤ x % 64 ∧ x % 64 < 64 := by omega
        obtain ⟨x0, x1⟩ := hx
        have hwx : IntKind.i64.wrap x = x := by simp [IntKind.wrap, IntKind.bits, IntKind.signed]; omega
        have htm : x.tmod 64 = x % 64 := Int.tmod_eq_emod_of_nonneg x0
        have i0 : (0 : Int) ≤ i := by omega
        have hput := put_any p m L (by omega) (x % 64) 1 0 (by decide) wr hQi
        obtain ⟨hI2, hF2, hl4⟩ := put_fresh c0 hI hF (by omega) hxm.1 hxm.2
        generalize putE L (x % 64, 1, 0) = E at *
        generalize putQ L (x % 64, 1, 0) = M at *
        go_wp2_with fail
        refine hput.mono ?_
        rintro e w5 ⟨rfl, m5, hQ5, hmv5⟩
        have hm5 := hmv5.from_ hwz hm
        have hC5 : Cnt W bm k w5 := hCi.keep (hmv5.block bm hCi.lt (by omega) (fun e => by have := hm bm e.symm; omega))
        have hB5 : Below p w3 w5 := hB.trans (hmv5.to (by omega) (Nat.le_refl _) (fun b hb => by have := hm b hb; omega))
        have d5 := (World.cell?_of_block (w := wr) (hmv5.block g (by omega) (by omega) (fun e => by have := hm g e.symm; omega))).trans d0
        clear hput hQi hmv5 d0 hCi hB hI hF hm
        obtain ⟨w6, hrun, hC6, hg6⟩ := Cnt.store (w := w5.drew) (hC5.keep rfl) (by omega) hxm (y := c) (by omega)
        have hQ6 : Qu p m5 M w6 := hQ5.keep (hg6.block p hQ5.lt (by simp; omega)) (fun b hb => hg6.block b (hQ5.mlt b hb) (by have := hm5 b hb; simp; omega))
        have hB6 : Below p w3 w6 := below_grown_at (Below.drew' hB5) hg6 (by omega) (by have := hB5.size; show p ≤ w5.heap.size; omega)
        clear hC5 hg6 hQ5 hB5
        go_wp2_with fail
        go_region_with (go_at_call 15; refine (hcap _).mono ?_; rintro e w' ⟨rfl, rfl⟩)
        all_goals
          go_wp2_with fail
          go_roundg (gk - 1)
          case rel => exact ⟨i + 1, m5, M, _, k + 1, by omega, by go_num, by omega, hQ6, hm5, hC6, by omega, hI2, hF2, hB6⟩
          case measure => omega
      · have hph : phi c L ≤ 720 := by
          rw [phi_fresh hF]
          have a1 : L.length ≤ 30 := by omega
          have a2 : c.toNat ≤ 24 := by omega
          exact Nat.le_trans (Nat.mul_le_mul a1 a2) (by decide)
        have hiN : i ≤ 30 := by omega
        go_wp2_with fail
        go_loopg [10] 720 (fun gk t10 ws => ∃ (r : Nat) (m : Option Nat) (L : List Itm) (W : Int → Int) (k : Nat), t10 = .int .i64 r ∧ r + phi c L ≤ 720 ∧ phi c L ≤ gk ∧ L.length ≤ 32 ∧ Qu p m L ws ∧ (∀ b, m = some b → w3.heap.size ≤ b) ∧ Cnt W bm k ws ∧ k ≤ 100 + 40 * r ∧ Inv c L W ∧ Below p w3 ws)
        case atStart => exact ⟨0, m, L, W, k, rfl, by omega, by omega, by omega, hQi, hm, hCi, by omega, hI, hB⟩
        case round =>
          clear hQi hCi hI hF hB hm hL hk hph hwz W k L m
          obtain ⟨r, m, L, W, k, rfl, hr, hgk, hL, hQi, hm, hCi, hk, hI, hB⟩ := hrel
          have hwz := hB.size
          have hr2 : (r : Int) < 2000 := by omega
          have hr0 : (0 : Int) ≤ r := by omega
          have hit := items_any p m L (by omega) _ hQi
          obtain ⟨K, HK⟩ : ∃ K, Hid (L.length = K) := ⟨_, rfl⟩
          go_wp2_with fail
          refine hit.mono ?_
          rintro e w5 ⟨⟨v, rfl, hRi, _⟩, hb5⟩
          have hQ5 := hQi.below hb5
          have hC5 := hCi.below hb5
          have hB5 : Below p w3 w5 := hB.trans (hb5.mono (by omega))
          have hz5 := hb5.size
          clear hit hQi hCi hB hb5
          obtain ⟨av, acap, rfl⟩ := hRi.len
          rw [HK.out]
          clear hRi
          by_cases hK : 0 < K
          · have hK2 : (0 : Int) < K := by omega
            obtain ⟨gz, hgz⟩ : ∃ gz : Nat, gz = gk - 1 := ⟨_, rfl⟩
            have hnn : 1 ≤ 1 + n % 9 ∧ 1 + n % 9 ≤ 9 := by omega
            have htk := htake p m L hL (1 + n % 9) w5 hQ5
            have hqi := hQ5.qi
            have htl := takeQ_length hqi (1 + n % 9) (c := c) (by omega)
            have hta := tells_all (c := c) (by omega) (L.take (1 + n % 9).toNat) hI hqi (fun _ hx => List.mem_of_mem_take hx) hqi.nodes.take
            have hln : (L.take (1 + n % 9).toNat).Pairwise (fun x y => x.1 ≠ y.1) := hqi.nodes.take
            have hlx : ∀ x ∈ L.take (1 + n % 9).toNat, (0 ≤ x.1 ∧ x.1 < 64) ∧ 1 ≤ W x.1 ∧ W x.1 ≤ 24 := fun x hx => by
              have hx' := List.mem_of_mem_take hx
              have a1 := hqi.ok x hx'
              have a2 := hI.is x hx'
              have a3 := a1.t0
              exact ⟨⟨a1.n0, a1.n1⟩, by omega, by omega⟩
            have hll : 1 ≤ (L.take (1 + n % 9).toNat).length ∧ (L.take (1 + n % 9).toNat).length ≤ 32 := by
              rw [List.length_take, HK.out]
              have := HK.out
              omega
            have hpp : 1 ≤ phi c L := phi_pos hI (fun e => by have := HK.out; rw [e] at this; simp at this; omega)
            change Inv c (takeQ L (1 + n % 9) c) _ ∧ phi c (takeQ L (1 + n % 9) c) + _ ≤ _ at hta
            obtain ⟨hI2, hph2⟩ := hta
            generalize takeQ L (1 + n % 9) c = T at *
            generalize L.take (1 + n % 9).toNat = X at *
            have HUN : Hid (∀ z (hz : z < (X.map updOf).length) (hz' : z < X.length), ((X.map updOf)[z]).n = X[z].1) := fun z hz hz' => by rw [List.getElem_map]; rfl
            obtain ⟨J, HJ⟩ : ∃ J, Hid (X.length = J) := ⟨_, rfl⟩
            have HUL : Hid ((X.map updOf).length = J) := by rw [List.length_map]; exact HJ
            generalize X.map updOf = U at *
            have HDS : ∀ z (hz : z < X.length), Hid (decs W (X.take (z + 1)) = decW (decs W (X.take z)) X[z].1) := fun z hz => by
              rw [← List.take_append_getElem hz, decs_snoc]
              exact rfl
            have HDA : ∀ z (hz : z < X.length), Hid (decs W (X.take z) X[z].1 = W X[z].1) := fun z hz => decs_at hln W hz
            have HDX : Hid (decs W (X.take X.length) = decs W X) := by rw [List.take_length]; exact rfl
            clear hln
            go_wp2_with fail
            refine htk.mono ?_
            rintro e w6 ⟨⟨v, rfl, hO⟩, hQ6, hmv6⟩
            have hC6 : Cnt W bm k w6 := hC5.keep (hmv6.block bm hC5.lt (by omega) (fun e => by have := hm bm e.symm; omega))
            have hB6 : Below p w3 w6 := hB5.trans (hmv6.to (by have := hB5.size; omega) (Nat.le_refl _) (fun b hb => by have := hm b hb; omega))
            have hOl := hO.lt
            have hU6 := hO.ru
            have hbm5 := hC5.lt
            clear htk hQ5 hC5 hB5 hmv6 hO hI hqi
            obtain ⟨au, ucap, rfl, u1, u2, u3⟩ := id hU6
            clear u3
            rw [HUL.out] at u1 hU6
            rw [HUL.out]
            have hu1 : (J : Int) ≤ ucap := by omega
            have hJJ : J ≤ 32 := by have := HJ.out; omega
            go_wp2_with fail
            go_loopg [12] J (fun gk t12 wt => ∃ (z kk : Nat), z + gk = J ∧ t12 = .int .i64 z ∧ Cnt (decs W (X.take z)) bm kk wt ∧ kk ≤ k + z ∧ Qu p m T wt ∧ Below p w3 wt ∧ Ru (.slice au J ucap) U wt)
            case atStart => exact ⟨0, k, by omega, rfl, hC6, Nat.le_refl _, hQ6, hB6, hU6⟩
            case round =>
              obtain ⟨z, kk, hz, rfl, hCz, hkk, hQz, hBz, hUz⟩ := hrel
              have hwzz := hBz.size
              by_cases hzl : (z : Int) < J
              · have hzu : z < U.length := by rw [HUL.out]; omega
                have hzx : z < X.length := by rw [HJ.out]; omega
                obtain ⟨g2, off2, e2, z0, _, _⟩ := hUz.at_ hzu
                rw [HUN.out z hzu hzx] at z0
                have hds := HDS z hzx
                have hda := HDA z hzx
                obtain ⟨hk1, hv1, hv2⟩ := hlx _ (List.getElem_mem hzx)
                have hgg : w5.heap.size ≤ g2 := (hOl g2 (by rw [e2]; rfl)).1
                subst e2
                rw [← hda.out] at hv1 hv2
                generalize X[z].1 = k1 at *
                have hlk := hCz.look hk1
                obtain ⟨w7, hrun, hC7, hg7⟩ := Cnt.store hCz (by omega) hk1 (y := decs W (X.take z) k1 - 1) (by omega)
                have hlk7 := hC7.look hk1
                rw [show setW (decs W (X.take z)) k1 (decs W (X.take z) k1 - 1) k1 = decs W (X.take z) k1 - 1 from by simp [setW]] at hlk7
                rw [setW_dec] at hC7
                have HDS2 := hds
                generalize decs W (X.take z) k1 = vv at *
                have hQ7 : Qu p m T w7 := hQz.keep (hg7.block p hQz.lt (by simp; omega)) (fun b hb => hg7.block b (hQz.mlt b hb) (by have := hm b hb; simp; omega))
                have hB7 : Below p w3 w7 := below_grown_at hBz hg7 (by omega) (by omega)
                have hU7 : Ru (.slice (some ⟨g2, off2, none⟩) J ucap) U w7 := hUz.keep fun q hq hlt => hg7.block q hlt (fun e => by have := (hOl q hq).1; have : q = bm := (by simpa using e); omega)
                have z7 := (World.cell?_of_block (w := wr) (hg7.block g2 (World.block_lt_of_cell? _ _ z0) (by simp; omega))).trans z0
                have k0 : (0 : Int) ≤ z := by omega
                clear hCz hQz hBz hUz hg7 hds hda HDS HDA hlx HUN hU6
                go_wp2_with fail
                go_roundg (gk - 1)
                case rel => exact ⟨z + 1, kk + 1, by omega, by go_num, by rw [HDS2.out]; exact hC7, by omega, hQ7, hB7, hU7⟩
                case measure => omega
              · obtain rfl : z = J := by omega
                go_wp2_with fail
                go_roundg gz
                case rel =>
                  refine ⟨r + 1, m, T, _, kk, by go_num, by omega, by omega, by omega, hQz, hm, hCz, by omega, ?_, hBz⟩
                  have := HDX.out
                  rw [HJ.out] at this
                  rw [this]
                  exact hI2
                case measure => omega
          · have hK2 : ¬ (0 : Int) < K := by omega
            obtain rfl : L = [] := List.length_eq_zero_iff.1 (by have := HK.out; omega)
            have hW : ∀ k, W k = 0 := fun k => hI.none_ k (fun x hx => by cases hx)
            have hit := items_any p m [] (by simp) w5 hQ5
            have hBw : Below w.heap.size w w5 := hB3.trans (hB5.mono (by omega))
            clear hI hr hgk hQ5
            go_wp2_with fail
            go_loopg [13] N (fun gk t13 wt => ∃ i : Nat, i + gk = N ∧ t13 = .int .i64 i ∧ wt = w5)
            case atStart => exact ⟨0, by omega, rfl, rfl⟩
            case round =>
              obtain ⟨z, hz, rfl, rfl⟩ := hrel
              by_cases hzl : (z : Int) < N
              · have hil : z < l.length := by rw [HN.out]; omega
                obtain ⟨g, off, rfl, hg, d0⟩ := hR.at_ hil
                have hx := hl _ (List.getElem_mem hil)
                have d0 := (World.cell?_of_block (w := w) (hBw.block g hg)).trans d0
                generalize l[z] = x at *
                have hxm : 0 ≤ x % 64 ∧ x % 64 < 64 := by omega
                obtain ⟨x0, x1⟩ := hx
                have i0 : (0 : Int) ≤ z := by omega
                have hlk := hC5.look hxm
                rw [hW] at hlk
                go_wp2_with fail
                go_roundg (gk - 1)
                case rel => exact ⟨z + 1, by omega, by go_num, rfl⟩
                case measure => omega
              · go_wp2_with fail
                refine hit.mono ?_
                rintro e w6 ⟨⟨v, rfl, hRi, _⟩, hb6⟩
                obtain ⟨av2, acap2, rfl⟩ := hRi.len
                simp only [List.length_nil]
                go_wp2_with fail
                go_ret
                exact ⟨rfl, hBw.trans (hb6.mono hBw.size)⟩

theorem told_walk (a : Option Addr) (len cap : Nat) (l : List Int) (many n : Int) (h : (Lit.int .u8 many).wf = true) (h' : (Lit.int .u8 n).wf = true) (w : World) (hI : IsBytes w a len cap l) :
    Calls Try.prog 4 #[.slice a len cap, .int .u8 many, .int .u8 n] w fun e w' => e = .returned (.bool true) ∧ Below w.heap.size w w' := by
  obtain ⟨rfl, h1, h2⟩ := hI
  exact told_core a cap l many n (u8_of h).1 (u8_of h).2 (u8_of h').1 (u8_of h').2 w h1 h2
end Go.Proofs.Ytagdacfgpgcbcaa
