/-
  with. slices.IndexFunc, slices.DeleteFunc. Join. Helpers; shown. Plain mathematics of rounds: what is shuffled has the same things; who is told; who helps; who joins. The reference's round: has, Left; a slice that is appended to an owned row. The reference's Next. The reference's Join, Helpers.
-/
import Derived.Test.YtpoofjnfaijjjaaGreatDoorMNRnx
import Derived.Laws.CopyOwn
import Derived.Lib.SliceRun
namespace Go.Proofs.YtpoofjnfaijjjaaGreatDoor.Rn
open Go.RowKit
theorem splice_all {α : Type} (Z X1 X2 : List α) (x : α) (hZ : Z.length = X1.length + 1 + X2.length) : splice ((splice Z 0 X1).set X1.length x) (X1.length + 1) X2 = X1 ++ x :: X2 := by
  obtain ⟨z, Z', hz⟩ : ∃ z Z', Z.drop X1.length = z :: Z' := by
    cases h : Z.drop X1.length with
    | nil => have := congrArg List.length h; simp at this; omega
    | cons z Z' => exact ⟨z, Z', rfl⟩
  have hl : Z'.length = X2.length := by have := congrArg List.length hz; simp at this; omega
  have e1 : splice Z 0 X1 = X1 ++ z :: Z' := by unfold splice; simp [hz]
  have e2 : (X1 ++ z :: Z').set X1.length x = X1 ++ x :: Z' := by simp
  rw [e1, e2]
  unfold splice
  have e3 : (X1 ++ x :: Z').take (X1.length + 1) = X1 ++ [x] := by
    rw [show X1 ++ x :: Z' = (X1 ++ [x]) ++ Z' by simp]
    exact List.take_left' (by simp)
  have e4 : (X1 ++ x :: Z').drop (X1.length + 1 + X2.length) = [] := List.drop_eq_nil_of_le (by simp; omega)
  rw [e3, e4]
  simp
theorem cut_row (g N n : Nat) (hn : n ≤ N) : ∃ a' cap', (∀ w', (Instr.slice 82 (.slice (some ⟨g, 0, none⟩) N N) (some (.int .i64 (n : Int))) none none).run Tryz.prog w' = .ok (.slice a' (N - n) cap') w') ∧ (0 < N - n → a' = some ⟨g, n, none⟩) := by
  have hr : ∀ w', (Instr.slice 82 (.slice (some ⟨g, 0, none⟩) N N) (some (.int .i64 (n : Int))) none none).run Tryz.prog w' = .ok (sliced (some ⟨g, 0, none⟩) n N N 1) w' := fun w' => by
    rw [run_slice_l (P := Tryz.prog) (w := w') 82 (some ⟨g, 0, none⟩) N N Tryz.elemInt .i64 (n : Int) (by omega) (by omega), Tryz.sizeInt]
    rfl
  by_cases hc : N = n
  · exact ⟨some ⟨g, 0, none⟩, N - n, fun w' => by rw [hr, sliced, if_pos hc], fun h => by omega⟩
  · exact ⟨some ⟨g, n, none⟩, N - n, fun w' => by rw [hr, sliced, if_neg hc]; simp [Addr.add]; omega, fun _ => rfl⟩
theorem nmin {a b c : Nat} (h : a = min b c) : a = Nat.min b c := h
theorem Tryz.sizeOne : (Tryz.prog.info? 3).map (·.size) = some 1 := by kernel_rfl
theorem copy_run (w : World) (a6 a7 : Option Addr) (n c6 c7 g off : Nat) (D X2 : List Value) (B : Nat) (w0 : World) (hg : w.heap[g]? = some (.cells D.toArray 3 (0, 0))) (hn : X2.length = n)
    (hpos : 0 < X2.length → a6 = some ⟨g, off, none⟩ ∧ ∃ ad, a7 = some ad ∧ ∀ j v, X2[j]? = some v → w.cell? (ad.add j) = some v)
    (hfit : off + X2.length ≤ D.length) (h1 : ∀ v ∈ X2, v.oneCell' = true) (hb : Below B w0 w) (hBg : B ≤ g) :
    ∃ w', (Builtin.copy_ #[82, 82] 3 #[.slice a6 n c6, .slice a7 n c7]).run Tryz.prog w = .ok (.int .i64 n) w' ∧ Hid (w'.heap[g]? = some (.cells (splice D off X2).toArray 3 (0, 0))) ∧ Below B w0 w' := by
  subst hn
  by_cases h0 : X2.length = 0
  · obtain rfl : X2 = [] := List.eq_nil_of_length_eq_zero h0
    refine ⟨w, run_copy_none (P := Tryz.prog) w 82 82 3 3 a6 a7 _ _ _ _ Tryz.underlying82 Tryz.sizeOne (by simp), (show _ = _ by simpa [splice] using hg), hb⟩
  · obtain ⟨rfl, ad, rfl, hsrc⟩ := hpos (by omega)
    refine ⟨_, run_copy_row (P := Tryz.prog) w 82 82 3 3 g off _ _ ad _ _ D.toArray 3 X2 Tryz.underlying82 Tryz.sizeOne hg (nmin (by omega)) hsrc (by simpa using hfit) h1, (show _ = _ by simpa [splice] using setRow_heap w g _ _ 3 _ hg), below_setRow hb hBg _⟩
set_option maxRecDepth 100000 in
set_option maxHeartbeats 1000000 in
theorem with_any (v : Value) (s : List Int) (k : Nat) (x : Int) (w : World) (hs : s.length ≤ 1000000) (hk : k ≤ s.length) (hv : Rd .i64 v s w) :
    Calls Tryz.prog 162 #[v, .int .i64 k, .int .i64 x] w fun e w' => (∃ v', e = .returned v' ∧ Rd .i64 v' (s.take k ++ x :: s.drop k) w' ∧ ∀ g, v'.ownBlock = some g → w.heap.size ≤ g ∧ g < w'.heap.size) ∧ Below w.heap.size w w' := by
  obtain ⟨i0, hi, hz0, hz1, hz2⟩ := info_parts Tryz.infoInt
  have hv' := hv
  obtain ⟨a, cap, rfl, hv1, hv2, hv3, hv4⟩ := hv'
  obtain ⟨a7, c7, hcut7, hd7, _⟩ := cut_from hv k hk
  obtain ⟨a6, c6, hcut6, hg6⟩ := cut_row w.heap.size (s.length + 1) (k + 1) (by omega)
  have hcut6' : ∀ w', (Instr.slice 82 (.slice (some ⟨w.heap.size, 0, none⟩) (s.length + 1) (s.length + 1)) (some (.int .i64 ((k : Int) + 1))) none none).run Tryz.prog w' = .ok (.slice a6 (s.length - k) c6) w' := fun w' => by simpa using hcut6 w'
  clear hcut6
  obtain ⟨X1, hX1⟩ : ∃ X1, X1 = (s.take k).map (Value.int .i64) := ⟨_, rfl⟩
  obtain ⟨X2, hX2⟩ : ∃ X2, X2 = (s.drop k).map (Value.int .i64) := ⟨_, rfl⟩
  have l1 : X1.length = k := by rw [hX1]; simp; omega
  have l2 : X2.length = s.length - k := by rw [hX2]; simp
  have o1 : ∀ u ∈ X1, u.oneCell' = true := by rw [hX1]; exact oneCells _ _
  have o2 : ∀ u ∈ X2, u.oneCell' = true := by rw [hX2]; exact oneCells _ _
  have hkc : (k : Int) ≤ cap := by omega
  go_enter Tryz.func162, Tryz.ntmps162
  go_upto_region 1 with fail
  go_upto_region 2 with (at_make; refine wpList_make_full w rfl (.tmp 10) (.tmp 10) 82 rfl w.heap.size 3 i0 (.int .i64 0) 1 Tryz.underlying82 hi hz0 hz1 .i64 .i64 _ _ (s.length + 1) rfl rfl (by simp) (by simp) (by rw [hz2]; omega) (by unfold maxLen; omega) (Nat.le_refl _) ?_; intro w1 hown hgr)
  obtain ⟨cur, hg, hcl⟩ : ∃ cur : List Value, w1.heap[w.heap.size]? = some (.cells cur.toArray 3 (0, 0)) ∧ cur.length = s.length + 1 := by
    rcases hown.2 with ⟨e, _⟩ | ⟨g, cap', cur, e, _, hh, h1, h2, h3, h4⟩
    · cases e
    · cases e
      exact ⟨cur.toList, by simpa using hh, by simpa using h3⟩
  have hb1 : Below w.heap.size w w1 := (Below.refl _ w).grown hgr (Nat.le_refl _) (fun k hk => by cases hk)
  have hvr := hv.below hb1
  clear hown hgr
  have hp1 : 0 < X1.length → ∃ ad, a = some ad ∧ ∀ j u, X1[j]? = some u → w1.cell? (ad.add j) = some u := by
    intro h0
    obtain ⟨g, off, rfl, _⟩ := hvr.at 0 (by omega)
    refine ⟨_, rfl, fun j u hu => ?_⟩
    rw [hX1] at hu
    have hj : j < k := by have := (List.getElem?_eq_some_iff.1 hu).1; simp at this; omega
    refine hvr.cells j u ?_
    rw [← hu]
    simp [hj]
  have HP1 : Hid _ := hp1
  clear hp1
  go_upto_region 3 with (refine wpList_copy_splice rfl (.tmp 12) (.tmp 15) 82 82 rfl 3 Tryz.underlying82 Tryz.sizeOne _ _ _ _ _ _ rfl rfl w.heap.size 0 cur 3 hg X1 (nmin (by omega)) (fun h => ⟨rfl, HP1.out h⟩) (by omega) o1 w.heap.size w hb1 (Nat.le_refl _) ?_; intro w2 HG2 hb2)
  have hlen2 := length_splice cur 0 X1 (by omega)
  have hg2 := HG2.out
  have c2 : w2.cell? ⟨w.heap.size, k, none⟩ = some ((splice cur 0 X1)[k]'(by omega)) := by
    unfold World.cell?
    rw [hg2]
    simp [List.getElem?_eq_getElem (show k < (splice cur 0 X1).length by omega)]
  have f2 : w2.frozen? ⟨w.heap.size, k, none⟩ = false := by simp [World.frozen?, hg2]
  have hg3 : (w2.setCell ⟨w.heap.size, k, none⟩ (.int .i64 x)).drew.heap[w.heap.size]? = some (.cells ((splice cur 0 X1).set k (.int .i64 x)).toArray 3 (0, 0)) := by
    show (w2.setCell ⟨w.heap.size, k, none⟩ (.int .i64 x)).heap[w.heap.size]? = _
    unfold World.setCell
    rw [Array.getElem?_modify, if_pos rfl, hg2]
    simp
  have hb3 : Below w.heap.size w (w2.setCell ⟨w.heap.size, k, none⟩ (.int .i64 x)).drew := (hb2.setCell (p := ⟨w.heap.size, k, none⟩) (Nat.le_refl _) _).drew
  have hfin := splice_all cur X1 X2 (.int .i64 x) (by omega)
  rw [l1] at hfin
  generalize (splice cur 0 X1)[k]'(by omega) = y2 at c2
  have hlD : ((splice cur 0 X1).set k (.int .i64 x)).length = s.length + 1 := by rw [List.length_set, hlen2, hcl]
  generalize (splice cur 0 X1).set k (.int .i64 x) = D at *
  obtain ⟨w3, HW3⟩ : ∃ w3, Hid (w3 = w2.setCell ⟨w.heap.size, k, none⟩ (.int .i64 x)) := ⟨_, rfl⟩
  rw [← HW3.out] at hg3 hb3
  have hvr3 := hd7.below hb3
  have hp2 : 0 < X2.length → a6 = some ⟨w.heap.size, k + 1, none⟩ ∧ ∃ ad, a7 = some ad ∧ ∀ j u, X2[j]? = some u → w3.drew.cell? (ad.add j) = some u := by
    intro h0
    obtain ⟨g, off, rfl, _⟩ := hvr3.at 0 (by simp; omega)
    exact ⟨hg6 (by omega), _, rfl, fun j u hu => hvr3.cells j u (by rw [hX2] at hu; exact hu)⟩
  obtain ⟨w4, hrun, HG4, hb4⟩ := copy_run w3.drew a6 a7 (s.length - k) c6 c7 w.heap.size (k + 1) D X2 w.heap.size w hg3 l2 hp2 (by omega) o2 hb3 (Nat.le_refl _)
  clear hp2
  have HF : Hid _ := hfin
  have HX1 : Hid _ := hX1
  have HX2 : Hid _ := hX2
  have hls : (s.drop k).length = s.length - k := List.length_drop
  have k0 : (0 : Int) ≤ k := by omega
  have k1 : (k : Int) < (s.length : Int) + 1 := by omega
  have k2 : k < s.length + 1 := by omega
  have hwr : IntKind.i64.wrap ((k : Int) + 1) = (k : Int) + 1 := by simp [IntKind.wrap, IntKind.bits, IntKind.signed]; omega
  clear hfin hX1 hX2 hlen2 hg2 hb2 hvr hv4
  go_upto_region 4 with fail
  rw [← HW3.out]
  go_region
  all_goals
    go_wp2_with fail
    go_ret
    have hg4 := HG4.out
    rw [HF.out, HX1.out, HX2.out] at hg4
    have hlt : w.heap.size < w4.heap.size := (Array.getElem?_eq_some_iff.1 hg4).1
    have hL : (s.take k ++ x :: s.drop k).length = s.length + 1 := by simp; omega
    refine ⟨⟨.slice (some ⟨w.heap.size, 0, none⟩) (s.length + 1) (s.length + 1), rfl, ⟨_, s.length + 1, by rw [hL], by omega, by unfold maxLen; omega, (fun e => by cases e), Or.inr ⟨w.heap.size, 0, rfl, fun j hj => ?_⟩⟩, fun g hg => by cases hg; exact ⟨Nat.le_refl _, hlt⟩⟩, hb4⟩
    unfold World.cell?
    rw [hg4]
    have : (s.take k).map (Value.int .i64) ++ Value.int .i64 x :: (s.drop k).map (Value.int .i64) = (s.take k ++ x :: s.drop k).map (Value.int .i64) := by simp
    rw [this]
    simp only [Nat.zero_add, List.getElem?_toArray]
    rw [List.getElem?_map, List.getElem?_eq_getElem hj]
    rfl
theorem below_setCells {B b : Nat} {a : World} (hB : B ≤ b) : ∀ (vs : List Value) (o : Nat) (w : World), Below B a w → Below B a (w.setCells b o vs)
  | [], _, _, h => h
  | v :: r, o, w, h => by
    rw [World.setCells]
    exact below_setCells hB r (o + 1) _ (h.setCell (p := ⟨b, o, none⟩) hB v)
set_option maxHeartbeats 400000 in
theorem indexf_any (g : Nat) (cap : Nat) (s : List Int) (F : FuncId) (caps : Array Value) (b : Int → Bool) (w : World) (hs : s.length ≤ 1000000) (hW : Wn .i64 g s w) (hF : ∀ args w', (callFunc F args).run Tryz.prog w' = .ok (.enter F args) w')
    (hcl : ∀ x, Calls Tryz.prog F (#[.int .i64 x] ++ caps) w fun e w'' => e = .returned (.bool (b x)) ∧ w'' = w) :
    Calls Tryz.prog 187 #[.slice (some ⟨g, 0, none⟩) s.length cap, .func (.func F) #[] caps] w fun e w' => ((∃ n : Nat, e = .returned (.int .i64 n) ∧ ∃ h : n < s.length, b s[n] = true ∧ ∀ x ∈ s.take n, b x = false) ∨ (e = .returned (.int .i64 (-1)) ∧ ∀ x ∈ s, b x = false)) ∧ w' = w := by
  go_enter Tryz.func187, Tryz.ntmps187
  go_wp2_with fail
  go_loopg [8] s.length (fun gk t8 wr => ∃ i : Nat, i + gk = s.length ∧ t8 = .int .i64 i ∧ (∀ x ∈ s.take i, b x = false) ∧ wr = w)
  case atStart => exact ⟨0, by omega, rfl, by simp, rfl⟩
  case round =>
    obtain ⟨i, hi, rfl, hx, rfl⟩ := hrel
    by_cases hlt : (i : Int) < s.length
    · have i0 : (0 : Int) ≤ i := by omega
      have hil : i < s.length := by omega
      have c1 := hW.cell i hil
      have hb := hcl s[i]
      have HX : Hid (∀ x ∈ s.take i, b x = false) := hx
      have hat : Hid (b s[i] = true → ∃ h : i < s.length, b s[i] = true ∧ ∀ x ∈ s.take i, b x = false) := fun e => ⟨hil, e, HX.out⟩
      have hns : b s[i] = false → ∀ x ∈ s.take (i + 1), b x = false := fun e x hm => by
        rw [List.take_add_one, List.getElem?_eq_getElem hil] at hm
        rcases List.mem_append.1 hm with hm | hm
        · exact hx x hm
        · have e' : x = s[i] := by simpa using hm
          rw [e']; exact e
      clear hcl
      obtain ⟨y, hy⟩ : ∃ y, y = s[i] := ⟨_, rfl⟩
      rw [← hy] at c1 hb hns
      have HY : Hid _ := hy
      clear hy
      cases hbk : b y
      case false =>
        have hns := hns hbk
        rw [hbk] at hb
        clear hat
        go_wp2_with fail
        refine hb.mono ?_
        rintro e w1 ⟨rfl, rfl⟩
        go_wp2_with fail
        go_roundg (gk - 1)
        case rel => exact ⟨i + 1, by omega, by go_num, hns, rfl⟩
        case measure => omega
      case true =>
        rw [hbk] at hb
        clear hns
        go_wp2_with fail
        refine hb.mono ?_
        rintro e w1 ⟨rfl, rfl⟩
        go_wp2_with fail
        go_ret
        exact ⟨Or.inl ⟨i, rfl, hat.out (by rw [← HY.out]; exact hbk)⟩, rfl⟩
    · obtain rfl : i = s.length := by omega
      rw [List.take_length] at hx
      have HX : Hid _ := hx
      clear hx
      go_wp2_with fail
      go_ret
      exact ⟨Or.inr ⟨rfl, HX.out⟩, rfl⟩
structure Del (b : Int → Bool) (s r : List Int) (i j : Nat) : Prop where
  len : r.length = s.length
  lt : i < j
  le : j ≤ s.length
  done : r.take i = (s.take j).filter (fun x => !b x)
  rest : r.drop j = s.drop j
theorem Del.start {b : Int → Bool} {s : List Int} {n : Nat} (h : n < s.length) (hb : b s[n] = true) (hx : ∀ x ∈ s.take n, b x = false) : Del b s s n (n + 1) := by
  refine ⟨rfl, Nat.lt_succ_self _, h, ?_, rfl⟩
  rw [List.take_add_one, List.getElem?_eq_getElem h, List.filter_append, List.filter_eq_self.2 (fun x hm => by rw [hx x hm]; rfl)]
  simp [hb]
theorem Del.at {b : Int → Bool} {s r : List Int} {i j : Nat} (h : Del b s r i j) (hj : j < s.length) : r[j]'(by rw [h.len]; exact hj) = s[j] := by
  have := congrArg (fun l => l[0]?) h.rest
  simp only [List.getElem?_drop, Nat.add_zero] at this
  rw [List.getElem?_eq_getElem hj, List.getElem?_eq_getElem (by rw [h.len]; exact hj)] at this
  exact Option.some.inj this
theorem Del.skip {b : Int → Bool} {s r : List Int} {i j : Nat} (h : Del b s r i j) (hj : j < s.length) (hb : b s[j] = true) : Del b s r i (j + 1) := by
  refine ⟨h.len, by have := h.lt; omega, hj, ?_, ?_⟩
  · rw [h.done, List.take_add_one, List.getElem?_eq_getElem hj, List.filter_append]
    simp [hb]
  · have := congrArg (List.drop 1) h.rest
    simpa [List.drop_drop, Nat.add_comm] using this
theorem Del.put {b : Int → Bool} {s r : List Int} {i j : Nat} (h : Del b s r i j) (hj : j < s.length) (hb : b s[j] = false) : Del b s (r.set i s[j]) (i + 1) (j + 1) := by
  have h1 := h.lt
  have hl := h.len
  refine ⟨by rw [List.length_set]; exact hl, by omega, hj, ?_, ?_⟩
  · rw [List.take_add_one (l := s), List.getElem?_eq_getElem hj, List.filter_append, ← h.done, List.take_add_one, List.take_set_of_le (Nat.le_refl _)]
    rw [List.getElem?_eq_getElem (by rw [List.length_set]; omega)]
    simp [hb]
  · have := congrArg (List.drop 1) h.rest
    rw [List.drop_set_of_lt (by omega)]
    simpa [List.drop_drop, Nat.add_comm] using this
theorem Tryz.zeroI (w : World) : (zeroValue 3).run Tryz.prog w = .ok (.int .i64 0) w := by
  have h : Tryz.t3.zero = some (.int .i64 0) := by kernel_rfl
  simp [zeroValue, h]
theorem clear_run (g i n c : Nat) (w : World) (r : List Int) (hW : Wn .i64 g r w) (hi : i < n) (hn : n ≤ r.length) : ∃ w', (∀ ty, (Builtin.clear_ #[82] ty #[.slice (some ⟨g, i, none⟩) (n - i) c]).run Tryz.prog w = .ok (.tuple #[]) w') ∧ (∀ j (hj : j < i), w'.cell? ⟨g, j, none⟩ = some (.int .i64 (r[j]'(by omega)))) ∧ ∀ B a, B ≤ g → Below B a w → Below B a w' := by
  refine ⟨_, fun ty => Lib.run_clear_slice (P := Tryz.prog) w 82 3 ty (.int .i64 0) Tryz.underlying82 Tryz.zeroI rfl rfl g i (n - i) c (by omega) (fun j hj => by rw [hW.cell (i + j) (by omega)]; rfl) (fun j hj => hW.free (i + j) (by omega)), fun j hj => ?_, fun B a hB hb => below_setCells hB _ _ _ hb⟩
  rw [World.cell?_setCells_out _ _ _ _ _ (fun _ _ => Or.inl hj)]
  exact hW.cell j (by omega)
theorem cut_rest (g N i cap : Nat) (hi : i < N) (hN : N ≤ cap) : ∀ w', (Instr.slice 82 (.slice (some ⟨g, 0, none⟩) N cap) (some (.int .i64 (i : Int))) none none).run Tryz.prog w' = .ok (.slice (some ⟨g, i, none⟩) (N - i) (cap - i)) w' := fun w' => by
  rw [run_slice_l (P := Tryz.prog) (w := w') 82 (some ⟨g, 0, none⟩) N cap Tryz.elemInt .i64 (i : Int) (by omega) (by omega), Tryz.sizeInt]
  show Result.ok (sliced _ _ _ _ _) _ = _
  rw [sliced, if_neg (by omega)]
  simp [Addr.add]
  omega
set_option maxRecDepth 100000 in
set_option maxHeartbeats 1000000 in
theorem delete_any (g : Nat) (cap : Nat) (s : List Int) (F : FuncId) (caps : Array Value) (b : Int → Bool) (w : World) (hs : s.length ≤ 1000000) (hcap : s.length ≤ cap) (hcm : cap ≤ maxLen) (hW : Wn .i64 g s w) (hF : ∀ args w', (callFunc F args).run Tryz.prog w' = .ok (.enter F args) w')
    (hcl : ∀ x w', Below g w w' → Calls Tryz.prog F (#[.int .i64 x] ++ caps) w' fun e w'' => e = .returned (.bool (b x)) ∧ w'' = w') :
    Calls Tryz.prog 152 #[.slice (some ⟨g, 0, none⟩) s.length cap, .func (.func F) #[] caps] w fun e w' => (∃ a c, e = .returned (.slice a (s.filter (fun x => !b x)).length c) ∧ Rd .i64 (.slice a (s.filter (fun x => !b x)).length c) (s.filter (fun x => !b x)) w' ∧ a = some ⟨g, 0, none⟩) ∧ Below g w w' := by
  have hI := indexf_any g cap s F caps b w hs hW hF (fun x => hcl x w (Below.refl _ _))
  obtain ⟨t, HT⟩ : ∃ t, Hid (s.filter (fun x => !b x) = t) := ⟨_, rfl⟩
  rw [HT.out]
  go_enter Tryz.func152, Tryz.ntmps152
  go_wp2_with fail
  refine hI.mono ?_
  rintro e w1 ⟨(⟨n, rfl, hn, hb, hx⟩ | ⟨rfl, hx⟩), hw1⟩
  · subst hw1
    have HD : Hid (Del b s s n (n + 1)) := Del.start hn hb hx
    have hn1 : ((n : Int) == -1) = false := by rw [beq_eq_false_iff_ne]; omega
    clear hb hx hI
    go_wp2_with fail
    go_loopg [5, 6] s.length (fun gk t5 t6 wr => ∃ (i j : Nat) (r : List Int), s.length ≤ j + gk ∧ t5 = .int .i64 i ∧ t6 = .int .i64 j ∧ Hid (Del b s r i j) ∧ Wn .i64 g r wr ∧ Below g w1 wr)
    case atStart => exact ⟨n, n + 1, s, by omega, rfl, by go_num, HD, hW, Below.refl _ _⟩
    case round =>
      obtain ⟨i, j, r, hg, rfl, rfl, HD, hWr, hB⟩ := hrel
      have hlen := HD.out.len
      have hij := HD.out.lt
      have hjl := HD.out.le
      by_cases hlt : (j : Int) < s.length
      · have hj : j < s.length := by omega
        have j0 : (0 : Int) ≤ j := by omega
        have i0 : (0 : Int) ≤ i := by omega
        have i1 : (i : Int) < s.length := by omega
        have c1 := hWr.cell j (by omega)
        have c2 := hWr.cell i (by omega)
        have f2 := hWr.free i (by omega)
        rw [HD.out.at hj] at c1
        have hsk : b s[j] = true → Hid (Del b s r i (j + 1)) := fun e => HD.out.skip hj e
        have hpt : b s[j] = false → Hid (Del b s (r.set i s[j]) (i + 1) (j + 1)) := fun e => HD.out.put hj e
        have hW2 := hWr.set i (by omega) s[j]
        have hb := hcl s[j] wr hB
        clear hcl hW HD
        generalize s[j] = y at *
        generalize r[i]'(by omega) = z at c2
        cases hbk : b y
        case true =>
          have hsk := hsk hbk
          rw [hbk] at hb
          clear hpt hW2
          go_wp2_with fail
          refine hb.mono ?_
          rintro e w2 ⟨rfl, hw2⟩
          subst hw2
          go_wp2_with fail
          go_roundg (gk - 1)
          case rel => exact ⟨i, j + 1, r, by omega, rfl, by go_num, hsk, hWr, hB⟩
          case measure => omega
        case false =>
          have hpt := hpt hbk
          rw [hbk] at hb
          clear hsk
          go_wp2_with fail
          refine hb.mono ?_
          rintro e w2 ⟨rfl, hw2⟩
          subst hw2
          go_wp2_with fail
          go_roundg (gk - 1)
          case rel => exact ⟨i + 1, j + 1, r.set i y, by omega, by go_num, by go_num, hpt, hW2, hB.setCell (p := ⟨g, i, none⟩) (Nat.le_refl _) _⟩
          case measure => omega
      · obtain rfl : j = s.length := by omega
        have hd := HD.out.done
        rw [List.take_length, HT.out] at hd
        have hti : t.length = i := by rw [← hd, List.length_take]; omega
        have hcut := cut_rest g s.length i cap hij hcap
        obtain ⟨w5, hclear, hcell, hbel⟩ := clear_run g i s.length (cap - i) wr r hWr hij (by omega)
        have hB5 := hbel g w1 (Nat.le_refl _) hB
        have hic : (i : Int) ≤ cap := by omega
        have HC : Hid _ := hcell
        have HD' : Hid _ := hd
        clear hbel hcell hd hW hcl HD
        go_wp2_with fail
        go_ret
        refine ⟨⟨some ⟨g, 0, none⟩, cap, rfl, ⟨_, cap, by rw [hti], by omega, hcm, (fun e => by cases e), Or.inr ⟨g, 0, rfl, fun j hj => ?_⟩⟩, rfl⟩, hB5⟩
        have hr := HC.out j (by omega)
        rw [Nat.zero_add, hr]
        congr 2
        have := congrArg (fun l => l[j]?) HD'.out
        rw [List.getElem?_eq_getElem hj, List.getElem?_take, if_pos (by omega), List.getElem?_eq_getElem (by omega)] at this
        exact Option.some.inj this
  · subst hw1
    have ht : s = t := by rw [← HT.out]; exact (List.filter_eq_self.2 (fun x hm => by rw [hx x hm]; rfl)).symm
    clear hx hI
    subst ht
    go_wp2_with fail
    go_ret
    exact ⟨⟨_, cap, rfl, hW.rd hcap hcm, rfl⟩, Below.refl _ _⟩
variable {X : Value → Array Value} {G : Nat → Prop}
theorem joinS_in {s : List Int} {x : Int} (l : List Int) (h : x ∈ s) : joinS s x l = (s, l) := by unfold joinS; rw [if_pos h]
theorem joinS_new {s : List Int} {x : Int} (l : List Int) (h : x ∉ s) : joinS s x l = (s.take (belowS l (s.length + 1)).1.toNat ++ x :: s.drop (belowS l (s.length + 1)).1.toNat, (belowS l (s.length + 1)).2) := by unfold joinS; rw [if_neg h]
theorem joinS_ok (s : List Int) (x : Int) {l : List Int} (h : Ok l) : Ok (joinS s x l).2 := by
  unfold joinS
  split
  · exact h
  · exact h.below _
theorem below_le (l : List Int) (n : Nat) : ∃ k : Nat, (belowS l ((n : Int) + 1)).1 = k ∧ k ≤ n := by
  obtain ⟨h0, h1⟩ := belowS_range l ((n : Int) + 1)
  refine ⟨(belowS l ((n : Int) + 1)).1.toNat, by omega, ?_⟩
  by_cases h : 2 ≤ (n : Int) + 1
  · have := h1 h; omega
  · have : belowS l ((n : Int) + 1) = (0, l) := by unfold belowS; rw [if_pos (by omega)]
    rw [this]; simp
set_option maxRecDepth 100000 in
set_option maxHeartbeats 1000000 in
theorem rjoin_any (Bp q p : Nat) (s l : List Int) (x : Int) (w : World) (hs : s.length ≤ 1000000) (hR : Rn 1 X 94 G q s w) (hL : Lt Bp p l w) (hok : Ok l) (hq : q < Bp ∨ p < q) (hp : ¬ G p) :
    Calls Tryz.prog 127 #[.pointer (some ⟨q, 1, none⟩), .int .i64 x, .pointer (some ⟨p, 0, none⟩)] w fun e w' => e = .returned (.tuple #[]) ∧ Rn 1 X 94 G q (joinS s x l).1 w' ∧ Lt Bp p (joinS s x l).2 w' ∧ Mv q p w w' := by
  have ba := below_alloc w (.cells #[.int .i64 x] 3)
  have hbx := heap_alloc_new w (.cells #[.int .i64 x] 3)
  have hR1 := hR.below ba
  have hL1 := hL.below ba
  have hM1 : Mv q p w _ := Mv.of ba
  obtain ⟨w1, HW1⟩ : ∃ w1, Hid (w1 = w.alloc (.cells #[.int .i64 x] 3)) := ⟨_, rfl⟩
  rw [← HW1.out] at ba hbx hR1 hL1 hM1
  obtain ⟨a, cap, hc, hf, hd, hg⟩ := hR1.cell
  have hbc : w1.cell? ⟨w.heap.size, 0, none⟩ = some (.int .i64 x) := by simp [World.cell?, hbx]
  have hplace : Calls Tryz.prog 130 #[.pointer (some ⟨q, 1, none⟩), .func (.func 161) #[] #[.pointer (some ⟨w.heap.size, 0, none⟩)]] w1 fun e w'' => e = .returned (.int .i64 (s.findIdx (fun y => decide (y = x)))) ∧ w'' = w1 := place_any q s _ _ _ w1 hs hR1 (enter_of Tryz.func161 (by kernel_rfl) rfl) fun y => alike_any w.heap.size y x w1 hbx
  by_cases hx : x ∈ s
  · rw [joinS_in l hx]
    have hlt : ((s.findIdx (fun y => decide (y = x)) : Nat) : Int) < (s.length : Int) := by
      have := List.findIdx_lt_length_of_exists (p := fun y => decide (y = x)) ⟨x, hx, by simp⟩
      omega
    generalize s.findIdx (fun y => decide (y = x)) = m at *
    go_enter Tryz.func127, Tryz.ntmps127
    go_upto_region 1 with fail
    rw [← HW1.out]
    go_wp2_with fail
    refine hplace.mono ?_
    rintro e w2 ⟨rfl, rfl⟩
    go_wp2_with fail
    refine bodyPost_ret (results_none rfl _ _ _) rfl ?_
    exact ⟨rfl, hR1, hL1, hM1⟩
  · rw [joinS_new l hx]
    have hle : s.findIdx (fun y => decide (y = x)) = s.length := by
      rw [List.findIdx_eq_length]
      intro y hy
      simp
      intro e
      rw [e] at hy
      exact hx hy
    rw [hle] at hplace
    obtain ⟨k, hk, hks⟩ := below_le l s.length
    rw [hk, Int.toNat_natCast]
    have hwr : IntKind.i64.wrap ((s.length : Int) + 1) = (s.length : Int) + 1 := by simp [IntKind.wrap, IntKind.bits, IntKind.signed]; omega
    have hbel : ∀ w', w'.heap = w1.heap → w'.os = w1.os → w'.tape = w1.tape → w'.output = w1.output → Calls Tryz.prog 163 #[.pointer (some ⟨p, 0, none⟩), .int .i64 ((s.length : Int) + 1)] w' fun e w'' => e = .returned (.int .i64 (k : Int)) ∧ w''.cell? ⟨q, 1, none⟩ = some (.slice a s.length cap) ∧ w''.cell? ⟨w.heap.size, 0, none⟩ = some (.int .i64 x) ∧ Rd .i64 (.slice a s.length cap) s w'' ∧ Rn 1 X 94 G q s w'' ∧ Lt Bp p (belowS l ((s.length : Int) + 1)).2 w'' ∧ Mv q p w w'' := fun w' h1 h2 h3 h4 => by
      have hL' : Lt Bp p l w' := hL1.keep fun g _ _ => by rw [h1]
      have hM' : Mv q p w1 w' := ⟨h2, h3, h4, by rw [h1]; exact Nat.le_refl _, fun k _ _ _ => by rw [h1]⟩
      have hR' : Rn 1 X 94 G q s w' := hR1.keep (by rw [h1]; exact Nat.le_refl _) fun g _ _ => by rw [h1]
      have hpq : p ≠ q := by have := hL.le; omega
      refine (below_any Bp p l ((s.length : Int) + 1) w' hL' hok (by omega)).mono ?_
      rintro e w2 ⟨rfl, hL2, hB2⟩
      rw [hk]
      refine ⟨rfl, ?_, ?_, ?_, hR'.but hB2 ⟨hpq, hp⟩, hL2, (hM1.trans hM').trans (Mv.ofBut hB2)⟩
      · rw [← hc]
        refine (World.cell?_of_block (w := w') (hB2.block q (by rw [h1]; exact hR1.ltw) (Ne.symm hpq))).trans ?_
        exact World.cell?_of_block (w := w1) (by rw [h1])
      · rw [← hbc]
        have hlt : w.heap.size < w1.heap.size := (Array.getElem?_eq_some_iff.1 hbx).1
        refine (World.cell?_of_block (w := w') (hB2.block w.heap.size (by rw [h1]; exact hlt) (by have := hL.lt; omega))).trans ?_
        exact World.cell?_of_block (w := w1) (by rw [h1])
      · refine hd.keep fun g hg' hlt => (hB2.block g (by rw [h1]; exact hlt) (fun e => hp (e ▸ (hg g hg').1))).trans (by rw [h1])
    have hwith := fun w' h => with_any (.slice a s.length cap) s k x w' hs hks h
    have HK : Hid _ := hk
    generalize (belowS l ((s.length : Int) + 1)).2 = l' at *
    have hlen : (s.take k ++ x :: s.drop k).length = s.length + 1 := by simp; omega
    generalize s.take k ++ x :: s.drop k = t at *
    clear hk hle
    go_enter Tryz.func127, Tryz.ntmps127
    go_upto_region 1 with fail
    rw [← HW1.out]
    go_wp2_with fail
    refine hplace.mono ?_
    rintro e w2 ⟨rfl, hw2⟩
    subst hw2
    go_wp2_with fail
    go_region_with (first
      | (go_at_call 163; refine (hbel _ (by rfl) (by rfl) (by rfl) (by rfl)).mono ?_; rintro e w3 ⟨rfl, c3, b3, d3, hR3, hL3, hM3⟩)
      | (go_at_call 162; refine (hwith _ d3).mono ?_; rintro e w4 ⟨⟨v4, rfl, d4, g4⟩, hb4⟩; obtain ⟨a4, cap4, rfl⟩ : ∃ a4 cap4, v4 = .slice a4 (s.length + 1) cap4 := (by obtain ⟨a4, cap4, e4, _⟩ := d4; exact ⟨a4, cap4, by rw [e4, hlen]⟩); have hR4 := Rn.below hR3 hb4; obtain ⟨a5, cap5, c5, f5, _⟩ := hR4.cell))
    all_goals
      go_wp2_with fail
      go_end0
      exact ⟨rfl, hR4.put (hlen ▸ d4) fun g hg' => ⟨hR3.fresh g (g4 g hg').1, (g4 g hg').2⟩, (hL3.below hb4).set hq, (hM3.trans (Mv.of hb4)).set _⟩
variable {X : Value → Array Value} {G : Nat → Prop}
set_option maxHeartbeats 400000 in
theorem deln_any (cap : Nat) (F : FuncId) (caps : Array Value) (w : World) :
    Calls Tryz.prog 152 #[.slice none 0 cap, .func (.func F) #[] caps] w fun e w' => e = .returned (.slice none 0 cap) ∧ w' = w := by
  have hI : Calls Tryz.prog 187 #[.slice none 0 cap, .func (.func F) #[] caps] w fun e w' => e = .returned (.int .i64 (-1)) ∧ w' = w := by
    go_enter Tryz.func187, Tryz.ntmps187
    go_wp2_with fail
    go_loopg [8] 0 (fun gk t8 wr => t8 = .int .i64 0 ∧ wr = w)
    case atStart => exact ⟨rfl, rfl⟩
    case round =>
      obtain ⟨rfl, rfl⟩ := hrel
      go_wp2_with fail
      go_ret
      exact ⟨rfl, rfl⟩
  go_enter Tryz.func152, Tryz.ntmps152
  go_wp2_with fail
  refine hI.mono ?_
  rintro e w1 ⟨rfl, rfl⟩
  go_wp2_with fail
  go_ret
  exact ⟨rfl, rfl⟩
theorem delc_any (B : Nat) (v : Value) (s : List Int) (x : Int) (bx : Nat) (w : World) (hs : s.length ≤ 1000000) (hv : w.ownsRow B 3 1 v s.length (s.map (Value.int .i64))) (hbx : w.heap[bx]? = some (.cells #[.int .i64 x] 3 (0, 0))) (hlt : bx < B) :
    Calls Tryz.prog 152 #[v, .func (.func 154) #[] #[.pointer (some ⟨bx, 0, none⟩)]] w fun e w' => (∃ a c, e = .returned (.slice a (s.filter (fun y => !decide (y = x))).length c) ∧ Rd .i64 (.slice a (s.filter (fun y => !decide (y = x))).length c) (s.filter (fun y => !decide (y = x))) w' ∧ ∀ g, (Value.slice a 0 0).ownBlock = some g → B ≤ g ∧ g < w'.heap.size) ∧ Below B w w' := by
  rcases Wn.of hv with ⟨rfl, rfl⟩ | ⟨g, cap, rfl, hg, hgz, h1, h2, hW⟩
  · refine (deln_any 0 _ _ w).mono ?_
    rintro e w1 ⟨rfl, rfl⟩
    exact ⟨⟨none, 0, rfl, Rd.nil _ _, fun g hg => by cases hg⟩, Below.refl _ _⟩
  · refine (delete_any g cap s 154 #[.pointer (some ⟨bx, 0, none⟩)] (fun y => decide (y = x)) w hs h1 h2 hW (enter_of Tryz.func154 (by kernel_rfl) rfl) (fun y w' hb => isnot_any bx y x w' ((hb.block bx (by omega)).trans hbx))).mono ?_
    rintro e w1 ⟨⟨a, c, rfl, hR, rfl⟩, hb⟩
    exact ⟨⟨_, c, rfl, hR, fun g' hg' => by cases hg'; exact ⟨hg, Nat.lt_of_lt_of_le hgz hb.size⟩⟩, hb.mono hg⟩
theorem helpS_ok (o : List Int) (x n : Int) {l : List Int} (h : Ok l) : Ok (helpS o x n l).2 := someS_ok _ _ h
set_option maxHeartbeats 1000000 in
theorem help_any (Bp p : Nat) (v : Value) (o l : List Int) (x n : Int) (w : World) (hol : o.length ≤ 1000000) (hn : n < 9223372036854775808) (hv : Rd .i64 v o w) (hL : Lt Bp p l w) (hok : Ok l) :
    Calls Tryz.prog 121 #[v, .int .i64 x, .int .i64 n, .pointer (some ⟨p, 0, none⟩)] w fun e w' => (∃ v', e = .returned v' ∧ Rd .i64 v' (helpS o x n l).1 w' ∧ ∀ g, v'.ownBlock = some g → w.heap.size ≤ g ∧ g < w'.heap.size) ∧ Lt Bp p (helpS o x n l).2 w' ∧ But w.heap.size p w w' := by
  have ba := below_alloc w (.cells #[.int .i64 x] 3)
  have hbx := heap_alloc_new w (.cells #[.int .i64 x] 3)
  have hL1 := hL.below ba
  have hv1 := hv.below ba
  obtain ⟨w1, HW1⟩ : ∃ w1, Hid (w1 = w.alloc (.cells #[.int .i64 x] 3)) := ⟨_, rfl⟩
  rw [← HW1.out] at ba hbx hL1 hv1
  have hlt : w.heap.size < w1.heap.size := (Array.getElem?_eq_some_iff.1 hbx).1
  have hfl : (o.filter (fun y => !decide (y = x))).length ≤ 1000000 := Nat.le_trans (List.length_filter_le _ _) hol
  unfold helpS
  have hdel := fun w' v' h1 h2 => delc_any w1.heap.size v' o x w.heap.size w' hol h1 h2 hlt
  have hv' := hv
  obtain ⟨va, vcap, rfl, _⟩ := hv'
  generalize o.filter (fun y => !decide (y = x)) = f at *
  go_enter Tryz.func121, Tryz.ntmps121
  go_upto_region 1 with fail
  rw [← HW1.out]
  go_wp2_with fail
  refine (cloneI_any _ o w1 hol hv1).mono ?_
  rintro e w2 ⟨v2, rfl, hown, hb2⟩
  have hbx2 := (hb2.block _ hlt).trans hbx
  have hL2 := hL1.below hb2
  go_wp2_with fail
  refine (hdel w2 v2 hown hbx2).mono ?_
  rintro e w3 ⟨⟨a3, c3, rfl, hR3, hg3⟩, hb3⟩
  have hz2 := hb2.size
  have hz3 := hb3.size
  have hL3 : Lt Bp p l w3 := hL2.keep fun g _ hg => hb3.block g (by have := hL1.lt; omega)
  go_wp2_with fail
  refine (some_any Bp p _ f l n w3 hfl hn hR3 hL3 hok).mono ?_
  rintro e w4 ⟨⟨v4, rfl, hR4, hg4⟩, hL4, hB4⟩
  obtain ⟨a4, cap4, e4, _⟩ := id hR4
  subst e4
  go_wp2_with fail
  go_ret
  have hb13 : Below w.heap.size w w3 := (ba.trans (hb2.mono (Nat.le_of_lt hlt))).trans (hb3.mono (Nat.le_of_lt hlt))
  exact ⟨⟨_, rfl, hR4, fun g hg => ⟨by have := (hg4 g hg).1; omega, (hg4 g hg).2⟩⟩, hL4, (But.of hb13).trans (hB4.mono hb13.size)⟩
theorem rnext_any (Bp q p : Nat) (v : Value) (s o l : List Int) (w : World) (hs : s.length ≤ 1000000) (hol : o.length ≤ 1000000) (hv : Rd .i64 v o w) (hvo : ∀ g, v.ownBlock = some g → g ≠ q) (hR : Rn 1 X 94 G q s w) (hL : Lt Bp p l w) (hok : Ok l) (hq : q < Bp ∨ p < q) (hp : ¬ G p) :
    Calls Tryz.prog 87 #[.pointer (some ⟨q, 1, none⟩), v, .pointer (some ⟨p, 0, none⟩)] w fun e w' => e = .returned (.tuple #[.int .i64 (nxtS s o l).1.1, .bool (nxtS s o l).1.2]) ∧ Rn 1 X 94 G q (nxtS s o l).2.1 w' ∧ Lt Bp p (nxtS s o l).2.2 w' ∧ Mv q p w w' := by
  by_cases ho : o = []
  · subst ho
    rw [nxtS_nil]
    exact rnext_none Bp q p v s l w hv hR hL
  · exact rnext_some Bp q p v s o l w ho hs hol hv hvo hR hL hok hq hp
end Go.Proofs.YtpoofjnfaijjjaaGreatDoor.Rn
namespace Go.Proofs.YtpoofjnfaijjjaaGreatDoor.Rn
theorem sw_perm (s : List Int) (i k : Nat) (hi : i < s.length) (hk : k < s.length) : (sw s i k).Perm s := by
  rw [← sw_eq s i k hi hk]
  exact List.set_set_perm hi hk
theorem shufGo_perm (i : Nat) : ∀ s l, i < s.length → (shufGo i s l).1.Perm s := by
  induction i with
  | zero => intro s l _; exact List.Perm.refl _
  | succ i ih =>
    intro s l h
    have hr := belowS_range l ((i : Int) + 2)
    have hk := hr.2 (by omega)
    rw [shufGo]
    exact (ih _ _ (by rw [sw_length]; omega)).trans (sw_perm s (i + 1) _ h (by omega))
theorem shufS_perm (s l : List Int) : (shufS s l).1.Perm s := by
  unfold shufS
  rcases Nat.eq_zero_or_pos s.length with h | h
  · rw [h]; exact List.Perm.refl _
  · exact shufGo_perm _ _ _ (by omega)
theorem nxt_mem {s o : List Int} (l : List Int) (ho : o ≠ []) : (nxtS s o l).1.2 = true ∧ (nxtS s o l).1.1 ∈ o := by
  unfold nxtS
  rw [if_neg ho]
  split
  · refine ⟨rfl, ?_⟩
    have hl := shufS_length o l
    have hp := shufS_perm o l
    cases h : (shufS o l).1 with
    | nil => rw [h] at hl; exact absurd (List.length_eq_zero_iff.1 hl.symm) ho
    | cons y r =>
      have : y ∈ (shufS o l).1 := by rw [h]; simp
      exact hp.mem_iff.1 this
  · rename_i h
    refine ⟨rfl, ?_⟩
    cases hd : s.dropWhile (fun x => !decide (x ∈ o)) with
    | nil => exact absurd hd h
    | cons y r =>
      have h2 : (s.dropWhile (fun x => !decide (x ∈ o))) ≠ [] := by rw [hd]; simp
      have := List.head_dropWhile_not (fun x => !decide (x ∈ o)) h2
      simp only [hd, List.head_cons] at this
      simpa using this
end Go.Proofs.YtpoofjnfaijjjaaGreatDoor.Rn
namespace Go.Proofs.YtpoofjnfaijjjaaGreatDoor.Rn
open Go.RowKit
def RX : Value → Array Value := fun v => #[v]
theorem hole_rx : Hole 0 RX := by
  refine ⟨?_, ?_⟩ <;> intros <;> simp [RX]
theorem Rn.first0 {T : TypeId} {G : Nat → Prop} {q : Nat} {y : Int} {r : List Int} {w : World} (h : Rn 0 RX T G q (y :: r) w) : ∃ g off cap a' cap', w.cell? ⟨q, 0, none⟩ = some (.slice (some ⟨g, off, none⟩) (r.length + 1) cap) ∧ w.frozen? ⟨q, 0, none⟩ = false ∧ w.cell? ⟨g, off, none⟩ = some (.int .i64 y) ∧
    (∀ w', (Instr.slice 82 (.slice (some ⟨g, off, none⟩) (r.length + 1) cap) (some (.int .i64 1)) none none).run Tryz.prog w' = .ok (.slice a' r.length cap') w') ∧ Rn 0 RX T G q r (w.setCell ⟨q, 0, none⟩ (.slice a' r.length cap')) := by
  obtain ⟨a, cap, hc, hf, hd, hg⟩ := h.cell
  obtain ⟨g, off, rfl, hx⟩ := hd.at 0 (by simp)
  obtain ⟨a', cap', h1, h2, h3⟩ := cut_from hd 1 (by simp)
  exact ⟨g, off, cap, a', cap', hc, hf, by simpa using hx, fun w' => by simpa using h1 w', h.put (by simpa using h2) fun g' hg' => hg g' (h3 _ _ _ hg')⟩
theorem Lf.set {w0 : World} {r q : Nat} {v u : Value} {l m : List Int} {w : World} (h : Lf w0 r v l m w) (hq : r ≠ q ∧ w0.heap.size ≤ q) : Lf w0 r v l m (w.setCell ⟨q, 0, none⟩ u) :=
  h.keep (Below.heap_setCell _ _ _ _ hq.1) ((Below.refl _ _).setCell (p := ⟨q, 0, none⟩) hq.2 _)
theorem wpList_append_rd {ops : Array Oper} {rest : List Oper} {o : Oper} {a : Go.Act} {Q : Exit → Go.Act → World → Prop} {w : World} (hgd : o.guard = none) (s x : Operand)
    (ho : o.op = .call { callee := .builtin .append, args := #[s, x], argTypes := #[82, 82] }) (v : Value) (B : Nat) (r : List Int) (hs : a.eval s = v) (hown : w.ownsRow B 3 1 v r.length (r.map (Value.int .i64))) (hB : B ≤ w.heap.size)
    (u : Value) (l : List Int) (hx : a.eval x = u) (hu : Rd .i64 u l w) (hl : r.length + l.length ≤ 1000000)
    (h : ∀ v' w', w'.ownsRow B 3 1 v' (r ++ l).length ((r ++ l).map (Value.int .i64)) → w.grownBy w' v.ownBlock → wpList Tryz.prog ops Q rest (a.put o.dst v') w') :
    wpList Tryz.prog ops Q (o :: rest) a w := by
  obtain ⟨i0, hi, hz0, hz1, hz2⟩ := info_parts Tryz.infoInt
  have hu' := hu
  obtain ⟨ua, ucap, rfl, h1, h2, h3, _⟩ := hu'
  cases ua with
  | none =>
    obtain rfl := h3 rfl
    obtain rfl := List.length_eq_zero_iff.1 (Nat.le_zero.1 h1)
    refine wpList_append_own_none hgd s x 82 ho B 3 i0 1 Tryz.underlying82 hi v r.length _ hs hown hx ?_
    exact h v w (by rw [List.append_nil]; exact hown) ⟨rfl, rfl, rfl, Nat.le_refl _, fun _ _ _ => rfl⟩
  | some ad =>
    refine wpList_append_own w hgd s x 82 ho B 3 i0 (.int .i64 0) 1 8 Tryz.underlying82 hi hz0 hz1 hz2 rfl (by decide) v r.length _ hs hown ad l.length ucap (l.map (Value.int .i64)) hx (by simp) hu.cells (oneCells .i64 l) (by unfold maxLen; omega) (by omega) hB ?_
    intro v' w' hown' hgr _
    exact h v' w' (by rw [List.length_append, List.map_append]; exact hown') hgr
set_option maxHeartbeats 400000 in
theorem fhas_any (v : Value) (l : List Int) (x : Int) (w : World) (hl : l.length ≤ 1000000) (h : Rd .i64 v l w) :
    Calls Tryz.prog 97 #[v, .int .i64 x] w fun e w' => e = .returned (.bool (decide (x ∈ l))) ∧ w' = w := by
  obtain ⟨a, cap, rfl, _, _, _, k1⟩ := h
  obtain ⟨z, HZ⟩ : ∃ z, Hid (decide (x ∈ l) = z) := ⟨_, rfl⟩
  rw [HZ.out]
  go_enter Tryz.func97, Tryz.ntmps97
  go_wp2_with fail
  go_loopg [5] l.length (fun gk t5 wr => ∃ i : Nat, i + gk = l.length ∧ t5 = .int .i64 i ∧ Hid (x ∉ l.take i) ∧ wr = w)
  case atStart => exact ⟨0, by omega, rfl, show x ∉ l.take 0 by simp, rfl⟩
  case round =>
    obtain ⟨i, hi, rfl, hx, rfl⟩ := hrel
    by_cases hlt : (i : Int) < l.length
    · have i0 : (0 : Int) ≤ i := by omega
      have hil : i < l.length := by omega
      rcases k1 with k1 | ⟨g1, o1, rfl, k1⟩
      · omega
      have c1 := k1 i hil
      have hs : x ≠ l[i] → Hid (x ∉ l.take (i + 1)) := fun e => mem_take_succ hil hx.out e
      have hm : x = l[i] → z = true := fun e => by rw [← HZ.out, decide_eq_true_eq, e]; exact List.getElem_mem hil
      clear k1
      generalize l[i] = y at c1 hs hm
      by_cases hxy : x = y
      · have he : (y == x) = true := by simp [hxy]
        obtain rfl := hm hxy
        clear hs hxy
        go_wp2_with fail
        go_ret
        exact ⟨rfl, rfl⟩
      · have he : (y == x) = false := by rw [beq_eq_false_iff_ne]; exact fun e => hxy e.symm
        have hs := hs hxy
        clear hm
        go_wp2_with fail
        go_roundg (gk - 1)
        case rel => exact ⟨i + 1, by omega, by go_num, hs, rfl⟩
        case measure => omega
    · obtain rfl : i = l.length := by omega
      have hx' := hx.out
      rw [List.take_length] at hx'
      obtain rfl : z = false := by rw [← HZ.out, decide_eq_false_iff_not]; exact hx'
      clear hx' hx
      go_wp2_with fail
      go_ret
      exact ⟨rfl, rfl⟩
theorem nxtS_new' {s o l : List Int} (ho : o ≠ []) (h : s.dropWhile (fun x => !decide (x ∈ o)) = []) : nxtS s o l = (((shufS o l).1.headD 0, true), (shufS o l).1.tail, (shufS o l).2) := by
  unfold nxtS
  rw [if_neg ho, if_pos h]
theorem nxtS_old' {s o l : List Int} (ho : o ≠ []) {y : Int} {r : List Int} (h : s.dropWhile (fun x => !decide (x ∈ o)) = y :: r) : nxtS s o l = ((y, true), r, l) := by
  unfold nxtS
  rw [if_neg ho, h, if_neg (by simp)]
  rfl
set_option maxRecDepth 100000 in
set_option maxHeartbeats 1000000 in
theorem fnextr_any (w0 : World) (G : Nat → Prop) (q r : Nat) (la : Option Addr) (lcap : Nat) (v : Value) (s o l m : List Int) (w : World) (hol : o.length ≤ 1000) (hll : l.length ≤ 1000000) (hv : Rd .i64 v o w) (hvo : ∀ g, v.ownBlock = some g → g ≠ q) (hR : Rn 0 RX 105 G q s w)
    (hRl : Rd .u64 (.slice la l.length lcap) l w0) (hL : Lf w0 r (.slice la l.length lcap) l m w) (hok : Ok m) (hqr : r ≠ q) (hr : ¬ G r) (hq0 : w0.heap.size ≤ q) :
    Calls Tryz.prog 49 #[.pointer (some ⟨q, 0, none⟩), v, .pointer (some ⟨r, 0, none⟩)] w fun e w' => e = .returned (.tuple #[.int .i64 (nxtS s o m).1.1, .bool (nxtS s o m).1.2]) ∧ Rn 0 RX 105 G q (nxtS s o m).2.1 w' ∧ Lf w0 r (.slice la l.length lcap) l (nxtS s o m).2.2 w' ∧ Mv q r w w' := by
  have hv' := hv
  obtain ⟨va, vcap, rfl, _⟩ := hv'
  by_cases ho : o = []
  · subst ho
    rw [nxtS_nil]
    go_enter Tryz.func49, Tryz.ntmps49
    go_wp2_with fail
    go_ret2
    exact ⟨rfl, hR, hL, Mv.refl _ _ _⟩
  have hne : ((o.length : Int) == 0) = false := by
    rw [beq_eq_false_iff_ne]
    have := List.length_pos_iff.2 ho
    omega
  have HNW : Hid _ := fun (h : s.dropWhile (fun x => !decide (x ∈ o)) = []) => nxtS_new' (l := m) ho h
  have HOL : Hid _ := fun y r (h : s.dropWhile (fun x => !decide (x ∈ o)) = y :: r) => nxtS_old' (l := m) ho h
  generalize nxtS s o m = N at *
  go_enter Tryz.func49, Tryz.ntmps49
  go_wp2_with fail
  go_loopg [] s.length (fun gk wr => ∃ s' : List Int, s'.length ≤ gk ∧ Hid (s'.dropWhile (fun x => !decide (x ∈ o)) = s.dropWhile (fun x => !decide (x ∈ o))) ∧ Rn 0 RX 105 G q s' wr ∧ Lf w0 r (.slice la l.length lcap) l m wr ∧ Rd .i64 (.slice va o.length vcap) o wr ∧ Mv q r w wr)
  case atStart => exact ⟨s, Nat.le_refl _, rfl, hR, hL, hv, Mv.refl _ _ _⟩
  case round =>
    obtain ⟨s', hlen, HD, hR1, hL1, hv1, hM1⟩ := hrel
    cases s' with
    | nil =>
      have hN := HNW.out (by rw [← HD.out]; rfl)
      have hsl := shufS_length o m
      obtain ⟨y, t, hy⟩ : ∃ y t, (shufS o m).1 = y :: t := by
        cases e : (shufS o m).1 with
        | nil => rw [e] at hsl; exact absurd (List.length_eq_zero_iff.1 hsl.symm) ho
        | cons y t => exact ⟨y, t, rfl⟩
      rw [hy] at hN
      subst hN
      obtain ⟨b1, bcap, c1, f1, _⟩ := hR1.cell
      have hS := fshuffle_any w0 r la lcap l m _ o wr hll hRl hL1 hok (by omega) hv1
      rw [hy] at hS
      have HY : Hid _ := hy
      clear hy hsl HNW HOL HD
      simp only [List.length_nil] at c1
      go_wp2_with fail
      refine hS.mono ?_
      rintro e w3 ⟨⟨v3, rfl, hd3, hg3⟩, hL3, hB3⟩
      have hR3 := hR1.but hB3 ⟨hqr, hr⟩
      have hM3 := hM1.trans (Mv.ofBut hB3)
      have hd3' := hd3
      obtain ⟨a3, cap3, rfl, _⟩ := hd3'
      obtain ⟨b3, bcap3, c3, f3, _⟩ := hR3.cell
      have hR4 := hR3.put hd3 fun g hg' => ⟨hR1.fresh g (hg3 g hg').1, (hg3 g hg').2⟩
      have hL4 := hL3.set (u := .slice a3 (y :: t).length cap3) ⟨hqr, hq0⟩
      have hM4 := hM3.set (o := 0) (.slice a3 (y :: t).length cap3)
      rw [List.length_cons] at hR4 hL4 hM4
      obtain ⟨w4, HW4⟩ : ∃ w4, Hid (w4 = w3.setCell ⟨q, 0, none⟩ (.slice a3 (t.length + 1) cap3)) := ⟨_, rfl⟩
      rw [← HW4.out] at hR4 hL4 hM4
      obtain ⟨g4, o4, cap4, a5, cap5, c4, f4, x4, hcut4, hR5⟩ := hR4.first0
      have hL5 := hL4.set (u := .slice a5 t.length cap5) ⟨hqr, hq0⟩
      have hM5 := hM4.set (o := 0) (.slice a5 t.length cap5)
      clear hd3 hg3 hR3 hL3 hM3 hB3
      go_upto_region 7 with fail
      rw [← HW4.out]
      go_wp2_with fail
      go_ret2
      exact ⟨rfl, hR5, hL5, hM5⟩
    | cons y t =>
      obtain ⟨g4, o4, cap4, a5, cap5, c4, f4, x4, hcut4, hR5⟩ := hR1.first0
      have hL5 := hL1.set (u := .slice a5 t.length cap5) ⟨hqr, hq0⟩
      have hM5 := hM1.set (o := 0) (.slice a5 t.length cap5)
      have hv5 : Rd .i64 (.slice va o.length vcap) o (wr.setCell ⟨q, 0, none⟩ (.slice a5 t.length cap5)) := hv1.keep fun g hg' _ => Below.heap_setCell _ _ _ _ (show g ≠ q from hvo g hg')
      have hgt : decide ((0 : Int) < (t.length : Int) + 1) = true := by rw [decide_eq_true_eq]; omega
      have hne2 : ((t.length : Int) + 1 == 0) = false := by rw [beq_eq_false_iff_ne]; omega
      have hh := fhas_any _ o y wr (by omega) hv1
      by_cases hy : y ∈ o
      · have hN := HOL.out y t (by rw [← HD.out, List.dropWhile_cons_of_neg (by simp [hy])])
        subst hN
        rw [decide_eq_true hy] at hh
        have HY : Hid _ := hy
        clear hy HNW HOL HD
        go_wp2_with fail
        refine hh.mono ?_
        rintro e w2 ⟨rfl, hw2⟩
        subst hw2
        go_wp2_with fail
        go_ret2
        exact ⟨rfl, hR5, hL5, hM5⟩
      · have HD2 : Hid (t.dropWhile (fun x => !decide (x ∈ o)) = s.dropWhile (fun x => !decide (x ∈ o))) := by
          show _ = _
          rw [← HD.out, List.dropWhile_cons_of_pos (by simp [hy])]
        rw [decide_eq_false hy] at hh
        have HY : Hid _ := hy
        clear hy HD
        simp only [List.length_cons] at hlen
        go_wp2_with fail
        refine hh.mono ?_
        rintro e w2 ⟨rfl, hw2⟩
        subst hw2
        go_wp2_with fail
        go_roundg (gk - 1)
        case rel => exact ⟨t, by omega, HD2, hR5, hL5, hv5, hM5⟩
        case measure => omega
theorem cut_to {a : Option Addr} {cap : Nat} {l : List Int} {w : World} (h : Rd .i64 (.slice a l.length cap) l w) (n : Nat) (hn : n ≤ l.length) :
    (∀ w', (Instr.slice 82 (.slice a l.length cap) none (some (.int .i64 (n : Int))) none).run Tryz.prog w' = .ok (.slice a n cap) w') ∧ Rd .i64 (.slice a n cap) (l.take n) w := by
  refine ⟨fun w' => ?_, h.take n hn⟩
  obtain ⟨a', cap', e, h1, _⟩ := h
  cases e
  rw [run_slice_h (P := Tryz.prog) (w := w') 82 a l.length cap Tryz.elemInt .i64 (n : Int) (by omega) (by omega), Tryz.sizeInt]
  show Result.ok (sliced _ _ _ _ _) _ = _
  unfold sliced
  congr 1
  split
  · simp
  · cases a with
    | none => simp
    | some ad => simp [Addr.add]
set_option maxRecDepth 100000 in
set_option maxHeartbeats 1000000 in
theorem fjoin_any (w0 : World) (G : Nat → Prop) (q r : Nat) (la : Option Addr) (lcap : Nat) (s l m : List Int) (x : Int) (w : World) (hs : s.length ≤ 1000) (hll : l.length ≤ 1000000) (hR : Rn 0 RX 105 G q s w)
    (hRl : Rd .u64 (.slice la l.length lcap) l w0) (hL : Lf w0 r (.slice la l.length lcap) l m w) (hok : Ok m) (hqr : r ≠ q) (hr : ¬ G r) (hq0 : w0.heap.size ≤ q) :
    Calls Tryz.prog 96 #[.pointer (some ⟨q, 0, none⟩), .int .i64 x, .pointer (some ⟨r, 0, none⟩)] w fun e w' => e = .returned (.tuple #[]) ∧ Rn 0 RX 105 G q (joinS s x m).1 w' ∧ Lf w0 r (.slice la l.length lcap) l (joinS s x m).2 w' ∧ Mv q r w w' := by
  obtain ⟨a, cap, hc, hf, hd, hg⟩ := hR.cell
  have hh := fhas_any _ s x w (by omega) hd
  by_cases hx : x ∈ s
  · rw [joinS_in m hx]
    rw [decide_eq_true hx] at hh
    go_enter Tryz.func96, Tryz.ntmps96
    go_wp2_with fail
    refine hh.mono ?_
    rintro e w1 ⟨rfl, hw1⟩
    subst hw1
    go_wp2_with fail
    refine bodyPost_ret (results_none rfl _ _ _) rfl ?_
    exact ⟨rfl, hR, hL, Mv.refl _ _ _⟩
  rw [joinS_new m hx]
  rw [decide_eq_false hx] at hh
  obtain ⟨k, hk, hks⟩ := below_le m s.length
  rw [hk, Int.toNat_natCast]
  have hbel := fbelow_any w0 r la lcap l m ((s.length : Int) + 1) w hll hRl hL hok (by omega)
  rw [hk] at hbel
  have HK : Hid _ := hk
  clear hk
  generalize (belowS m ((s.length : Int) + 1)).2 = m' at *
  obtain ⟨a7, c7, hcut7, hd7, hg7⟩ := cut_from hd k hks
  obtain ⟨hcutT, hdT⟩ := cut_to hd k hks
  have HKS : Hid _ := hks
  have l1 : (s.take k).length = k := by rw [List.length_take]; omega
  have l2 : (s.drop k).length = s.length - k := List.length_drop
  have hwr : (s.take k).length + 1 + (s.drop k).length ≤ 1000000 := by omega
  clear hks
  obtain ⟨X1, hX1⟩ : ∃ X1, X1 = s.take k := ⟨_, rfl⟩
  obtain ⟨X2, hX2⟩ : ∃ X2, X2 = s.drop k := ⟨_, rfl⟩
  rw [← hX1, ← hX2]
  rw [← hX1] at hdT l1 hwr
  rw [← hX2] at hd7 l2 hwr hcut7
  have HX1 : Hid _ := hX1
  have HX2 : Hid _ := hX2
  clear hX1 hX2
  rw [l1, l2] at hwr
  rw [l2] at hd7 hcut7
  go_enter Tryz.func96, Tryz.ntmps96
  go_wp2_with fail
  refine hh.mono ?_
  rintro e w1 ⟨rfl, hw1⟩
  subst hw1
  go_wp2_with fail
  refine hbel.mono ?_
  rintro e w2 ⟨rfl, hL2, hB2⟩
  have hM2 : Mv q r w1 w2 := Mv.ofBut hB2
  have hR2 := hR.but hB2 ⟨hqr, hr⟩
  have hkp : ∀ g, (Value.slice a s.length cap).ownBlock = some g → g ≠ r := fun g hg' e => hr (e ▸ (hg g hg').1)
  have dT2 : Rd .i64 (.slice a k cap) X1 w2 := hdT.but hB2 fun g hg' => hkp g ((ownBlock_slice _ _ _ _ _).trans hg')
  have d72 : Rd .i64 (.slice a7 (s.length - k) c7) X2 w2 := hd7.but hB2 fun g hg' => hkp g (hg7 _ _ _ hg')
  have c2 : w2.cell? ⟨q, 0, none⟩ = some (.slice a s.length cap) := (World.cell?_of_block (w := w1) (hB2.block q hR.ltw (Ne.symm hqr))).trans hc
  have b3 := below_alloc w2 (.cells #[] 3)
  have o3 := World.ownsRow_made (base := w2.heap.size) (e := 3) (size := 1) w2 #[] 0 (Nat.le_refl _) (Nat.zero_le _) rfl
  obtain ⟨w3, HW3⟩ : ∃ w3, Hid (w3 = w2.alloc (.cells #[] 3)) := ⟨_, rfl⟩
  rw [← HW3.out] at b3 o3
  have c3 : w3.cell? ⟨q, 0, none⟩ = some (.slice a s.length cap) := (World.cell?_of_block (w := w2) (b3.block q hR2.ltw)).trans c2
  have dT3 := dT2.below b3
  have d73 := d72.below b3
  clear hh hbel hdT hd7 dT2 hB2
  go_upto_region 3 with fail
  rw [← HW3.out]
  go_upto_region 4 with (at_builtin; refine wpList_append_rd rfl (.tmp 23) (.tmp 29) rfl _ w2.heap.size [] rfl o3 b3.size _ X1 rfl dT3 (by simp; omega) ?_; intro v4 w4 o4 g4)
  have b4 : Below w2.heap.size w2 w4 := b3.grown g4 b3.size (fun k hk => by cases hk; exact Nat.le_refl _)
  rw [List.nil_append] at o4
  have z4 := b4.size
  obtain ⟨a4, cap4, e4, _⟩ := id (Rd.of o4)
  subst e4
  have b5 := b4.alloc z4 (.cells #[.int .i64 x] 3)
  have o5 := o4.alloc (.cells #[.int .i64 x] 3)
  have r5 : Rd .i64 (.slice (some ⟨w4.heap.size, 0, none⟩) 1 1) [x] (w4.alloc (.cells #[.int .i64 x] 3)) := Rd.lit .i64 3 [x] w4 (by simp)
  go_upto_region 5 with (at_builtin; refine wpList_append_rd rfl (.tmp 31) (.tmp 33) rfl _ w2.heap.size X1 rfl o5 b5.size _ [x] rfl r5 (by simp; omega) ?_; intro v6 w6 o6 g6)
  have b6 : Below w2.heap.size w2 w6 := b5.grown g6 b5.size (fun k hk => (o4.lt k hk).1)
  have c6 : w6.cell? ⟨q, 0, none⟩ = some (.slice a s.length cap) := (World.cell?_of_block (w := w2) (b6.block q hR2.ltw)).trans c2
  have d76 := d72.below b6
  have z6 := b6.size
  obtain ⟨a6, cap6, e6, _⟩ := id (Rd.of o6)
  subst e6
  clear b3 b4 b5 o3 o4 o5 g4 g6 r5 dT3 d73 c3
  have fin : ∀ a8 cap8 w8, w8.ownsRow w2.heap.size 3 1 (.slice a8 ((X1 ++ [x]) ++ X2).length cap8) ((X1 ++ [x]) ++ X2).length (((X1 ++ [x]) ++ X2).map (Value.int .i64)) → w6.grownBy w8 (Value.slice a6 (X1 ++ [x]).length cap6).ownBlock → Rn 0 RX 105 G q (X1 ++ x :: X2) (w8.setCell ⟨q, 0, none⟩ (.slice a8 ((X1 ++ [x]) ++ X2).length cap8)) ∧ Lf w0 r (.slice la l.length lcap) l m' (w8.setCell ⟨q, 0, none⟩ (.slice a8 ((X1 ++ [x]) ++ X2).length cap8)) ∧ Mv q r w1 (w8.setCell ⟨q, 0, none⟩ (.slice a8 ((X1 ++ [x]) ++ X2).length cap8)) := fun a8 cap8 w8 o8 g8 => by
    have b8 : Below w2.heap.size w2 w8 := b6.grown g8 b6.size (fun k hk => (o6.lt k hk).1)
    have hR8 := hR2.below b8
    have e8 : (X1 ++ [x]) ++ X2 = X1 ++ x :: X2 := by simp
    refine ⟨?_, (hL2.later b8).set ⟨hqr, hq0⟩, (hM2.trans (Mv.of b8)).set (o := 0) _⟩
    have := hR8.put (Rd.of o8) fun g hg' => ⟨hR2.fresh g (o8.lt g hg').1, (o8.lt g hg').2⟩
    rw [e8] at this ⊢
    exact this
  have frz : ∀ w8, w6.grownBy w8 (Value.slice a6 (X1 ++ [x]).length cap6).ownBlock → w8.frozen? ⟨q, 0, none⟩ = false ∧ ∃ u, w8.cell? ⟨q, 0, none⟩ = some u := fun w8 g8 => by
    have b8 : Below w2.heap.size w2 w8 := b6.grown g8 b6.size (fun k hk => (o6.lt k hk).1)
    obtain ⟨_, _, c9, f9, _⟩ := (hR2.below b8).cell
    exact ⟨f9, _, c9⟩
  go_wp2_with (at_builtin; refine wpList_append_rd rfl (.tmp 36) (.tmp 42) rfl _ w2.heap.size (X1 ++ [x]) rfl o6 b6.size _ X2 rfl d76 (by simp; omega) ?_; intro v8 w8 o8 g8; obtain ⟨a8, cap8, rfl⟩ : ∃ a8 cap8, v8 = .slice a8 ((X1 ++ [x]) ++ X2).length cap8 := (by obtain ⟨a8, cap8, e8, _⟩ := Rd.of o8; exact ⟨a8, cap8, e8⟩); obtain ⟨f8, u8, c8⟩ := frz w8 g8; have HF : Hid _ := fin a8 cap8 w8 o8 g8)
  go_end0
  have h := HF.out
  rw [show (X1 ++ [x] ++ X2).length = k + (s.length - k + 1) by simp; omega] at h
  exact ⟨rfl, h⟩
theorem filt_succ (s : List Int) (x : Int) {i : Nat} (hi : i < s.length) : (s.take (i + 1)).filter (fun y => !decide (y = x)) = if s[i] = x then (s.take i).filter (fun y => !decide (y = x)) else (s.take i).filter (fun y => !decide (y = x)) ++ [s[i]] := by
  rw [List.take_add_one, List.getElem?_eq_getElem hi, List.filter_append]
  split <;> rename_i h <;> simp [h]
theorem filt_le (s : List Int) (x : Int) (i : Nat) : ((s.take i).filter (fun y => !decide (y = x))).length ≤ i := by
  have h1 := List.length_filter_le (fun y => !decide (y = x)) (s.take i)
  have h2 := List.length_take_le i s
  omega
set_option maxRecDepth 100000 in
set_option maxHeartbeats 1000000 in
theorem fhelp_any (w0 : World) (r : Nat) (la : Option Addr) (lcap : Nat) (v : Value) (o l m : List Int) (x n : Int) (w : World) (hol : o.length ≤ 1000) (hn : n < 9223372036854775808) (hll : l.length ≤ 1000000) (hv : Rd .i64 v o w)
    (hRl : Rd .u64 (.slice la l.length lcap) l w0) (hL : Lf w0 r (.slice la l.length lcap) l m w) (hok : Ok m) :
    Calls Tryz.prog 90 #[v, .int .i64 x, .int .i64 n, .pointer (some ⟨r, 0, none⟩)] w fun e w' => (∃ v', e = .returned v' ∧ Res w v' (helpS o x n m).1 w') ∧ Lf w0 r (.slice la l.length lcap) l (helpS o x n m).2 w' ∧ But w.heap.size r w w' := by
  obtain ⟨i0, hi, hz0, hz1, hz2⟩ := info_parts Tryz.infoInt
  have hv' := hv
  obtain ⟨va, vcap, rfl, _⟩ := hv'
  unfold helpS
  go_enter Tryz.func90, Tryz.ntmps90
  go_wp2_with fail
  go_loopg [9, 10] o.length (fun gk t9 t10 wr => ∃ i : Nat, i + gk = o.length ∧ t10 = .int .i64 i ∧ wr.ownsRow w.heap.size 3 1 t9 ((o.take i).filter (fun y => !decide (y = x))).length (((o.take i).filter (fun y => !decide (y = x))).map (Value.int .i64)) ∧ Below w.heap.size w wr)
  case atStart => exact ⟨0, by omega, rfl, World.ownsRow_made w #[] 0 (Nat.le_refl _) (Nat.zero_le _) rfl, below_alloc _ _⟩
  case round =>
    obtain ⟨i, hg, rfl, hrow, hB⟩ := hrel
    by_cases hlt : (i : Int) < o.length
    · have hil : i < o.length := by omega
      have i0' : (0 : Int) ≤ i := by omega
      have hf := filt_succ o x hil
      have hle := filt_le o x i
      obtain ⟨g8, o8, e8, c8⟩ := (hv.below hB).at i hil
      subst e8
      have hfs : ∀ y, o[i] = y → Hid ((o.take (i + 1)).filter (fun y => !decide (y = x)) = if y = x then (o.take i).filter (fun y => !decide (y = x)) else (o.take i).filter (fun y => !decide (y = x)) ++ [y]) := fun y e => by rw [← e]; exact hf
      clear hf
      generalize hy : o[i] = y at *
      have HF := hfs y rfl
      clear hfs hy
      generalize (o.take i).filter (fun y => !decide (y = x)) = M at *
      by_cases hyx : y = x
      · have hbe : (y != x) = false := by simp [hyx]
        have HY : Hid _ := hyx
        clear hyx
        go_wp2_with fail
        go_roundg (gk - 1)
        case rel => exact ⟨i + 1, by omega, by go_num, by rw [HF.out, if_pos HY.out]; exact hrow, hB⟩
        case measure => omega
      · have hbe : (y != x) = true := by simp [hyx]
        have HY : Hid _ := hyx
        clear hyx
        go_wp2_with (at_builtin; refine wpList_append_own _ rfl _ _ 82 rfl w.heap.size 3 i0 (.int .i64 0) 1 8 Tryz.underlying82 hi hz0 hz1 hz2 rfl (by decide) _ _ _ rfl (hrow.alloc _) ⟨_, 0, none⟩ 1 1 [.int .i64 y] rfl rfl (cell_one_new _ _ _) (by simp [Value.oneCell']) (by unfold maxLen; omega) (by omega) (by have := hB.size; simp; omega) ?_; intro v' w14 hown' hgrow _)
        go_roundg (gk - 1)
        case rel =>
          refine ⟨i + 1, by omega, by go_num, by rw [HF.out, if_neg HY.out]; simpa using hown', ?_⟩
          refine (hB.alloc hB.size _).grown hgrow (by have := hB.size; simp; omega) (fun k hk => ?_)
          exact (hrow.lt k hk).1
        case measure => omega
    · obtain rfl : i = o.length := by omega
      rw [List.take_length] at hrow
      have hRd := Rd.of hrow
      obtain ⟨a9, cap9, e9, _⟩ := id hRd
      subst e9
      have hfl := List.length_filter_le (fun y => !decide (y = x)) o
      have hsome := fsome_any w0 r la lcap l m _ _ n wr hll hRl (hL.later hB) hok (by omega) hn hRd
      go_wp2_with fail
      refine hsome.mono ?_
      rintro e w5 ⟨⟨v5, rfl, hr5⟩, hL5, hB5⟩
      obtain ⟨a5, cap5, e5, _⟩ := id hr5.rd
      subst e5
      go_wp2_with fail
      go_ret
      exact ⟨⟨_, rfl, ⟨hr5.rd, fun g hg => ⟨Nat.le_trans hB.size (hr5.own g hg).1, (hr5.own g hg).2⟩⟩⟩, hL5, (But.of hB).trans (hB5.mono hB.size)⟩
end Go.Proofs.YtpoofjnfaijjjaaGreatDoor.Rn
