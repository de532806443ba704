/-
  with. slices.IndexFunc, slices.DeleteFunc.
-/
import Derived.Test.YtpoofjnfaijjjaaGreatDoorMNRnx
import Derived.Laws.CopyOwn
import Derived.Lib.SliceRun
namespace Go.Proofs.YtpoofjnfaijjjaaGreatDoor.Rn
open Go.RowKit

theorem splice_all {α : Type} (Z X1 X2 : List α) (x : α) (hZ : Z.length = X1.length + 1 + X2.length) : splice ((splice Z 0 X1).set X1.length x) (X1.length + 1) X2 = X1 ++ x :: X2 := by
  obtain ⟨z, Z', hz⟩ : ∃ z Z', Z.drop X1.length = z :: Z' := by
    cases h : Z.drop X1.length with
    | nil => have := congrArg List.length h; simp at this; omega
    | cons z Z' => exact ⟨z, Z', rfl⟩
  have hl : Z'.length = X2.length := by have := congrArg List.length hz; simp at this; omega
  have e1 : splice Z 0 X1 = X1 ++ z :: Z' := by unfold splice; simp [hz]
  have e2 : (X1 ++ z :: Z').set X1.length x = X1 ++ x :: Z' := by simp
  rw [e1, e2]
  unfold splice
  have e3 : (X1 ++ x :: Z').take (X1.length + 1) = X1 ++ [x] := by
    rw [show X1 ++ x :: Z' = (X1 ++ [x]) ++ Z' by simp]
    exact List.take_left' (by simp)
  have e4 : (X1 ++ x :: Z').drop (X1.length + 1 + X2.length) = [] := List.drop_eq_nil_of_le (by simp; omega)
  rw [e3, e4]
  simp

/-- What is cut off a row behind n. -/
theorem cut_row (g N n : Nat) (hn : n ≤ N) : ∃ a' cap', (∀ w', (Instr.slice 82 (.slice (some ⟨g, 0, none⟩) N N) (some (.int .i64 (n : Int))) none none).run Tryz.prog w' = .ok (.slice a' (N - n) cap') w') ∧ (0 < N - n → a' = some ⟨g, n, none⟩) := by
  have hr : ∀ w', (Instr.slice 82 (.slice (some ⟨g, 0, none⟩) N N) (some (.int .i64 (n : Int))) none none).run Tryz.prog w' = .ok (sliced (some ⟨g, 0, none⟩) n N N 1) w' := fun w' => by
    rw [run_slice_l (P := Tryz.prog) (w := w') 82 (some ⟨g, 0, none⟩) N N Tryz.elemInt .i64 (n : Int) (by omega) (by omega), Tryz.sizeInt]
    rfl
  by_cases hc : N = n
  · exact ⟨some ⟨g, 0, none⟩, N - n, fun w' => by rw [hr, sliced, if_pos hc], fun h => by omega⟩
  · exact ⟨some ⟨g, n, none⟩, N - n, fun w' => by rw [hr, sliced, if_neg hc]; simp [Addr.add]; omega, fun _ => rfl⟩

theorem nmin {a b c : Nat} (h : a = min b c) : a = Nat.min b c := h
theorem Tryz.sizeOne : (Tryz.prog.info? 3).map (·.size) = some 1 := by kernel_rfl

/-- copy, as a run. -/
theorem copy_run (w : World) (a6 a7 : Option Addr) (n c6 c7 g off : Nat) (D X2 : List Value) (B : Nat) (w0 : World) (hg : w.heap[g]? = some (.cells D.toArray 3 (0, 0))) (hn : X2.length = n)
    (hpos : 0 < X2.length → a6 = some ⟨g, off, none⟩ ∧ ∃ ad, a7 = some ad ∧ ∀ j v, X2[j]? = some v → w.cell? (ad.add j) = some v)
    (hfit : off + X2.length ≤ D.length) (h1 : ∀ v ∈ X2, v.oneCell' = true) (hb : Below B w0 w) (hBg : B ≤ g) :
    ∃ w', (Builtin.copy_ #[82, 82] 3 #[.slice a6 n c6, .slice a7 n c7]).run Tryz.prog w = .ok (.int .i64 n) w' ∧ Hid (w'.heap[g]? = some (.cells (splice D off X2).toArray 3 (0, 0))) ∧ Below B w0 w' := by
  subst hn
  by_cases h0 : X2.length = 0
  · obtain rfl : X2 = [] := List.eq_nil_of_length_eq_zero h0
    refine ⟨w, run_copy_none (P := Tryz.prog) w 82 82 3 3 a6 a7 _ _ _ _ Tryz.underlying82 Tryz.sizeOne (by simp), (show _ = _ by simpa [splice] using hg), hb⟩
  · obtain ⟨rfl, ad, rfl, hsrc⟩ := hpos (by omega)
    refine ⟨_, run_copy_row (P := Tryz.prog) w 82 82 3 3 g off _ _ ad _ _ D.toArray 3 X2 Tryz.underlying82 Tryz.sizeOne hg (nmin (by omega)) hsrc (by simpa using hfit) h1, (show _ = _ by simpa [splice] using setRow_heap w g _ _ 3 _ hg), below_setRow hb hBg _⟩

set_option maxRecDepth 100000 in
set_option maxHeartbeats 1000000 in
theorem with_any (v : Value) (s : List Int) (k : Nat) (x : Int) (w : World) (hs : s.length ≤ 1000000) (hk : k ≤ s.length) (hv : Rd .i64 v s w) :
    Calls Tryz.prog 162 #[v, .int .i64 k, .int .i64 x] w fun e w' => (∃ v', e = .returned v' ∧ Rd .i64 v' (s.take k ++ x :: s.drop k) w' ∧ ∀ g, v'.ownBlock = some g → w.heap.size ≤ g ∧ g < w'.heap.size) ∧ Below w.heap.size w w' := by
  obtain ⟨i0, hi, hz0, hz1, hz2⟩ := info_parts Tryz.infoInt
  have hv' := hv
  obtain ⟨a, cap, rfl, hv1, hv2, hv3, hv4⟩ := hv'
  obtain ⟨a7, c7, hcut7, hd7, _⟩ := cut_from hv k hk
  obtain ⟨a6, c6, hcut6, hg6⟩ := cut_row w.heap.size (s.length + 1) (k + 1) (by omega)
  have hcut6' : ∀ w', (Instr.slice 82 (.slice (some ⟨w.heap.size, 0, none⟩) (s.length + 1) (s.length + 1)) (some (.int .i64 ((k : Int) + 1))) none none).run Tryz.prog w' = .ok (.slice a6 (s.length - k) c6) w' := fun w' => by simpa using hcut6 w'
  clear hcut6
  obtain ⟨X1, hX1⟩ : ∃ X1, X1 = (s.take k).map (Value.int .i64) := ⟨_, rfl⟩
  obtain ⟨X2, hX2⟩ : ∃ X2, X2 = (s.drop k).map (Value.int .i64) := ⟨_, rfl⟩
  have l1 : X1.length = k := by rw [hX1]; simp; omega
  have l2 : X2.length = s.length - k := by rw [hX2]; simp
  have o1 : ∀ u ∈ X1, u.oneCell' = true := by rw [hX1]; exact oneCells _ _
  have o2 : ∀ u ∈ X2, u.oneCell' = true := by rw [hX2]; exact oneCells _ _
  have hkc : (k : Int) ≤ cap := by omega
  go_enter Tryz.func162, Tryz.ntmps162
  go_upto_region 1 with fail
  go_upto_region 2 with (at_make; refine wpList_make_full w rfl (.tmp 10) (.tmp 10) 82 rfl w.heap.size 3 i0 (.int .i64 0) 1 Tryz.underlying82 hi hz0 hz1 .i64 .i64 _ _ (s.length + 1) rfl rfl (by simp) (by simp) (by rw [hz2]; omega) (by unfold maxLen; omega) (Nat.le_refl _) ?_; intro w1 hown hgr)
  obtain ⟨cur, hg, hcl⟩ : ∃ cur : List Value, w1.heap[w.heap.size]? = some (.cells cur.toArray 3 (0, 0)) ∧ cur.length = s.length + 1 := by
    rcases hown.2 with ⟨e, _⟩ | ⟨g, cap', cur, e, _, hh, h1, h2, h3, h4⟩
    · cases e
    · cases e
      exact ⟨cur.toList, by simpa using hh, by simpa using h3⟩
  have hb1 : Below w.heap.size w w1 := (Below.refl _ w).grown hgr (Nat.le_refl _) (fun k hk => by cases hk)
  have hvr := hv.below hb1
  clear hown hgr
  have hp1 : 0 < X1.length → ∃ ad, a = some ad ∧ ∀ j u, X1[j]? = some u → w1.cell? (ad.add j) = some u := by
    intro h0
    obtain ⟨g, off, rfl, _⟩ := hvr.at 0 (by omega)
    refine ⟨_, rfl, fun j u hu => ?_⟩
    rw [hX1] at hu
    have hj : j < k := by have := (List.getElem?_eq_some_iff.1 hu).1; simp at this; omega
    refine hvr.cells j u ?_
    rw [← hu]
    simp [hj]
  have HP1 : Hid _ := hp1
  clear hp1
  go_upto_region 3 with (refine wpList_copy_splice rfl (.tmp 12) (.tmp 15) 82 82 rfl 3 Tryz.underlying82 Tryz.sizeOne _ _ _ _ _ _ rfl rfl w.heap.size 0 cur 3 hg X1 (nmin (by omega)) (fun h => ⟨rfl, HP1.out h⟩) (by omega) o1 w.heap.size w hb1 (Nat.le_refl _) ?_; intro w2 HG2 hb2)
  have hlen2 := length_splice cur 0 X1 (by omega)
  have hg2 := HG2.out
  have c2 : w2.cell? ⟨w.heap.size, k, none⟩ = some ((splice cur 0 X1)[k]'(by omega)) := by
    unfold World.cell?
    rw [hg2]
    simp [List.getElem?_eq_getElem (show k < (splice cur 0 X1).length by omega)]
  have f2 : w2.frozen? ⟨w.heap.size, k, none⟩ = false := by simp [World.frozen?, hg2]
  have hg3 : (w2.setCell ⟨w.heap.size, k, none⟩ (.int .i64 x)).drew.heap[w.heap.size]? = some (.cells ((splice cur 0 X1).set k (.int .i64 x)).toArray 3 (0, 0)) := by
    show (w2.setCell ⟨w.heap.size, k, none⟩ (.int .i64 x)).heap[w.heap.size]? = _
    unfold World.setCell
    rw [Array.getElem?_modify, if_pos rfl, hg2]
    simp
  have hb3 : Below w.heap.size w (w2.setCell ⟨w.heap.size, k, none⟩ (.int .i64 x)).drew := (hb2.setCell (p := ⟨w.heap.size, k, none⟩) (Nat.le_refl _) _).drew
  have hfin := splice_all cur X1 X2 (.int .i64 x) (by omega)
  rw [l1] at hfin
  generalize (splice cur 0 X1)[k]'(by omega) = y2 at c2
  have hlD : ((splice cur 0 X1).set k (.int .i64 x)).length = s.length + 1 := by rw [List.length_set, hlen2, hcl]
  generalize (splice cur 0 X1).set k (.int .i64 x) = D at *
  obtain ⟨w3, HW3⟩ : ∃ w3, Hid (w3 = w2.setCell ⟨w.heap.size, k, none⟩ (.int .i64 x)) := ⟨_, rfl⟩
  rw [← HW3.out] at hg3 hb3
  have hvr3 := hd7.below hb3
  have hp2 : 0 < X2.length → a6 = some ⟨w.heap.size, k + 1, none⟩ ∧ ∃ ad, a7 = some ad ∧ ∀ j u, X2[j]? = some u → w3.drew.cell? (ad.add j) = some u := by
    intro h0
    obtain ⟨g, off, rfl, _⟩ := hvr3.at 0 (by simp; omega)
    exact ⟨hg6 (by omega), _, rfl, fun j u hu => hvr3.cells j u (by rw [hX2] at hu; exact hu)⟩
  obtain ⟨w4, hrun, HG4, hb4⟩ := copy_run w3.drew a6 a7 (s.length - k) c6 c7 w.heap.size (k + 1) D X2 w.heap.size w hg3 l2 hp2 (by omega) o2 hb3 (Nat.le_refl _)
  clear hp2
  have HF : Hid _ := hfin
  have HX1 : Hid _ := hX1
  have HX2 : Hid _ := hX2
  have hls : (s.drop k).length = s.length - k := List.length_drop
  have k0 : (0 : Int) ≤ k := by omega
  have k1 : (k : Int) < (s.length : Int) + 1 := by omega
  have k2 : k < s.length + 1 := by omega
  have hwr : IntKind.i64.wrap ((k : Int) + 1) = (k : Int) + 1 := by simp [IntKind.wrap, IntKind.bits, IntKind.signed]; omega
  clear hfin hX1 hX2 hlen2 hg2 hb2 hvr hv4
  go_upto_region 4 with fail
  rw [← HW3.out]
  go_region
  all_goals
    go_wp2_with fail
    go_ret
    have hg4 := HG4.out
    rw [HF.out, HX1.out, HX2.out] at hg4
    have hlt : w.heap.size < w4.heap.size := (Array.getElem?_eq_some_iff.1 hg4).1
    have hL : (s.take k ++ x :: s.drop k).length = s.length + 1 := by simp; omega
    refine ⟨⟨.slice (some ⟨w.heap.size, 0, none⟩) (s.length + 1) (s.length + 1), rfl, ⟨_, s.length + 1, by rw [hL], by omega, by unfold maxLen; omega, (fun e => by cases e), Or.inr ⟨w.heap.size, 0, rfl, fun j hj => ?_⟩⟩, fun g hg => by cases hg; exact ⟨Nat.le_refl _, hlt⟩⟩, hb4⟩
    unfold World.cell?
    rw [hg4]
    have : (s.take k).map (Value.int .i64) ++ Value.int .i64 x :: (s.drop k).map (Value.int .i64) = (s.take k ++ x :: s.drop k).map (Value.int .i64) := by simp
    rw [this]
    simp only [Nat.zero_add, List.getElem?_toArray]
    rw [List.getElem?_map, List.getElem?_eq_getElem hj]
    rfl
end Go.Proofs.YtpoofjnfaijjjaaGreatDoor.Rn
namespace Go.Proofs.YtpoofjnfaijjjaaGreatDoor.Rn
open Go.RowKit

theorem below_setCells {B b : Nat} {a : World} (hB : B ≤ b) : ∀ (vs : List Value) (o : Nat) (w : World), Below B a w → Below B a (w.setCells b o vs)
  | [], _, _, h => h
  | v :: r, o, w, h => by
    rw [World.setCells]
    exact below_setCells hB r (o + 1) _ (h.setCell (p := ⟨b, o, none⟩) hB v)

set_option maxHeartbeats 400000 in
theorem indexf_any (g : Nat) (cap : Nat) (s : List Int) (F : FuncId) (caps : Array Value) (b : Int → Bool) (w : World) (hs : s.length ≤ 1000000) (hW : Wn .i64 g s w) (hF : ∀ args w', (callFunc F args).run Tryz.prog w' = .ok (.enter F args) w')
    (hcl : ∀ x, Calls Tryz.prog F (#[.int .i64 x] ++ caps) w fun e w'' => e = .returned (.bool (b x)) ∧ w'' = w) :
    Calls Tryz.prog 187 #[.slice (some ⟨g, 0, none⟩) s.length cap, .func (.func F) #[] caps] w fun e w' => ((∃ n : Nat, e = .returned (.int .i64 n) ∧ ∃ h : n < s.length, b s[n] = true ∧ ∀ x ∈ s.take n, b x = false) ∨ (e = .returned (.int .i64 (-1)) ∧ ∀ x ∈ s, b x = false)) ∧ w' = w := by
  go_enter Tryz.func187, Tryz.ntmps187
  go_wp2_with fail
  go_loopg [8] s.length (fun gk t8 wr => ∃ i : Nat, i + gk = s.length ∧ t8 = .int .i64 i ∧ (∀ x ∈ s.take i, b x = false) ∧ wr = w)
  case atStart => exact ⟨0, by omega, rfl, by simp, rfl⟩
  case round =>
    obtain ⟨i, hi, rfl, hx, rfl⟩ := hrel
    by_cases hlt : (i : Int) < s.length
    · have i0 : (0 : Int) ≤ i := by omega
      have hil : i < s.length := by omega
      have c1 := hW.cell i hil
      have hb := hcl s[i]
      have HX : Hid (∀ x ∈ s.take i, b x = false) := hx
      have hat : Hid (b s[i] = true → ∃ h : i < s.length, b s[i] = true ∧ ∀ x ∈ s.take i, b x = false) := fun e => ⟨hil, e, HX.out⟩
      have hns : b s[i] = false → ∀ x ∈ s.take (i + 1), b x = false := fun e x hm => by
        rw [List.take_add_one, List.getElem?_eq_getElem hil] at hm
        rcases List.mem_append.1 hm with hm | hm
        · exact hx x hm
        · have e' : x = s[i] := by simpa using hm
          rw [e']; exact e
      clear hcl
      obtain ⟨y, hy⟩ : ∃ y, y = s[i] := ⟨_, rfl⟩
      rw [← hy] at c1 hb hns
      have HY : Hid _ := hy
      clear hy
      cases hbk : b y
      case false =>
        have hns := hns hbk
        rw [hbk] at hb
        clear hat
        go_wp2_with fail
        refine hb.mono ?_
        rintro e w1 ⟨rfl, rfl⟩
        go_wp2_with fail
        go_roundg (gk - 1)
        case rel => exact ⟨i + 1, by omega, by go_num, hns, rfl⟩
        case measure => omega
      case true =>
        rw [hbk] at hb
        clear hns
        go_wp2_with fail
        refine hb.mono ?_
        rintro e w1 ⟨rfl, rfl⟩
        go_wp2_with fail
        go_ret
        exact ⟨Or.inl ⟨i, rfl, hat.out (by rw [← HY.out]; exact hbk)⟩, rfl⟩
    · obtain rfl : i = s.length := by omega
      rw [List.take_length] at hx
      have HX : Hid _ := hx
      clear hx
      go_wp2_with fail
      go_ret
      exact ⟨Or.inr ⟨rfl, HX.out⟩, rfl⟩

/-- The row r, of which i places are done, out of j. -/
structure Del (b : Int → Bool) (s r : List Int) (i j : Nat) : Prop where
  len : r.length = s.length
  lt : i < j
  le : j ≤ s.length
  done : r.take i = (s.take j).filter (fun x => !b x)
  rest : r.drop j = s.drop j
theorem Del.start {b : Int → Bool} {s : List Int} {n : Nat} (h : n < s.length) (hb : b s[n] = true) (hx : ∀ x ∈ s.take n, b x = false) : Del b s s n (n + 1) := by
  refine ⟨rfl, Nat.lt_succ_self _, h, ?_, rfl⟩
  rw [List.take_add_one, List.getElem?_eq_getElem h, List.filter_append, List.filter_eq_self.2 (fun x hm => by rw [hx x hm]; rfl)]
  simp [hb]
theorem Del.at {b : Int → Bool} {s r : List Int} {i j : Nat} (h : Del b s r i j) (hj : j < s.length) : r[j]'(by rw [h.len]; exact hj) = s[j] := by
  have := congrArg (fun l => l[0]?) h.rest
  simp only [List.getElem?_drop, Nat.add_zero] at this
  rw [List.getElem?_eq_getElem hj, List.getElem?_eq_getElem (by rw [h.len]; exact hj)] at this
  exact Option.some.inj this
theorem Del.skip {b : Int → Bool} {s r : List Int} {i j : Nat} (h : Del b s r i j) (hj : j < s.length) (hb : b s[j] = true) : Del b s r i (j + 1) := by
  refine ⟨h.len, by have := h.lt; omega, hj, ?_, ?_⟩
  · rw [h.done, List.take_add_one, List.getElem?_eq_getElem hj, List.filter_append]
    simp [hb]
  · have := congrArg (List.drop 1) h.rest
    simpa [List.drop_drop, Nat.add_comm] using this
theorem Del.put {b : Int → Bool} {s r : List Int} {i j : Nat} (h : Del b s r i j) (hj : j < s.length) (hb : b s[j] = false) : Del b s (r.set i s[j]) (i + 1) (j + 1) := by
  have h1 := h.lt
  have hl := h.len
  refine ⟨by rw [List.length_set]; exact hl, by omega, hj, ?_, ?_⟩
  · rw [List.take_add_one (l := s), List.getElem?_eq_getElem hj, List.filter_append, ← h.done, List.take_add_one, List.take_set_of_le (Nat.le_refl _)]
    rw [List.getElem?_eq_getElem (by rw [List.length_set]; omega)]
    simp [hb]
  · have := congrArg (List.drop 1) h.rest
    rw [List.drop_set_of_lt (by omega)]
    simpa [List.drop_drop, Nat.add_comm] using this

theorem Tryz.zeroI (w : World) : (zeroValue 3).run Tryz.prog w = .ok (.int .i64 0) w := by
  have h : Tryz.t3.zero = some (.int .i64 0) := by kernel_rfl
  simp [zeroValue, h]
/-- What is behind is cleared. -/
theorem clear_run (g i n c : Nat) (w : World) (r : List Int) (hW : Wn .i64 g r w) (hi : i < n) (hn : n ≤ r.length) : ∃ w', (∀ ty, (Builtin.clear_ #[82] ty #[.slice (some ⟨g, i, none⟩) (n - i) c]).run Tryz.prog w = .ok (.tuple #[]) w') ∧ (∀ j (hj : j < i), w'.cell? ⟨g, j, none⟩ = some (.int .i64 (r[j]'(by omega)))) ∧ ∀ B a, B ≤ g → Below B a w → Below B a w' := by
  refine ⟨_, fun ty => Lib.run_clear_slice (P := Tryz.prog) w 82 3 ty (.int .i64 0) Tryz.underlying82 Tryz.zeroI rfl rfl g i (n - i) c (by omega) (fun j hj => by rw [hW.cell (i + j) (by omega)]; rfl) (fun j hj => hW.free (i + j) (by omega)), fun j hj => ?_, fun B a hB hb => below_setCells hB _ _ _ hb⟩
  rw [World.cell?_setCells_out _ _ _ _ _ (fun _ _ => Or.inl hj)]
  exact hW.cell j (by omega)
theorem cut_rest (g N i cap : Nat) (hi : i < N) (hN : N ≤ cap) : ∀ w', (Instr.slice 82 (.slice (some ⟨g, 0, none⟩) N cap) (some (.int .i64 (i : Int))) none none).run Tryz.prog w' = .ok (.slice (some ⟨g, i, none⟩) (N - i) (cap - i)) w' := fun w' => by
  rw [run_slice_l (P := Tryz.prog) (w := w') 82 (some ⟨g, 0, none⟩) N cap Tryz.elemInt .i64 (i : Int) (by omega) (by omega), Tryz.sizeInt]
  show Result.ok (sliced _ _ _ _ _) _ = _
  rw [sliced, if_neg (by omega)]
  simp [Addr.add]
  omega

set_option maxRecDepth 100000 in
set_option maxHeartbeats 1000000 in
theorem delete_any (g : Nat) (cap : Nat) (s : List Int) (F : FuncId) (caps : Array Value) (b : Int → Bool) (w : World) (hs : s.length ≤ 1000000) (hcap : s.length ≤ cap) (hcm : cap ≤ maxLen) (hW : Wn .i64 g s w) (hF : ∀ args w', (callFunc F args).run Tryz.prog w' = .ok (.enter F args) w')
    (hcl : ∀ x w', Below g w w' → Calls Tryz.prog F (#[.int .i64 x] ++ caps) w' fun e w'' => e = .returned (.bool (b x)) ∧ w'' = w') :
    Calls Tryz.prog 152 #[.slice (some ⟨g, 0, none⟩) s.length cap, .func (.func F) #[] caps] w fun e w' => (∃ a c, e = .returned (.slice a (s.filter (fun x => !b x)).length c) ∧ Rd .i64 (.slice a (s.filter (fun x => !b x)).length c) (s.filter (fun x => !b x)) w' ∧ a = some ⟨g, 0, none⟩) ∧ Below g w w' := by
  have hI := indexf_any g cap s F caps b w hs hW hF (fun x => hcl x w (Below.refl _ _))
  obtain ⟨t, HT⟩ : ∃ t, Hid (s.filter (fun x => !b x) = t) := ⟨_, rfl⟩
  rw [HT.out]
  go_enter Tryz.func152, Tryz.ntmps152
  go_wp2_with fail
  refine hI.mono ?_
  rintro e w1 ⟨(⟨n, rfl, hn, hb, hx⟩ | ⟨rfl, hx⟩), hw1⟩
  · subst hw1
    have HD : Hid (Del b s s n (n + 1)) := Del.start hn hb hx
    have hn1 : ((n : Int) == -1) = false := by rw [beq_eq_false_iff_ne]; omega
    clear hb hx hI
    go_wp2_with fail
    go_loopg [5, 6] s.length (fun gk t5 t6 wr => ∃ (i j : Nat) (r : List Int), s.length ≤ j + gk ∧ t5 = .int .i64 i ∧ t6 = .int .i64 j ∧ Hid (Del b s r i j) ∧ Wn .i64 g r wr ∧ Below g w1 wr)
    case atStart => exact ⟨n, n + 1, s, by omega, rfl, by go_num, HD, hW, Below.refl _ _⟩
    case round =>
      obtain ⟨i, j, r, hg, rfl, rfl, HD, hWr, hB⟩ := hrel
      have hlen := HD.out.len
      have hij := HD.out.lt
      have hjl := HD.out.le
      by_cases hlt : (j : Int) < s.length
      · have hj : j < s.length := by omega
        have j0 : (0 : Int) ≤ j := by omega
        have i0 : (0 : Int) ≤ i := by omega
        have i1 : (i : Int) < s.length := by omega
        have c1 := hWr.cell j (by omega)
        have c2 := hWr.cell i (by omega)
        have f2 := hWr.free i (by omega)
        rw [HD.out.at hj] at c1
        have hsk : b s[j] = true → Hid (Del b s r i (j + 1)) := fun e => HD.out.skip hj e
        have hpt : b s[j] = false → Hid (Del b s (r.set i s[j]) (i + 1) (j + 1)) := fun e => HD.out.put hj e
        have hW2 := hWr.set i (by omega) s[j]
        have hb := hcl s[j] wr hB
        clear hcl hW HD
        generalize s[j] = y at *
        generalize r[i]'(by omega) = z at c2
        cases hbk : b y
        case true =>
          have hsk := hsk hbk
          rw [hbk] at hb
          clear hpt hW2
          go_wp2_with fail
          refine hb.mono ?_
          rintro e w2 ⟨rfl, hw2⟩
          subst hw2
          go_wp2_with fail
          go_roundg (gk - 1)
          case rel => exact ⟨i, j + 1, r, by omega, rfl, by go_num, hsk, hWr, hB⟩
          case measure => omega
        case false =>
          have hpt := hpt hbk
          rw [hbk] at hb
          clear hsk
          go_wp2_with fail
          refine hb.mono ?_
          rintro e w2 ⟨rfl, hw2⟩
          subst hw2
          go_wp2_with fail
          go_roundg (gk - 1)
          case rel => exact ⟨i + 1, j + 1, r.set i y, by omega, by go_num, by go_num, hpt, hW2, hB.setCell (p := ⟨g, i, none⟩) (Nat.le_refl _) _⟩
          case measure => omega
      · obtain rfl : j = s.length := by omega
        have hd := HD.out.done
        rw [List.take_length, HT.out] at hd
        have hti : t.length = i := by rw [← hd, List.length_take]; omega
        have hcut := cut_rest g s.length i cap hij hcap
        obtain ⟨w5, hclear, hcell, hbel⟩ := clear_run g i s.length (cap - i) wr r hWr hij (by omega)
        have hB5 := hbel g w1 (Nat.le_refl _) hB
        have hic : (i : Int) ≤ cap := by omega
        have HC : Hid _ := hcell
        have HD' : Hid _ := hd
        clear hbel hcell hd hW hcl HD
        go_wp2_with fail
        go_ret
        refine ⟨⟨some ⟨g, 0, none⟩, cap, rfl, ⟨_, cap, by rw [hti], by omega, hcm, (fun e => by cases e), Or.inr ⟨g, 0, rfl, fun j hj => ?_⟩⟩, rfl⟩, hB5⟩
        have hr := HC.out j (by omega)
        rw [Nat.zero_add, hr]
        congr 2
        have := congrArg (fun l => l[j]?) HD'.out
        rw [List.getElem?_eq_getElem hj, List.getElem?_take, if_pos (by omega), List.getElem?_eq_getElem (by omega)] at this
        exact Option.some.inj this
  · subst hw1
    have ht : s = t := by rw [← HT.out]; exact (List.filter_eq_self.2 (fun x hm => by rw [hx x hm]; rfl)).symm
    clear hx hI
    subst ht
    go_wp2_with fail
    go_ret
    exact ⟨⟨_, cap, rfl, hW.rd hcap hcm, rfl⟩, Below.refl _ _⟩
end Go.Proofs.YtpoofjnfaijjjaaGreatDoor.Rn
