/-
  Give, walked.
-/
import Derived.Test.YtlbeincgknmijaaGvm
namespace Go.Proofs.Ytlbeincgknmijaa
open Go.RowKit Go.Shelf

attribute [local go_sem] Oper.semAt_some

theorem Try.infoP : (Try.prog.info? 30).map (fun i => (i.zero, i.size, i.bytes)) = some (some (.agg #[.int .u64 0, .int .i64 0, .int .u64 0, .string ⟨#[]⟩]), 4, 40) := by kernel_rfl
def pks (R : Rng) {L : List Sn} (l : List (Nn L)) : List Pl := (vals l).map (pkS R)
theorem pks_snoc (R : Rng) {L : List Sn} (l : List (Nn L)) (x : Nn L) : pks R (l ++ [x]) = pks R l ++ [pkS R x.1] := by simp [pks, vals]
theorem pks_length (R : Rng) {L : List Sn} (l : List (Nn L)) : (pks R l).length = l.length := by simp [pks, vals]

theorem box_own {X Y : World} {row : Option Nat} {B : Nat} {t : TypeId} {v : Value} (h : Boxed X B t v) (hg : X.grownBy Y row) (hr : ∀ r, row = some r → ∃ o : Obj, X.heap[r]? = some o ∧ o.isCells = false) : Boxed Y B t v :=
  boxed_own (β := Unit) B t (fun _ => v) () X Y row h hg hr
theorem box_below {W W' : World} {B : Nat} {t : TypeId} {v : Value} (h : Boxed W B t v) (hb : Below W.heap.size W W') : Boxed W' B t v := (hb.block B h.lt).trans h
theorem Eow.below {W W' : World} {n₀ : Nat} {t : TypeId} {size : Nat} {v : Value} {k : Nat} {xs : List Value} (h : W.ownsRow n₀ t size v k xs) (hb : Below W.heap.size W W') : W'.ownsRow n₀ t size v k xs := by
  refine ⟨h.1, ?_⟩
  rcases h.2 with hn | ⟨g, cap, cur, rfl, hg, hh, rest⟩
  · exact Or.inl hn
  · exact Or.inr ⟨g, cap, cur, rfl, hg, (hb.block g (Array.getElem?_eq_some_iff.1 hh).1).trans hh, rest⟩
theorem keepsFrom_below (B : Nat) {W W' : World} (hb : Below W.heap.size W W') : KeepsFrom B W W' := ⟨hb.size, fun k _ _ e _ => (hb.block k (Array.getElem?_eq_some_iff.1 e).1).trans e⟩
theorem new_cells2 (W : World) (o : Obj) (cs : List Value) (t : TypeId) : ∀ j u, cs[j]? = some u → ((W.alloc o).alloc (.cells cs.toArray t)).cell? ((⟨W.heap.size + 1, 0, none⟩ : Addr).add j) = some u := by
  intro j u h
  have e : ((W.alloc o).alloc (.cells cs.toArray t)).heap[W.heap.size + 1]? = some (.cells cs.toArray t (0, 0)) := by
    have := heap_alloc_new (W.alloc o) (.cells cs.toArray t)
    rwa [World.size_alloc] at this
  rw [add_off, Nat.zero_add]
  unfold World.cell?
  rw [e]
  simpa using h
/-- An append to a row behind a box turns no block of spans. -/
theorem Ks.appended {W w1 : World} {n₀ B : Nat} {t e : TypeId} {size : Nat} {v : Value} {k : Nat} {xs : List Value} {tmp : Obj} (ht : t ≠ 51) (he : e ≠ 51)
    (hrow : W.ownsRow n₀ e size v k xs) (hgrow : (W.alloc tmp).grownBy w1 v.ownBlock) (hv1 : Boxed w1 B t v) (v' : Value) : Ks W (w1.setCell ⟨B, 0, none⟩ v') := by
  refine ((Ks.alloc W tmp).trans ?_).trans (Ks.set (fun cs g h => ?_) v')
  · rcases (hrow.alloc tmp).2 with ⟨rfl, _⟩ | ⟨g, cap, cur, rfl, _, hgb, _⟩
    · exact Ks.grown0 hgrow
    · exact Ks.grown hgrow fun cs g' h => by rw [hgb] at h; cases h; exact he rfl
  · rw [show w1.heap[B]? = _ from hv1] at h
    cases h
    exact ht rfl
theorem below_boxed {W W' : World} {n₀ B : Nat} {t : TypeId} {v : Value} (h : Boxed W B t v) (hb : Below n₀ W W') (hB : B < n₀) : Boxed W' B t v := (hb.block B hB).trans h

set_option maxRecDepth 100000 in
set_option maxHeartbeats 2000000 in
theorem give_any (p : Nat) (low : Int) (R : Rng) (hI : RI low R) (l0 : 0 ≤ low) (l1 : low ≤ 1000000) (v : Value) (l : List Sn) (most : Int) (w : World) (hS : Sf p low R w) (hR : Rs v l w) (hl : l.length ≤ 10000) :
    Calls Try.prog 14 #[.pointer (some ⟨p, 0, none⟩), v, .int .i64 most] w fun e w' => (∃ v', e = .returned v' ∧ OwE EI 30 w.heap.size v' (giveS low R l most) w') ∧ Below w.heap.size w w' := by
  obtain ⟨i0, hi, hz0, hz1, hz2⟩ := info_parts Try.infoP
  refine (callsIn_wide (n := 5)).1 ?_
  refine callsIn_of_wp_marks Try.func14 rfl trivial ?_ rfl
  simp only [Try.ntmps14, List.size_toArray, List.length_cons, List.length_nil, Nat.reduceAdd, Nat.reduceSub, Array.replicate_succ, Array.replicate_zero, List.push_toArray, List.append_toArray, List.nil_append, List.cons_append]
  have c0 := Boxed.new w 31 (.pointer (some ⟨p, 0, none⟩))
  have c1 := Boxed.new (w.alloc (.cells #[.pointer (some ⟨p, 0, none⟩)] 31)) 3 (.int .i64 most)
  have c2 := Boxed.new ((w.alloc (.cells #[.pointer (some ⟨p, 0, none⟩)] 31)).alloc (.cells #[.int .i64 most] 3)) 24 (.slice none 0 0)
  simp only [World.size_alloc] at c1 c2
  have hB0 : Below w.heap.size w (((w.alloc (.cells #[.pointer (some ⟨p, 0, none⟩)] 31)).alloc (.cells #[.int .i64 most] 3)).alloc (.cells #[.slice none 0 0] 24)) := (((Below.refl _ w).alloc (Nat.le_refl _) _).alloc (by simp) _).alloc (by simp; omega) _
  obtain ⟨W0, HW0⟩ : ∃ W0, Hid (W0 = ((w.alloc (.cells #[.pointer (some ⟨p, 0, none⟩)] 31)).alloc (.cells #[.int .i64 most] 3)).alloc (.cells #[.slice none 0 0] 24)) := ⟨_, rfl⟩
  have b0 : Boxed W0 w.heap.size 31 (.pointer (some ⟨p, 0, none⟩)) := by rw [HW0.out]; exact (c0.alloc _).alloc _
  have b1 : Boxed W0 (w.heap.size + 1) 3 (.int .i64 most) := by rw [HW0.out]; exact c1.alloc _
  have b2 : Boxed W0 (w.heap.size + 1 + 1) 24 (.slice none 0 0) := by rw [HW0.out]; exact c2
  have hs0 : W0.heap.size = w.heap.size + 1 + 1 + 1 := by rw [HW0.out]; simp
  rw [← HW0.out] at hB0
  have hWt : CallsIn Fence.wide 4 Try.prog 35 #[.pointer (some ⟨p, 0, none⟩), v] W0 (fun e w' => (∃ v', e = .returned v' ∧ Ow W0.heap.size v' (wantS low R l) w') ∧ Below W0.heap.size W0 w') := callsIn_wide.2 (wanted_any p low R l0 l1 v l W0 (hS.below hB0) (hR.below hB0) hl)
  have g0 := (c0.alloc (.cells #[.int .i64 most] 3)).alloc (.cells #[.slice none 0 0] 24)
  have g0 := g0.cell
  rw [HW0.out] at hWt
  clear c0 c1 c2
  have hwl := wantS_len low R l0 l1 l
  have hwu := wantS_up (R := R) l0 l1 l
  have hwh := wantS_has hI l0 l1 l
  have hfew := want_few hI l0 l1 l
  have hgv : Hid (giveS low R l most = ((numS (wantS low R l)).take most.toNat).map (pkS R)) := rfl
  generalize giveS low R l most = GV at *
  generalize wantS low R l = N at *
  gi_wp2_with first | (refine ⟨trivial, ?_⟩; gi_at_call 35; refine hWt.mono ?_; rintro e W1 ⟨⟨v1, rfl, hO1⟩, hb1⟩; obtain ⟨a1, cap1, rfl⟩ : ∃ a cap, v1 = .slice a N.length cap := by { obtain ⟨a, cap, e, _⟩ := (hO1.rs hwu.ok).1; exact ⟨a, cap, e⟩ }) | (refine ⟨trivial, ?_⟩; gi_at_call 34; refine (numbers_fn Fence.wide 4 trivial rfl _ _ _ _).mono ?_; rintro e w' ⟨rfl, rfl⟩)
  rw [← HW0.out] at hO1 hb1
  clear g0 hWt
  have k0 := (box_below b0 hb1).alloc (.cells #[.slice a1 N.length cap1] 23)
  have k1 := (box_below b1 hb1).alloc (.cells #[.slice a1 N.length cap1] 23)
  have k2 := (box_below b2 hb1).alloc (.cells #[.slice a1 N.length cap1] 23)
  have kN := Boxed.new W1 23 (.slice a1 N.length cap1)
  have kO := hO1.below (below_alloc W1 (.cells #[.slice a1 N.length cap1] 23))
  have hs1 := hb1.size
  rw [hs0] at hs1
  have hBw : Below w.heap.size w (W1.alloc (.cells #[.slice a1 N.length cap1] 23)) := (hB0.trans (hb1.mono (by omega))).alloc (by omega) _
  clear b0 b1 b2 hO1 hb1
  refine wpIn_rangeFunc_ownG rfl (by decide) (gf := 52) (lb := #[.pointer (some ⟨W1.heap.size, 0, none⟩)]) rfl trivial (enters_of Try.func52 (by kernel_rfl) rfl)
    (numbers_stops 4 (by decide) W1.heap.size W0.heap.size _ N (by omega) hwu _ (by simp) kN.cell kO) Ks.trans (fun W l o o' _ h ho _ => Ks.put o' h ho) (Below.refl _ _) (fun _ => rfl)
    (fun pre W => ((∃ v, Boxed W (w.heap.size + 1 + 1) 24 v ∧ W.ownsRow w.heap.size 30 4 v pre.length (EI.flat (pks R pre)) ∧ (pre.length ≤ most.toNat)) ∧ Boxed W w.heap.size 31 (.pointer (some ⟨p, 0, none⟩)) ∧ Boxed W (w.heap.size + 1) 3 (.int .i64 most)) ∧ Below w.heap.size w W)
    (fun c pre W => (c = .exit 0 ∧ ∃ (q : List (Nn N)) (x : Nn N), pre = q ++ [x] ∧ q.length = most.toNat ∧ ∃ v, Boxed W (w.heap.size + 1 + 1) 24 v ∧ W.ownsRow w.heap.size 30 4 v q.length (EI.flat (pks R q)) ∧ True) ∧ Below w.heap.size w W)
    (OwnFrom.and (Own.from (fun s A B row hs hg hr => ⟨holdsRow_own w.heap.size (w.heap.size + 1 + 1) 24 30 4 (fun (pre : List (Nn N)) => pre.length) (fun (pre : List (Nn N)) => EI.flat (pks R pre)) (fun pre _ => pre.length ≤ most.toNat) s A B row hs.1 hg hr, box_own hs.2.1 hg hr, box_own hs.2.2 hg hr⟩) _) (ownFrom_below (Nat.le_refl _) (by simp; omega)))
    (fun c => OwnFrom.and (Own.from (fun s A B row hs hg hr => by obtain ⟨h1, q, x, h2, h3, h4⟩ := hs; exact ⟨h1, q, x, h2, h3, holdsRow_own w.heap.size (w.heap.size + 1 + 1) 24 30 4 (fun (pre : List (Nn N)) => pre.length) (fun (pre : List (Nn N)) => EI.flat (pks R pre)) (fun _ _ => True) q A B row h4 hg hr⟩) _) (ownFrom_below (Nat.le_refl _) (by simp; omega)))
    ⟨⟨⟨_, k2, ⟨rfl, Or.inl ⟨rfl, rfl⟩⟩, Nat.zero_le _⟩, k0, k1⟩, hBw⟩
    (fun x => { tmps := #[.pointer (some ⟨p, 0, none⟩), v, .int .i64 most, .pointer (some ⟨w.heap.size, 0, none⟩), undef, .pointer (some ⟨w.heap.size + 1, 0, none⟩), .slice none 0 0, .pointer (some ⟨w.heap.size + 1 + 1, 0, none⟩), .int .u64 x.1, undef, undef, .pointer (some ⟨p, 0, none⟩), v, .slice a1 N.length cap1, .func (.func 52) #[] #[.pointer (some ⟨W1.heap.size, 0, none⟩)], .int .u64 x.1, undef, undef, undef, undef, undef, undef, undef, undef, undef, undef, undef, undef, undef, undef, undef, undef, undef, undef, undef], defers := [] }) ?assign ?body ?done ?stop
  case assign =>
    intro l x W K hK
    gi_wp2
    exact hK
  case body =>
    rintro l' pre x W ⟨⟨⟨vg, hv, hrow, hlen⟩, hs, hm⟩, hB⟩ hlt
    have hx := x.2
    rw [hwh, Bool.and_eq_true] at hx
    have hx := hx.2
    have hx0 := (hI.has l0 hx).1
    have hpl : (pre.length : Int) ≤ 64 := by omega
    obtain ⟨ag, capg, rfl⟩ : ∃ a cap, vg = .slice a pre.length cap := by
      rcases hrow.2 with ⟨rfl, h0⟩ | ⟨g, cap, cur, rfl, _⟩
      · exact ⟨none, 0, by rw [h0]⟩
      · exact ⟨_, cap, rfl⟩
    have cg := hv.cell
    have cs := hs.cell
    have cm := hm.cell
    by_cases hge : most ≤ (pre.length : Int)
    · gi_wp2
      exact ⟨KeepsFrom.refl _ _, ⟨rfl, pre, x, rfl, by omega, _, hv, hrow, trivial⟩, hB⟩
    · have hS1 := hS.below hB
      have hget : ∀ n, CallsIn Fence.wide n Try.prog 36 #[.pointer (some ⟨p, 0, none⟩), .int .u64 x.1] W _ := fun n => (callsIn_wide (n := n)).2 (sget_any p low R x.1 (by omega) W hS1)
      rw [(get_has hI l0 hx).1, (get_has hI l0 hx).2] at hget
      have hpk : Hid (pks R (pre ++ [x]) = pks R pre ++ [⟨x.1, (R (x.1 % 64).toNat).g⟩]) := pks_snoc R pre x
      generalize (R (x.1 % 64).toNat).g = M at *
      gi_wp2_with first | (refine ⟨trivial, ?_⟩; gi_at_call 36; refine (CallsIn.inRound l' (hget _)).mono ?_; rintro e W2 ⟨rfl, hb2⟩; have hv2 := box_below hv hb2; have hs2 := box_below hs hb2; have hm2 := box_below hm hb2; have hrow2 := Eow.below hrow hb2; have hB2 := hB.trans (hb2.mono hB.size); have hk2 := Ks.below hb2; have hf2 := fun B => keepsFrom_below B hb2; clear hb2 hget hv hs hm hrow cs cm; have cg2 := (hv2.alloc (.cells #[.int .i64 M.s, .int .u64 M.m, .string M.x] 28)).cell) | (gi_at_builtin; refine wpListIn_append_own _ rfl _ _ 24 rfl w.heap.size 30 i0 _ 4 40 Try.underlying24 hi hz0 hz1 hz2 rfl (by decide) _ _ _ rfl ((hrow2.alloc _).alloc _) ⟨W2.heap.size + 1, 0, none⟩ 1 1 (plC ⟨x.1, M⟩) rfl rfl (new_cells2 W2 _ (plC ⟨x.1, M⟩) 30) (EI.one ⟨x.1, M⟩) (by unfold maxLen; omega) (by omega) (by have := hB2.size; simp; omega) ?_; intro v' w1 hown' hgrow _; obtain ⟨g', cap', rfl⟩ := ownsRow_succ hown'; obtain ⟨hv1, hv3, hr3, hk3, hb3⟩ := (hv2.alloc (.cells #[.int .i64 M.s, .int .u64 M.m, .string M.x] 28)).appended (by decide) (hrow2.alloc _) (by have := hB2.size; simp; omega) (by omega) hown' hgrow; have hks := Ks.appended (by decide) (by decide) (hrow2.alloc _) hgrow hv1 (.slice (some ⟨g', 0, none⟩) (pre.length + 1) cap'); have hc1 := hv1.cell; have hf1 := hv1.frozen)
      refine ⟨((hf2 _).trans ((KeepsOthers.alloc W2 _).from _)).trans (hk3.from _), (hk2.trans (Ks.alloc W2 _)).trans hks, ⟨⟨_, hv3, ?_, ?_⟩, ?_, ?_⟩, ?_⟩
      · rw [hpk.out, EI.flat_append, List.length_append]
        exact hr3
      · simp; omega
      · exact (((hs2.alloc _).alloc _).kept hgrow (hs2.not_row (by decide) hrow2)).other (by omega) _
      · exact (((hm2.alloc _).alloc _).kept hgrow (hm2.not_row (by decide) hrow2)).other (by omega) _
      · exact (hB2.trans (((Below.refl _ W2).alloc hB2.size _))).trans hb3
  case done =>
    rintro D ys W hD hys ⟨⟨⟨vg, hv, hrow, hlen⟩, hs, hm⟩, hB⟩ hK
    have hc := hv.cell
    gi_wp2
    refine ⟨by simp, .inl ⟨_, _, rfl, run_takeDeferred hK, ?_⟩⟩
    have e : GV = pks R ys := by
      rw [hgv.out, ← hys, List.take_of_length_le (by rw [vals_length]; exact hlen)]; rfl
    refine ⟨_, results_tmp rfl _ _ _, ⟨vg, rfl, ?_⟩, hB.trans (belowK_b (w := w) (Nat.le_refl _) W D _ _ (by simp at hD; omega) hK rfl rfl)⟩
    rw [e]
    unfold OwE
    rw [pks_length]
    exact ownsRow_putObj hrow _ hK rfl
  case stop =>
    rintro D c pre W hD hpre ⟨⟨rfl, q, x, rfl, hq, vg, hv, hrow, _⟩, hB⟩ hK
    have hc := hv.cell
    gi_wp2
    refine ⟨by simp, .inl ⟨_, _, rfl, run_takeDeferred hK, ?_⟩⟩
    have e : GV = pks R q := by
      rw [vals_snoc] at hpre
      rw [hgv.out, take_pre ((List.prefix_append _ _).trans hpre) (by rw [vals_length]; exact hq)]; rfl
    refine ⟨_, results_tmp rfl _ _ _, ⟨vg, rfl, ?_⟩, hB.trans (belowK_b (w := w) (Nat.le_refl _) W D _ _ (by simp at hD; omega) hK rfl rfl)⟩
    rw [e]
    unfold OwE
    rw [pks_length]
    exact ownsRow_putObj hrow _ hK rfl
end Go.Proofs.Ytlbeincgknmijaa
