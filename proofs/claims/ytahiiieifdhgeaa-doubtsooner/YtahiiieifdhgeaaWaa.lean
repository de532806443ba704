/-
  DoubtArgs.
-/
import Derived.Test.YtahiiieifdhgeaaEsh
namespace Go.Proofs.Ytahiiieifdhgeaa
open Go.RowKit Go.Maps

theorem raise_is_arg {L : List Dbt} {n i s from_ now nodes : Int} {base : Nat} (ha : argS n s from_ = false) : raiseS L n i s from_ now nodes base = (false, 1, L) := by
  unfold raiseS
  rw [if_pos ha]
/-- A row of one doubt. -/
theorem OwD.one {T : TypeId} {B : Nat} {v : Value} {x : Dbt} {w : World} (h : OwD T B v [x] w) : ∃ g cap, v = .slice (some ⟨g, 0, none⟩) 1 cap ∧ 1 ≤ cap ∧ B ≤ g ∧ g < w.heap.size ∧ C7 g 0 x w := by
  obtain ⟨a, cap, rfl, hc, _⟩ := h.rb
  obtain ⟨g, rfl⟩ := h.ex (by simp)
  have h7 := h.at0 (j := 0) (by simp)
  obtain ⟨h1, h2⟩ := h.lt g rfl
  exact ⟨g, cap, rfl, hc, h1, h2, by simpa using h7⟩
theorem OwD.zero {T : TypeId} {B : Nat} {v : Value} {w : World} (h : OwD T B v [] w) : ∃ a cap, v = .slice a 0 cap := by
  obtain ⟨a, cap, rfl, _⟩ := h.rb
  exact ⟨a, cap, rfl⟩

structure Sa (w0 : World) (G g : Nat) (n i : Int) (x : Dbt) (W : World) : Prop where
  box : Bx 34 G n i 1 W
  row : C7 g 0 x W
  bel : Below w0.heap.size w0 W
section
variable {w0 : World} {G g : Nat} {n i : Int} {x : Dbt} {W W' : World}
theorem Sa.drew (h : Sa w0 G g n i x W) : Sa w0 G g n i x W.drew := ⟨h.box.keep rfl, h.row.keep rfl, Below.drew' h.bel⟩
theorem Sa.below (h : Sa w0 G g n i x W) (b : Below W.heap.size W W') : Sa w0 G g n i x W' := ⟨h.box.below b, h.row.below b, h.bel.trans (b.mono h.bel.size)⟩
theorem Sa.mv {p : Nat} {m m' : Option Nat} (h : Sa w0 G g n i x W) (k : Mv p m m' W W') (hG : G ≠ p) (hGm : some G ≠ m) (hg : g ≠ p) (hgm : some g ≠ m) (hp : w0.heap.size ≤ p) (hm : ∀ b, m = some b → w0.heap.size ≤ b) : Sa w0 G g n i x W' :=
  ⟨h.box.keep (k.block G h.box.lt hG hGm), h.row.keep (k.block g h.row.lt hg hgm), h.bel.trans (k.to h.bel.size hp hm)⟩
theorem Sa.s (h : Sa w0 G g n i x W) : W.cell? ⟨G, 0, none⟩ = some (.int .i64 n) ∧ W.cell? ⟨G, 1, none⟩ = some (.int .u64 i) ∧ W.cell? ⟨G, 2, none⟩ = some (.int .i64 1) ∧ W.cell? ⟨g, 0, none⟩ = some (.int .i64 x.n) ∧ W.cell? ⟨g, 1, none⟩ = some (.int .u64 x.i) ∧ W.cell? ⟨g, 2, none⟩ = some (.int .i64 x.s) ∧ W.cell? ⟨g, 3, none⟩ = some (.int .u64 (x.f : Int)) ∧ W.cell? ⟨g, 6, none⟩ = some (.int .u64 x.u) := by
  obtain ⟨d0, d1, d2, d3, d4, d5, d6⟩ := h.row
  exact ⟨h.box.c0, h.box.c1, h.box.c2, d0, by simpa using d1, by simpa using d2, by simpa using d3, by simpa using d6⟩
end

set_option maxRecDepth 100000 in
set_option maxHeartbeats 4000000 in
theorem args_no (n i s from_ now nodes : Int) (base : Nat) (hi : 0 ≤ i ∧ i ≤ 18446744073709551615) (hnow : 0 ≤ now ∧ now ≤ 18446744073709551615) (HB : Hid (base < 2 ^ 64)) (hnd : -9223372036854775808 ≤ nodes ∧ nodes ≤ 9223372036854775807) (ha : argS n s from_ = false) (w : World) :
    Calls Try.prog 7 #[.agg #[.int .i64 n, .int .u64 i, .int .i64 s], .int .i64 from_, .int .u64 now, .int .i64 nodes, .float .f64 base] w fun e w' => e = .returned (.bool true) ∧ Below w.heap.size w w' := by
  have b1 := below_alloc w (.cells #[.int .i64 n, .int .u64 i, .int .i64 s] 34)
  have hX := Bx.new 34 n i s w
  obtain ⟨w1, HW1⟩ : ∃ w1, Hid (w1 = w.alloc (.cells #[.int .i64 n, .int .u64 i, .int .i64 s] 34)) := ⟨_, rfl⟩
  rw [← HW1.out] at b1 hX
  have b2 := below_alloc w1 (.cells #[.map none] 27)
  have hQ := Du.new w1
  have hX2 := hX.below b2
  obtain ⟨w2, HW2⟩ : ∃ w2, Hid (w2 = w1.alloc (.cells #[.map none] 27)) := ⟨_, rfl⟩
  rw [← HW2.out] at b2 hQ hX2
  have hr := raise_any w1.heap.size none [] n i s from_ now nodes base hi hnow HB hnd w2 hQ
  rw [raise_is_arg ha] at hr
  simp only at hr
  have hal := fun m W => all_any w1.heap.size m [] W
  have hz1 := b1.size
  have hz2 := b2.size
  have c0 := hX2.c0
  have c1 := hX2.c1
  have c2 := hX2.c2
  have hbb : Below w.heap.size w w2 := b1.trans (b2.mono hz1)
  have hcs : n < 0 ∨ (0 ≤ n ∧ 64 ≤ n) ∨ (0 ≤ n ∧ n < 64 ∧ (s == 1) = false) ∨ (0 ≤ n ∧ n < 64 ∧ (s == 1) = true ∧ from_ < 0) ∨ (0 ≤ n ∧ n < 64 ∧ (s == 1) = true ∧ 0 ≤ from_ ∧ 64 ≤ from_ ∧ decide (from_ < 64) = false) := by
    by_cases h1 : n < 0
    · exact Or.inl h1
    · by_cases h2 : 64 ≤ n
      · exact Or.inr (Or.inl ⟨by omega, h2⟩)
      · cases h3 : (s == 1)
        · exact Or.inr (Or.inr (Or.inl ⟨by omega, by omega, rfl⟩))
        · have h3' : s = 1 := by simpa using h3
          subst h3'
          simp [argS, mayS] at ha
          by_cases h4 : from_ < 0
          · exact Or.inr (Or.inr (Or.inr (Or.inl ⟨by omega, by omega, rfl, h4⟩)))
          · exact Or.inr (Or.inr (Or.inr (Or.inr ⟨by omega, by omega, rfl, by omega, by omega, by simp; omega⟩)))
  clear ha hQ hX hX2 b1 b2
  have hs1 : w1.heap.size = w.heap.size + 1 := by rw [HW1.out]; simp
  rw [hs1] at hr hal
  clear hs1
  rcases hcs with h1 | ⟨h1, h2⟩ | ⟨h1, h2, h3⟩ | ⟨h1, h2, h3, h4⟩ | ⟨h1, h2, h3, h4, h5, h6⟩
  all_goals
    go_enter Try.func7, Try.ntmps7
    go_upto_region 2 with fail
    rw [← HW1.out, ← HW2.out]
    go_wp2_with fail
    refine hr.mono ?_
    rintro e w3 ⟨rfl, m, hQ3, hmv⟩
    go_wp2_with fail
    refine (hal _ _ hQ3).mono ?_
    rintro e w4 ⟨⟨v, rfl, hO⟩, hb4⟩
    obtain ⟨a, cap, rfl⟩ := hO.zero
    have hb3 : Below w.heap.size w w3 := hbb.trans (hmv.to hbb.size (by omega) (fun b e => by cases e))
    have hb4' : Below w.heap.size w w4 := hb3.trans (hb4.mono hb3.size)
    go_wp2_with fail
    refine (shown_any _).mono ?_
    rintro e w5 ⟨rfl, hb5⟩
    go_wp2_with fail
    go_ret
    exact ⟨rfl, hb4'.trans (hb5.mono hb4'.size)⟩

set_option maxRecDepth 100000 in
set_option maxHeartbeats 4000000 in
theorem args_yes (n i s from_ now nodes : Int) (base : Nat) (hi : 0 ≤ i ∧ i ≤ 18446744073709551615) (hnow : 0 ≤ now ∧ now ≤ 18446744073709551615) (HB : Hid (base < 2 ^ 64)) (hnd : -9223372036854775808 ≤ nodes ∧ nodes ≤ 9223372036854775807) (ha : argS n s from_ = true) (w : World) :
    Calls Try.prog 7 #[.agg #[.int .i64 n, .int .u64 i, .int .i64 s], .int .i64 from_, .int .u64 now, .int .i64 nodes, .float .f64 base] w fun e w' => e = .returned (.bool true) ∧ Below w.heap.size w w' := by
  obtain ⟨n0, n1, rfl, f0, f1⟩ := argS_true ha
  have b1 := below_alloc w (.cells #[.int .i64 n, .int .u64 i, .int .i64 1] 34)
  have hX := Bx.new 34 n i 1 w
  obtain ⟨w1, HW1⟩ : ∃ w1, Hid (w1 = w.alloc (.cells #[.int .i64 n, .int .u64 i, .int .i64 1] 34)) := ⟨_, rfl⟩
  rw [← HW1.out] at b1 hX
  have b2 := below_alloc w1 (.cells #[.map none] 27)
  have hQ := Du.new w1
  have hX2 := hX.below b2
  obtain ⟨w2, HW2⟩ : ∃ w2, Hid (w2 = w1.alloc (.cells #[.map none] 27)) := ⟨_, rfl⟩
  rw [← HW2.out] at b2 hQ hX2
  have hr := raise_any w1.heap.size none [] n i 1 from_ now nodes base hi hnow HB hnd w2 hQ
  rw [raise_is_new ha (Or.inl rfl)] at hr
  simp only at hr
  have hkd : keepD [] (newD n i from_ now nodes base) = [newD n i from_ now nodes base] := rfl
  rw [hkd] at hr
  have hal := fun m W => all_any w1.heap.size m [newD n i from_ now nodes base] W
  have hok := newD_ok (base := base) (nodes := nodes) ha hi hnow
  have hun := laterS_range hnow.1 hnow.2 (tkS_nonneg base nodes 0)
  have e0 : (newD n i from_ now nodes base).n = n := rfl
  have e1 : (newD n i from_ now nodes base).i = i := rfl
  have e2 : (newD n i from_ now nodes base).s = 1 := rfl
  have e3 : (newD n i from_ now nodes base).f = Bnd.bitS from_ := by show 0 ||| Bnd.bitS from_ = _; simp
  have e6 : now ≤ (newD n i from_ now nodes base).u := hun.1
  clear hkd hok hun
  generalize newD n i from_ now nodes base = x at *
  have hz1 := b1.size
  have hz2 := b2.size
  have c0 := hX2.c0
  have c1 := hX2.c1
  have c2 := hX2.c2
  have hbb : Below w.heap.size w w2 := b1.trans (b2.mono hz1)
  have hGl : w.heap.size < w1.heap.size := hX.lt
  have hh1 : hasD [x] n = true := by simp [hasD, e0]
  have hh2 : hasD [] n = false := rfl
  have hl1 : lessD [x] n = [] := by simp [lessD, e0]
  have hdr := fun m L W => drop_any w1.heap.size m L n (wf_node n0 n1) W
  have hwp := Bnd.wrap_pow from_ ((Bnd.nodeS_iff from_).2 ⟨f0, f1⟩)
  have heq := fun W => run_eqlU ⟨n, i, 1⟩ ⟨n, i, 1⟩ W
  have hee : eqU ⟨n, i, 1⟩ ⟨n, i, 1⟩ = true := by simp [eqU]
  rw [hee] at heq
  simp only at heq
  have hqi := hQ.lt
  clear hee ha hX b1 b2 hQ
  obtain ⟨G, HG⟩ : ∃ G, Hid (w.heap.size = G) := ⟨_, rfl⟩
  have hs1 : w1.heap.size = G + 1 := by rw [← HG.out, HW1.out]; simp
  rw [HG.out] at c0 c1 c2 hX2
  rw [hs1] at hr hal hdr hqi
  clear hs1 hGl
  have fin : ∀ W, Below w.heap.size w W → Below w.heap.size w W := fun _ h => h
  go_enter Try.func7, Try.ntmps7
  go_upto_region 2 with fail
  rw [← HW1.out, ← HW2.out, HG.out]
  go_wp2_with fail
  refine hr.mono ?_
  rintro e w3 ⟨rfl, m, hQ3, hmv⟩
  have hb3 : Below w.heap.size w w3 := hbb.trans (hmv.to hbb.size (by rw [HG.out]; omega) (fun b e => by cases e))
  have hmf := hmv.from_ hbb.size (fun b e => by cases e)
  have hX3 : Bx 34 G n i 1 w3 := hX2.keep (hmv.block G hX2.lt (by omega) (by simp))
  have hGm : some G ≠ m := by
    intro e
    rcases hmv.at_ with h | h
    · rw [h] at e; cases e
    · have := h G e.symm
      have := hX2.lt
      omega
  go_wp2_with fail
  refine (hal _ _ hQ3).mono ?_
  rintro e w4 ⟨⟨v, rfl, hO⟩, hb4⟩
  obtain ⟨g, cap, rfl, hcap, hg1, hg2, hrow⟩ := hO.one
  have hQ4 : Du (G + 1) m [x] w4 := hQ3.below hb4
  have hQ4d : Du (G + 1) m [x] w4.drew := hQ4.keep rfl fun _ _ => rfl
  have hS : Sa w G g n i x w4 := ⟨hX3.below hb4, hrow, hb3.trans (hb4.mono hb3.size)⟩
  have hSd := hS.drew
  have hgp : g ≠ G + 1 := by have := hQ3.lt; omega
  have hgm : some g ≠ m := fun e => by have := hQ3.mlt g e.symm; omega
  have hGp : G ≠ G + 1 := by omega
  have hpG : w.heap.size ≤ G + 1 := by rw [HG.out]; omega
  clear hX3 hX2 hrow hO hb4 hb3 hmv hr hal hbb hQ3 hQ4 c0 c1 c2
  have e6' : decide (now ≤ x.u) = true := by simpa using e6
  rw [← e0, ← e1, ← e2] at heq
  go_upto_region 7 with fail
  go_region_held3 (fun W => W.cell? ⟨G, 0, none⟩ = some (.int .i64 n) ∧ W.cell? ⟨G, 1, none⟩ = some (.int .u64 i) ∧ W.cell? ⟨G, 2, none⟩ = some (.int .i64 1) ∧ W.cell? ⟨g, 0, none⟩ = some (.int .i64 x.n) ∧ W.cell? ⟨g, 1, none⟩ = some (.int .u64 x.i) ∧ W.cell? ⟨g, 2, none⟩ = some (.int .i64 x.s) ∧ W.cell? ⟨g, 3, none⟩ = some (.int .u64 (x.f : Int)) ∧ W.cell? ⟨g, 6, none⟩ = some (.int .u64 x.u)) (first | exact hS3.s | exact hS2.s | exact hS1.s | exact hSd.s | exact hS.s) ((first
    | (go_at_call 11; refine (hdr m [x] _ hQ4d).mono ?_; rw [hh1]; rintro e wA ⟨rfl, hQA, hmA⟩; rw [hl1] at hQA; have hS1 := hSd.mv hmA hGp hGm hgp hgm hpG hmf)
    | (go_at_call 11; refine (hdr m [] _ hQA).mono ?_; rw [hh2]; rintro e wB ⟨rfl, hQB, hmB⟩; have hS2 := hS1.mv hmB hGp hGm hgp hgm hpG hmf)
    | (go_at_call 8; refine (shown_any _).mono ?_; rintro e wC ⟨rfl, hbC⟩; have hS3 := hS2.below hbC)))
  all_goals
    go_wp2_with fail
    go_ret
    exact ⟨rfl, hS3.bel⟩
end Go.Proofs.Ytahiiieifdhgeaa
