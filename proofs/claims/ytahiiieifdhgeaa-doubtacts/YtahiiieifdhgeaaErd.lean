/-
  The reference's Raise: what it writes; what is refused.
-/
import Derived.Test.YtahiiieifdhgeaaErc
namespace Go.Proofs.Ytahiiieifdhgeaa
open Go.RowKit Go.Maps

/-- What a step of the reference's doubts changes: its block q, and rows of doubts from block B on. -/
structure Mr (B q : Nat) (w w' : World) : Prop where
  os : w'.os = w.os
  tape : w'.tape = w.tape
  output : w'.output = w.output
  size : w.heap.size ≤ w'.heap.size
  block : ∀ k, k < w.heap.size → k ≠ q → (k < B ∨ ∀ cs z, w.heap[k]? ≠ some (.cells cs 68 z)) → w'.heap[k]? = w.heap[k]?
section
variable {B q : Nat} {w w' w'' : World}
theorem Mr.trans (h : Mr B q w w') (k : Mr B q w' w'') : Mr B q w w'' :=
  ⟨k.os.trans h.os, k.tape.trans h.tape, k.output.trans h.output, Nat.le_trans h.size k.size, fun i hi hq hc => by
    have e := h.block i hi hq hc
    refine (k.block i (Nat.lt_of_lt_of_le hi h.size) hq ?_).trans e
    rcases hc with hc | hc
    · exact Or.inl hc
    · exact Or.inr (by rw [e]; exact hc)⟩
theorem Mr.of (h : Below w.heap.size w w') : Mr B q w w' := ⟨h.os, h.tape, h.output, h.size, fun k hk _ _ => h.block k hk⟩
theorem Mr.but (h : But w.heap.size [q] w w') : Mr B q w w' := ⟨h.os, h.tape, h.output, h.size, fun k hk hq _ => h.block k hk (by simpa using hq)⟩
theorem Mr.to {C : Nat} (h : Mr B q w w') (hC : C ≤ w.heap.size) (hB : C ≤ B) (hq : C ≤ q) : Below C w w' := ⟨h.os, h.tape, h.output, h.size, fun k hk => h.block k (by omega) (by omega) (Or.inl (by omega))⟩
end

/-- A doubt is stored at g, o. -/
def set7 (w : World) (g o : Nat) (x : Dbt) : World :=
  ((((((w.setCell ⟨g, o, none⟩ (.int .i64 x.n)).setCell ⟨g, o + 1, none⟩ (.int .u64 x.i)).setCell ⟨g, o + 2, none⟩ (.int .i64 x.s)).setCell ⟨g, o + 3, none⟩ (.int .u64 (x.f : Int))).setCell ⟨g, o + 4, none⟩ (.int .u64 x.a)).setCell ⟨g, o + 5, none⟩ (.int .u64 x.t)).setCell ⟨g, o + 6, none⟩ (.int .u64 x.u)
theorem set7_other (w : World) {g : Nat} (o : Nat) (x : Dbt) {k : Nat} (hk : k ≠ g) : (set7 w g o x).heap[k]? = w.heap[k]? := by
  unfold set7
  rw [Below.heap_setCell _ _ _ _ hk, Below.heap_setCell _ _ _ _ hk, Below.heap_setCell _ _ _ _ hk, Below.heap_setCell _ _ _ _ hk, Below.heap_setCell _ _ _ _ hk, Below.heap_setCell _ _ _ _ hk, Below.heap_setCell _ _ _ _ hk]
theorem set7_size (w : World) (g o : Nat) (x : Dbt) : (set7 w g o x).heap.size = w.heap.size := by simp [set7, World.setCell]
theorem set7_os (w : World) (g o : Nat) (x : Dbt) : (set7 w g o x).os = w.os := by simp only [set7, World.setCell]
theorem set7_tape (w : World) (g o : Nat) (x : Dbt) : (set7 w g o x).tape = w.tape := by simp only [set7, World.setCell]
theorem set7_output (w : World) (g o : Nat) (x : Dbt) : (set7 w g o x).output = w.output := by simp only [set7, World.setCell]
theorem flatD_set (l : List Dbt) : ∀ (j : Nat) (x : Dbt), j < l.length → (((((((flatD l).set (j * 7) (.int .i64 x.n)).set (j * 7 + 1) (.int .u64 x.i)).set (j * 7 + 2) (.int .i64 x.s)).set (j * 7 + 3) (.int .u64 (x.f : Int))).set (j * 7 + 4) (.int .u64 x.a)).set (j * 7 + 5) (.int .u64 x.t)).set (j * 7 + 6) (.int .u64 x.u) = flatD (l.set j x) := by
  induction l with
  | nil => intro j u h; cases h
  | cons y r ih =>
    intro j u h
    cases j with
    | zero => simp [flatD, Dbt.cs]
    | succ j =>
      have := ih j u (by simpa using h)
      rw [show (j + 1) * 7 = j * 7 + 7 from by omega]
      simp only [flatD, Dbt.cs, List.cons_append, List.nil_append, List.set_cons_succ]
      rw [this]
theorem OwD.put {T : TypeId} {B g n cap : Nat} {l : List Dbt} {w : World} (h : OwD T B (.slice (some ⟨g, 0, none⟩) n cap) l w) {j : Nat} (hj : j < l.length) (x : Dbt) :
    OwD T B (.slice (some ⟨g, 0, none⟩) n cap) (l.set j x) (set7 w g (j * 7) x) := by
  unfold OwD
  refine ⟨by rw [flatD_length], Or.inr ?_⟩
  rcases h.2 with ⟨e, _⟩ | ⟨g', cap', cur, e, hB, hg, h1, h2, h3, h4⟩
  · cases e
  · cases e
    refine ⟨g, cap, ((((((cur.setIfInBounds (j * 7) (.int .i64 x.n)).setIfInBounds (j * 7 + 1) (.int .u64 x.i)).setIfInBounds (j * 7 + 2) (.int .i64 x.s)).setIfInBounds (j * 7 + 3) (.int .u64 (x.f : Int))).setIfInBounds (j * 7 + 4) (.int .u64 x.a)).setIfInBounds (j * 7 + 5) (.int .u64 x.t)).setIfInBounds (j * 7 + 6) (.int .u64 x.u), by rw [List.length_set], hB, by simp [set7, World.setCell, Array.getElem?_modify, hg], by rw [List.length_set]; exact h1, h2, by simpa using h3, ?_⟩
    rw [List.length_set, ← flatD_set l j x hj, ← h4]
    simp only [Array.toList_setIfInBounds, List.take_set]
theorem OwD.free {T : TypeId} {B g n cap : Nat} {l : List Dbt} {w : World} (h : OwD T B (.slice (some ⟨g, 0, none⟩) n cap) l w) (j : Nat) : w.frozen? ⟨g, j, none⟩ = false := by
  rcases h.2 with ⟨e, _⟩ | ⟨g', cap', cur, e, _, hg, _⟩
  · cases e
  · have : g = g' := by have := (Value.slice.inj e).1; simp at this; exact this
    subst this
    simp [World.frozen?, hg]
theorem OwD.ex {T : TypeId} {B : Nat} {a : Option Addr} {n cap : Nat} {l : List Dbt} {w : World} (h : OwD T B (.slice a n cap) l w) (hl : 0 < l.length) : ∃ g, a = some ⟨g, 0, none⟩ := by
  rcases h.2 with ⟨_, e⟩ | ⟨g', cap', cur, e, _⟩
  · omega
  · cases e; exact ⟨_, rfl⟩
theorem OwD.at0 {T : TypeId} {B g n cap : Nat} {l : List Dbt} {w : World} (h : OwD T B (.slice (some ⟨g, 0, none⟩) n cap) l w) {j : Nat} (hj : j < l.length) : C7 g (j * 7) l[j] w := by
  obtain ⟨g', off, cap', e, _, _, _, h7⟩ := h.rb.at hj
  rcases h.2 with ⟨e', _⟩ | ⟨g2, c2, cur, e', _⟩
  · cases e'
  · have := (Value.slice.inj e).1
    cases this
    rw [Nat.zero_add] at h7
    exact h7
theorem Rg.put {B q g cap : Nat} {K : List Dbt} {w : World} (hq : q < B) (hh : w.heap[q]? = some (.cells #[.slice (some ⟨g, 0, none⟩) K.length cap] 31 (0, 0))) (hO : OwD 68 B (.slice (some ⟨g, 0, none⟩) K.length cap) K w) {j : Nat} (hj : j < K.length) (x : Dbt) :
    Rg B q (K.set j x) (set7 w g (j * 7) x) := by
  have hlt := (hO.lt g rfl).1
  have hne : q ≠ g := by omega
  have h2 := hO.put hj x
  exact ⟨hq, .slice (some ⟨g, 0, none⟩) K.length cap, (set7_other w (j * 7) x hne).trans hh, h2⟩
theorem Mr.put {B q g n cap : Nat} {K : List Dbt} {w w1 : World} (hb : Below w.heap.size w w1) (hO : OwD 68 B (.slice (some ⟨g, 0, none⟩) n cap) K w) (o : Nat) (x : Dbt) : Mr B q w (set7 w1 g o x) := by
  obtain ⟨h1, cur, h2⟩ := hO.blk (g := g) rfl
  refine ⟨(set7_os w1 g o x).trans hb.os, (set7_tape w1 g o x).trans hb.tape, (set7_output w1 g o x).trans hb.output, by rw [set7_size]; exact hb.size, fun k hk _ hc => ?_⟩
  refine (set7_other w1 o x ?_).trans (hb.block k hk)
  rintro rfl
  rcases hc with hc | hc
  · omega
  · exact hc _ _ h2
theorem step_appD {S T : TypeId} (hS : Try.prog.underlying S = some (.slice T)) (hI : (Try.prog.info? T).map (fun i => (i.zero, i.size, i.bytes)) = some (some zV, 7, 56)) {ops : Array Oper} {o : Oper} {a : Act} {K : Act → World → Prop} {Q : Exit → Act → World → Prop} {E : Prop} (w : World) (hgd : o.guard = none) (s x : Operand)
    (ho : o.op = .call { callee := .builtin .append, args := #[s, x], argTypes := #[S, S] }) (B : Nat) (v : Value) (l : List Dbt) (hs : a.eval s = v) (hown : OwD T B v l w) (hB : B ≤ w.heap.size)
    (g off c : Nat) (r : List Dbt) (m : Nat) (hm : m = r.length) (hx : a.eval x = .slice (some ⟨g, off, none⟩) m c) (hu : Rb (.slice (some ⟨g, off, none⟩) m c) r w) (hl : l.length + r.length ≤ 1000000)
    (h : ∀ v' w', OwD T B v' (l ++ r) w' → w.grownBy w' v.ownBlock → (v'.ownBlock = v.ownBlock ∨ v'.ownBlock = some w.heap.size) → K (a.put o.dst v') w') :
    if Region.wanted o (yielded ops a.tmps) = true then Oper.wp Try.prog o a w K Q else E := by
  have hw : Region.wanted o (yielded ops a.tmps) = true := by simp [Region.wanted, hgd]
  rw [if_pos hw]
  exact wp_appD hS hI w s x ho B v l hs hown hB g off c r m hm hx hu hl h

/-- Whom a list in whatever order has. -/
theorem get_perm {K L : List Dbt} (h : K.Perm L) (hL : Di L) {k : Nat} (hk : k < K.length) {n : Int} (hn : K[k].n = n) : hasD L n = true ∧ getD L n = K[k] := by
  have hm : K[k] ∈ L := h.mem_iff.1 (List.getElem_mem hk)
  subst hn
  exact ⟨hasD_of hm, getD_of hL hm⟩
theorem none_perm {K L : List Dbt} (h : K.Perm L) {n i : Int} (hno : ∀ j (hj : j < K.length), K[j].n = n → K[j].i < i) : hasD L n = false ∨ (getD L n).i < i := by
  cases hh : hasD L n
  · exact Or.inl rfl
  · obtain ⟨h1, h2⟩ := hasD_true hh
    obtain ⟨j, hj, e⟩ := List.mem_iff_getElem.1 (h.mem_iff.2 h1)
    exact Or.inr (by rw [← e]; exact hno j hj (by rw [e]; exact h2))

set_option maxRecDepth 100000 in
set_option maxHeartbeats 2000000 in
theorem rraise_arg (q : Nat) (n i s from_ now nodes : Int) (base : Nat) (ha : argS n s from_ = false) (w : World) :
    Calls Try.prog 10 #[.pointer (some ⟨q, 0, none⟩), .agg #[.int .i64 n, .int .u64 i, .int .i64 s], .int .i64 from_, .int .u64 now, .int .i64 nodes, .float .f64 base] w fun e w' => e = .returned (.tuple #[.bool false, .int .i64 1]) ∧ Below w.heap.size w w' := by
  have bW := below_alloc w (.cells #[.int .i64 n, .int .u64 i, .int .i64 s] 34)
  have hS := Bx.new 34 n i s w
  obtain ⟨w3, HW3⟩ : ∃ w3, Hid (w3 = w.alloc (.cells #[.int .i64 n, .int .u64 i, .int .i64 s] 34)) := ⟨_, rfl⟩
  rw [← HW3.out] at bW hS
  have hz := bW.size
  obtain ⟨G, HG⟩ : ∃ G, Hid (w.heap.size = G) := ⟨_, rfl⟩
  rw [HG.out] at bW hS hz ⊢
  have hmay := fun W => fmay_any n i s W
  have x0 := hS.c0
  have x1 := hS.c1
  have x2 := hS.c2
  cases hm : mayS n s
  · rw [hm] at hmay
    go_enter Try.func10, Try.ntmps10
    go_upto_region 1 with fail
    rw [← HW3.out, HG.out]
    go_wp2_with fail
    refine (hmay _).mono ?_
    rintro e wM ⟨rfl, hb⟩
    go_wp2_with fail
    go_ret2
    exact ⟨rfl, bW.trans (hb.mono hz)⟩
  · rw [hm] at hmay
    unfold argS at ha
    rw [hm, Bool.true_and] at ha
    have hs : s = 1 ∨ (s != 1) = true := by
      by_cases h : s = 1
      · exact Or.inl h
      · exact Or.inr (by simpa using h)
    rcases hs with rfl | hs
    · have hf : from_ < 0 ∨ (0 ≤ from_ ∧ 64 ≤ from_) := by simp at ha; omega
      clear ha
      rcases hf with hf | hf
      all_goals
        go_enter Try.func10, Try.ntmps10
        go_upto_region 1 with fail
        rw [← HW3.out, HG.out]
        go_wp2_with fail
        refine (hmay _).mono ?_
        rintro e wM ⟨rfl, hb⟩
        have y2 := (hS.below hb).c2
        go_wp2_with fail
        go_ret2
        exact ⟨rfl, bW.trans (hb.mono hz)⟩
    · clear ha
      go_enter Try.func10, Try.ntmps10
      go_upto_region 1 with fail
      rw [← HW3.out, HG.out]
      go_wp2_with fail
      refine (hmay _).mono ?_
      rintro e wM ⟨rfl, hb⟩
      have y2 := (hS.below hb).c2
      go_wp2_with fail
      go_ret2
      exact ⟨rfl, bW.trans (hb.mono hz)⟩
end Go.Proofs.Ytahiiieifdhgeaa
