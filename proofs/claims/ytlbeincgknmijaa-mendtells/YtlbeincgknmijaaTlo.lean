/-
  Pieces that come in, opened; theirs; Same of pieces; Digest, the code's and the reference's.
-/
import Derived.Test.YtlbeincgknmijaaTka
import Derived.Test.YtlbeincgknmijaaGvw
namespace Go.Proofs.Ytlbeincgknmijaa
open Go.RowKit Go.Deep Go.ChangeShapes

/-- What a slice of pieces that is given holds. -/
def IsPieces (w : World) (a : Option Addr) (len cap : Nat) (l : List Pl) : Prop := l.length = len ∧ Rp (.slice a len cap) l w ∧ PlOk l

section
variable {H : Type} {enc : TypeId × Value → H} {w : World} {base : Nat} {spare : Nat → Bool} {held : Bool}
theorem trod_piece {n : Nat} {cs : List Value} {x : DataW H × List MemPlace} (h : DataW.trod enc Try.prog w base spare held n 30 cs = some x) :
    ∃ A : Pl, (0 ≤ A.n ∧ A.n ≤ 18446744073709551615) ∧ cs = plC A := by
  have hc : Try.prog.cellsOf 30 = 4 := by kernel_rfl
  have hcM : Try.prog.cellsOf 28 = 3 := by kernel_rfl
  have hc3 : Try.prog.cellsOf 3 = 1 := by kernel_rfl
  have hcs : Try.prog.cellsOf 9 = 1 := by kernel_rfl
  have hcu : Try.prog.cellsOf 25 = 1 := by kernel_rfl
  obtain ⟨xs, m, _, _, hlen, hxl, hf⟩ := DataW.trod_struct Try.underlying30 h
  rw [hc] at hlen
  match cs, hlen with
  | [a, b, c, d], _ =>
    match xs, hxl with
    | [y0, y1], _ =>
      have f0 := hf 0 _ rfl
      have f1 := hf 1 _ rfl
      simp [hcM, hcu] at f0 f1
      obtain ⟨n2, rfl, w2⟩ := trod_one Try.underlying25 f0
      obtain ⟨z0, z1, z2, m', _, _, g0, g1, g2⟩ := trod_struct3 Try.underlying28 f1
      simp [hc3, hcu, hcs] at g0 g1 g2
      obtain ⟨n4, rfl, _⟩ := trod_one Try.underlying3 g0
      obtain ⟨n5, rfl, w5⟩ := trod_one Try.underlying25 g1
      obtain ⟨s, e6, _⟩ := DataW.trod_string Try.underlying9 g2
      simp at e6
      subst e6
      exact ⟨⟨n2, ⟨n4, n5, s⟩⟩, u64_of w2, rfl⟩
end

theorem open_pieces {H : Type} {enc : TypeId × Value → H} {W : World} {a : Option Addr} {len cap : Nat} {d : DataW H} {ps : List MemPlace} (h : DataW.Trod enc Try.prog W 0 (fun _ => true) true 24 (.slice a len cap) d ps) : ∃ l, IsPieces W a len cap l := by
  obtain ⟨fuel, hf0⟩ := h
  have hf : DataW.trod enc Try.prog W 0 (fun _ => true) true fuel 24 [.slice a len cap] = some (d, ps) := hf0
  have hC : Try.prog.cellsOf 30 = 4 := by kernel_rfl
  rcases open_slice Try.underlying24 hf with ⟨hcs, _⟩ | ⟨a', l', c', m, n, D, Pl', hcs, _, hlc, hm, hmm, _, hel⟩
  · simp at hcs
    obtain ⟨rfl, rfl, rfl⟩ := hcs
    exact ⟨[], rfl, ⟨_, _, rfl, Or.inl rfl⟩, fun u hu => by cases hu⟩
  · simp at hcs
    obtain ⟨rfl, rfl, rfl⟩ := hcs
    simp at hmm
    subst hmm
    rw [hC] at hel
    have key : ∀ j, ∃ A : Pl, j < len → (0 ≤ A.n ∧ A.n ≤ 18446744073709551615) ∧ ∀ c v, (plC A)[c]? = some v → W.cell? ((a'.add (j * 4)).add c) = some v := by
      intro j
      by_cases hj : j < len
      · obtain ⟨cs', hc, hy⟩ := hel j (by omega)
        obtain ⟨_, hlen, hcell⟩ := World.cells?_some hc
        obtain ⟨A, h1, h2⟩ := trod_piece hy
        refine ⟨A, fun _ => ⟨h1, fun c v hv => ?_⟩⟩
        have hc6 : c < 4 := (List.getElem?_eq_some_iff.1 hv).1
        rw [hcell c hc6, h2]
        exact hv
      · exact ⟨zP, fun h => absurd h hj⟩
    obtain ⟨f, hf⟩ : ∃ f : Nat → Pl, ∀ j, j < len → (0 ≤ (f j).n ∧ (f j).n ≤ 18446744073709551615) ∧ ∀ c v, (plC (f j))[c]? = some v → W.cell? ((a'.add (j * 4)).add c) = some v :=
      ⟨fun j => Classical.choose (key j), fun j hj => Classical.choose_spec (key j) hj⟩
    clear key
    refine ⟨(List.range len).map f, by simp, ⟨_, _, by simp; exact ⟨rfl, rfl⟩, ?_⟩, fun u hu => ?_⟩
    · rcases Nat.eq_zero_or_pos len with h0 | h0
      · exact Or.inl (by simpa using h0)
      · right
        obtain ⟨b, off, spot⟩ := a'
        have hspot : spot = none := by
          have := (hf 0 h0).2 0 _ rfl
          simpa [Addr.add] using World.cell?_spot this
        subst hspot
        have hat : ∀ j, j < len → ∀ c v, (plC (f j))[c]? = some v → W.cell? ⟨b, off + j * 4 + c, none⟩ = some v := fun j hj c v hv => by
          have hs := (hf j hj).2 c v hv
          simp only [add_flat] at hs
          exact hs
        refine ⟨b, off, rfl, World.block_lt_of_cell? _ _ (hat 0 h0 0 _ rfl), fun j hj => ?_⟩
        simp at hj
        simp only [List.getElem_map, List.getElem_range]
        exact ⟨hat j hj 0 _ rfl, hat j hj 1 _ rfl, hat j hj 2 _ rfl, hat j hj 3 _ rfl⟩
    · obtain ⟨j, hj, rfl⟩ := List.mem_map.1 hu
      exact (hf j (List.mem_range.1 hj)).1
theorem Rp.lt {v : Value} {l : List Pl} {w : World} (h : Rp v l w) : l = [] ∨ ∃ g, v.ownBlock = some g ∧ g < w.heap.size := by
  obtain ⟨a, cap, rfl, h3⟩ := h
  rcases h3 with h3 | ⟨g, off, rfl, hg, h3⟩
  · exact Or.inl (List.length_eq_zero_iff.1 h3)
  · exact Or.inr ⟨g, rfl, hg⟩

set_option maxRecDepth 100000 in
set_option maxHeartbeats 4000000 in
theorem theirs_any (v : Value) (l : List Pl) (w : World) (hR : Rp v l w) (hl : l.length ≤ 1000) :
    Calls Try.prog 13 #[v] w fun e w' => (∃ v', e = .returned v' ∧ OwE EI 67 w.heap.size v' l w') ∧ Below w.heap.size w w' := by
  obtain ⟨a, cap, rfl, h3⟩ := id hR
  have hlen : (l.length : Int) ≤ 1000 := by omega
  have hO0 : OwE EI 67 w.heap.size (.slice (some ⟨w.heap.size, 0, none⟩) 0 0) [] (w.alloc (.cells #[] 67)) := World.ownsRow_made w #[] 0 (Nat.le_refl _) (Nat.zero_le _) rfl
  have b0 := below_alloc w (.cells #[] 67)
  go_enter Try.func13, Try.ntmps13
  go_wp2_with fail
  go_loopg [3, 4] l.length (fun gk t3 t4 wr => ∃ k : Nat, k + gk = l.length ∧ t4 = .int .i64 k ∧ OwE EI 67 w.heap.size t3 (l.take k) wr ∧ Below w.heap.size w wr)
  case atStart => exact ⟨0, by omega, rfl, hO0, b0⟩
  case round =>
    obtain ⟨k, hk, rfl, hO, hB⟩ := hrel
    clear hO0 b0
    have k0 : (0 : Int) ≤ k := by omega
    by_cases hlt : (k : Int) < l.length
    · have hkl : k < l.length := by omega
      have hRk := hR.below hB
      obtain ⟨_, _, e, h4⟩ := id hRk
      cases e
      rcases h4 with h4 | ⟨g, off, rfl, hg, h4⟩
      · omega
      obtain ⟨c0, c1, c2, c3⟩ := h4 k hkl
      obtain ⟨ao, co, rfl, _, _⟩ := hO.len
      have hst : Hid (l.take (k + 1) = l.take k ++ [l[k]]) := List.take_succ_eq_append_getElem hkl
      have hlk : (l.take k).length = k := by rw [List.length_take]; omega
      generalize l[k] = x at *
      obtain ⟨y, M⟩ := x
      dsimp only at c0 c1 c2 c3
      generalize l.take k = P at *
      have b5 := below_alloc wr (.cells #[.int .u64 y, .int .i64 M.s, .int .u64 M.m, .string M.x] 67)
      have hO5 := hO.below b5
      have hY : RdE EI (.slice (some ⟨wr.heap.size, 0, none⟩) 1 1) [⟨y, M⟩] (wr.alloc (.cells #[.int .u64 y, .int .i64 M.s, .int .u64 M.m, .string M.x] 67)) := RdE.one (heap_alloc_new wr _)
      have hB5 := hB.trans (b5.mono hB.size)
      clear hO b5 h3 h4 hR hRk hB
      go_wp2_with (at_builtin; refine wpList_appE Try.undI Try.infoI (by decide) (by decide) _ rfl (.tmp 12) (.tmp 17) rfl w.heap.size _ P rfl hO5 hB5.size wr.heap.size 0 1 [⟨y, M⟩] 1 rfl rfl hY (by simp only [List.length_cons, List.length_nil]; omega) ?_; intro v7 w7 hO7 hg7 hn7)
      have hB7 : Below w.heap.size w w7 := hB5.trans ⟨hg7.os, hg7.tape, hg7.output, hg7.size, fun j hj => hg7.block j (by have := hB5.size; omega) (fun e => by have := (hO5.lt j e.symm).1; omega)⟩
      clear hg7 hn7 hO5 hY
      go_roundg (gk - 1)
      case rel => exact ⟨k + 1, by omega, by go_num, by rw [hst.out]; exact hO7, hB7⟩
      case measure => omega
    · have e : l.take k = l := List.take_of_length_le (by omega)
      rw [e] at hO
      clear h3 hR e
      go_wp2_with fail
      go_ret
      exact ⟨⟨_, rfl, hO⟩, hB⟩

theorem run_neqI (n : Int) (g : Ms) (w : World) : (binOp .neq 67 (.agg #[.int .u64 n, .int .i64 g.s, .int .u64 g.m, .string g.x]) (.agg #[.int .u64 n, .int .i64 g.s, .int .u64 g.m, .string g.x])).run Try.prog w = .ok (.bool false) w := by
  have h : (Op.equalIn 10000 67 (.agg #[.int .u64 n, .int .i64 g.s, .int .u64 g.m, .string g.x]) (.agg #[.int .u64 n, .int .i64 g.s, .int .u64 g.m, .string g.x])).run Try.prog w = .ok true w := by
    rw [run_equalIn_struct w 9999 67 _ _ (by kernel_rfl) (by kernel_rfl)]
    simp [Program.fieldsOf, go_sem]
  simp [binOp, Op.equal, Op.maxDepth, h]

set_option maxRecDepth 100000 in
set_option maxHeartbeats 4000000 in
theorem psame_any (v u : Value) (l : List Pl) (w : World) (hl : l.length ≤ 1000) (h1 : Rp v l w) (h2 : Rp u l w) :
    Calls Try.prog 12 #[v, u] w fun e w' => e = .returned (.bool true) ∧ Below w.heap.size w w' := by
  obtain ⟨a1, cap1, rfl, k1⟩ := id h1
  obtain ⟨a2, cap2, rfl, k2⟩ := id h2
  clear k1 k2
  have hlen : (l.length : Int) ≤ 1000 := by omega
  go_enter Try.func12, Try.ntmps12
  go_wp2_with fail
  go_loopg [5] l.length (fun gk t5 wr => ∃ i : Nat, i + gk = l.length ∧ t5 = .int .i64 i ∧ Below w.heap.size w wr)
  case atStart => exact ⟨0, by omega, rfl, Below.refl _ _⟩
  case round =>
    obtain ⟨i, hi, rfl, hB⟩ := hrel
    by_cases hlt : (i : Int) < l.length
    · have i0 : (0 : Int) ≤ i := by omega
      have hil : i < l.length := by omega
      obtain ⟨_, _, e, k1⟩ := h1.below hB
      cases e
      obtain ⟨_, _, e, k2⟩ := h2.below hB
      cases e
      rcases k1 with k1 | ⟨g1, o1, rfl, _, k1⟩
      · omega
      rcases k2 with k2 | ⟨g2, o2, rfl, _, k2⟩
      · omega
      obtain ⟨x0, x1, x2, x3⟩ := k1 i hil
      obtain ⟨y0, y1, y2, y3⟩ := k2 i hil
      generalize l[i] = x at *
      obtain ⟨y, M⟩ := x
      dsimp only at x0 x1 x2 x3 y0 y1 y2 y3
      have hq := run_neqI y M
      clear k1 k2 h1 h2
      go_wp2_with fail
      go_quiet (fail)
      go_wp2_with fail
      go_roundg (gk - 1)
      case rel => exact ⟨i + 1, by omega, by go_num, hB.trans (below_drewN _ _ _)⟩
      case measure => omega
    · clear h1 h2
      go_wp2_with fail
      go_ret
      exact ⟨rfl, hB⟩

/-- The first spans of a row. -/
theorem Rs.take {a : Option Addr} {n cap : Nat} {l : List Sn} {w : World} (h : Rs (.slice a n cap) l w) {k : Nat} (hk : k ≤ l.length) : Rs (.slice a k cap) (l.take k) w := by
  obtain ⟨⟨_, _, e, h1, h2, h3⟩, h4⟩ := h
  cases e
  have hkl : (l.take k).length = k := by rw [List.length_take]; omega
  refine ⟨⟨a, cap, by rw [hkl], by omega, h2, ?_⟩, fun s hs => h4 s (List.mem_of_mem_take hs)⟩
  rcases h3 with h3 | ⟨g, off, rfl, h3⟩
  · exact Or.inl (by omega)
  · refine Or.inr ⟨g, off, rfl, fun j hj => ?_⟩
    rw [hkl] at hj
    have := h3 j (by omega)
    rw [el_get (by omega : j < l.length)] at this
    rw [el_get (by omega : j < (l.take k).length), List.getElem_take]
    exact this
def digS (l : List Sn) (most : Int) : List Sn := l.take (max 0 (min most l.length)).toNat

theorem digS_neg {l : List Sn} {most : Int} (h : most < 0) : digS l most = l.take 0 := by unfold digS; rw [show (max 0 (min most (l.length : Int))).toNat = 0 by omega]
theorem digS_mid {l : List Sn} {m : Nat} (h : m ≤ l.length) : digS l m = l.take m := by unfold digS; rw [show (max 0 (min (m : Int) (l.length : Int))).toNat = m by omega]
theorem digS_all {l : List Sn} {most : Int} (h : (l.length : Int) ≤ most) : digS l most = l.take l.length := by unfold digS; rw [show (max 0 (min most (l.length : Int))).toNat = l.length by omega]
set_option maxRecDepth 100000 in
set_option maxHeartbeats 1000000 in
theorem digest_any (p : Nat) (low : Int) (R : Rng) (l0 : 0 ≤ low) (l1 : low ≤ 1000000) (most : Int) (w : World) (hS : Sf p low R w) :
    Calls Try.prog 16 #[.pointer (some ⟨p, 0, none⟩), .int .i64 most] w fun e w' => (∃ v, e = .returned v ∧ Rs v (digS (haveR low R) most) w') ∧ Below w.heap.size w w' := by
  have hH := shave_any p low R l0 l1 w hS
  have hlen := haveR_len (R := R) (low := low) l0 l1
  generalize haveR low R = H at *
  have c3 : (H.length : Int) ≤ 65 := by omega
  by_cases h1 : most < 0
  · have e1 : min most (H.length : Int) = most := by omega
    have e2 : max 0 most = 0 := by omega
    rw [digS_neg h1]
    go_enter Try.func16, Try.ntmps16
    go_wp2_with fail
    refine hH.mono ?_
    rintro e w1 ⟨⟨v1, rfl, hR1⟩, hb1⟩
    obtain ⟨⟨a, cap, rfl, c1, c2, _⟩, _⟩ := id hR1
    have hT := hR1.take (k := 0) (by omega)
    clear hH
    go_wp2_with fail
    go_ret
    exact ⟨⟨_, rfl, hT⟩, hb1⟩
  by_cases h2 : most ≤ (H.length : Int)
  · obtain ⟨m, rfl⟩ : ∃ m : Nat, most = m := ⟨most.toNat, by omega⟩
    have e1 : min (m : Int) (H.length : Int) = m := by omega
    have e2 : max 0 (m : Int) = m := by omega
    rw [digS_mid (by omega)]
    go_enter Try.func16, Try.ntmps16
    go_wp2_with fail
    refine hH.mono ?_
    rintro e w1 ⟨⟨v1, rfl, hR1⟩, hb1⟩
    obtain ⟨⟨a, cap, rfl, c1, c2, _⟩, _⟩ := id hR1
    have hT := hR1.take (k := m) (by omega)
    clear hH
    go_wp2_with fail
    all_goals
      first
        | (go_ret; exact ⟨⟨_, rfl, hT⟩, hb1⟩)
        | (obtain rfl : m = 0 := by omega
           go_ret; exact ⟨⟨_, rfl, hT⟩, hb1⟩)
  · have e1 : min most (H.length : Int) = H.length := by omega
    have e2 : max 0 (H.length : Int) = H.length := by omega
    rw [digS_all (by omega), List.take_length]
    go_enter Try.func16, Try.ntmps16
    go_wp2_with fail
    refine hH.mono ?_
    rintro e w1 ⟨⟨v1, rfl, hR1⟩, hb1⟩
    obtain ⟨⟨a, cap, rfl, c1, c2, _⟩, _⟩ := id hR1
    have hT := hR1.take (k := H.length) (by omega)
    clear hH
    rw [List.take_length] at hT
    go_wp2_with fail
    all_goals
      first
        | (go_ret; exact ⟨⟨_, rfl, hT⟩, hb1⟩)
        | (have e0 : H.length = 0 := by omega
           rw [e0] at hT
           go_ret; exact ⟨⟨_, rfl, hT⟩, hb1⟩)
set_option maxRecDepth 100000 in
set_option maxHeartbeats 1000000 in
theorem fdigest_any (B q : Nat) (low : Int) (R : Rng) (L : List Pl) (hC : Cp low R L) (hL : L.length ≤ 1000) (l1 : low ≤ 1000000) (most : Int) (w : World) (hF : Rf B q low L w) :
    Calls Try.prog 17 #[.pointer (some ⟨q, 0, none⟩), .int .i64 most] w fun e w' => (∃ v, e = .returned v ∧ Rs v (digS (haveR low R) most) w') ∧ Below w.heap.size w w' := by
  have hH := fhave_all B q low R L hC hL l1 w hF
  have hlen := haveR_len (R := R) (low := low) hC.l0 l1
  generalize haveR low R = H at *
  have c3 : (H.length : Int) ≤ 65 := by omega
  by_cases h1 : most < 0
  · have e2 : max most 0 = 0 := by omega
    have e1 : min (0 : Int) (H.length : Int) = 0 := by omega
    rw [digS_neg h1]
    go_enter Try.func17, Try.ntmps17
    go_wp2_with fail
    refine hH.mono ?_
    rintro e w1 ⟨⟨v1, rfl, hR1⟩, hb1⟩
    obtain ⟨⟨a, cap, rfl, c1, c2, _⟩, _⟩ := id hR1
    have hT := hR1.take (k := 0) (by omega)
    clear hH
    go_wp2_with fail
    go_ret
    exact ⟨⟨_, rfl, hT⟩, hb1⟩
  by_cases h2 : most ≤ (H.length : Int)
  · obtain ⟨m, rfl⟩ : ∃ m : Nat, most = m := ⟨most.toNat, by omega⟩
    have e2 : max (m : Int) 0 = m := by omega
    have e1 : min (m : Int) (H.length : Int) = m := by omega
    rw [digS_mid (by omega)]
    go_enter Try.func17, Try.ntmps17
    go_wp2_with fail
    refine hH.mono ?_
    rintro e w1 ⟨⟨v1, rfl, hR1⟩, hb1⟩
    obtain ⟨⟨a, cap, rfl, c1, c2, _⟩, _⟩ := id hR1
    have hT := hR1.take (k := m) (by omega)
    clear hH
    go_wp2_with fail
    all_goals
      first
        | (go_ret; exact ⟨⟨_, rfl, hT⟩, hb1⟩)
        | (obtain rfl : m = 0 := by omega
           go_ret; exact ⟨⟨_, rfl, hT⟩, hb1⟩)
  · have e2 : max most 0 = most := by omega
    have e1 : min most (H.length : Int) = H.length := by omega
    rw [digS_all (by omega), List.take_length]
    go_enter Try.func17, Try.ntmps17
    go_wp2_with fail
    refine hH.mono ?_
    rintro e w1 ⟨⟨v1, rfl, hR1⟩, hb1⟩
    obtain ⟨⟨a, cap, rfl, c1, c2, _⟩, _⟩ := id hR1
    have hT := hR1.take (k := H.length) (by omega)
    clear hH
    rw [List.take_length] at hT
    go_wp2_with fail
    all_goals
      first
        | (go_ret; exact ⟨⟨_, rfl, hT⟩, hb1⟩)
        | (have e0 : H.length = 0 := by omega
           rw [e0] at hT
           go_ret; exact ⟨⟨_, rfl, hT⟩, hb1⟩)
end Go.Proofs.Ytlbeincgknmijaa
