/-
  The reference's Over. The reference's Raise: what it writes; what is refused. The reference's Raise.
-/
import Derived.Test.YtpoofjnfaijjjaaGreatDoorMDErb
import Derived.Test.YtpoofjnfaijjjaaGreatDoorMDTkc
namespace Go.Proofs.YtpoofjnfaijjjaaGreatDoor.Do
open Go.RowKit Go.Maps Go.Proofs.YtpoofjnfaijjjaaGreatDoor.Ro
theorem _root_.Go.Proofs.YtpoofjnfaijjjaaGreatDoor.Ro.Own.butS {B C q : Nat} {v : Value} {l : List Upd} {w w' : World} (h : Own C v l w) (k : But B [q] w w') (hB : w.heap.size ≤ B) (hq : q < C) : Own C v l w' := h.keep fun g hg hlt => k.block g (by omega) (by have := (h.lt g hg).1; simp; omega)
theorem OwD.butS {T : TypeId} {B C q : Nat} {v : Value} {l : List Dbt} {w w' : World} (h : OwD T C v l w) (k : But B [q] w w') (hB : w.heap.size ≤ B) (hq : q < C) : OwD T C v l w' := h.keep fun g hg hlt => k.block g (by omega) (by have := (h.lt g hg).1; simp; omega)
theorem _root_.Go.Proofs.YtpoofjnfaijjjaaGreatDoor.Ro.Own.blk {B : Nat} {v : Value} {l : List Upd} {w : World} (h : Own B v l w) {g : Nat} (hg : v.ownBlock = some g) : B ≤ g ∧ ∃ cur, w.heap[g]? = some (.cells cur 39 (0, 0)) := by
  rcases h.2 with ⟨rfl, _⟩ | ⟨g', cap, cur, rfl, hb, hh, _⟩
  · cases hg
  · cases hg
    exact ⟨hb, cur, hh⟩
theorem own_ne {B : Nat} {v : Value} {l : List Upd} {w : World} (h : Own B v l w) {g : Nat} {cur : Array Value} {z : Nat × Nat} (hg : w.heap[g]? = some (.cells cur 172 z)) : some g ≠ v.ownBlock := by
  intro e
  obtain ⟨_, cur', hh⟩ := h.blk e.symm
  rw [hg] at hh
  cases hh
theorem But.drew {B : Nat} {S : List Nat} {a w : World} (h : But B S a w) : But B S a w.drew := ⟨h.os, h.tape, h.output, h.size, fun i hi hp => h.block i hi hp⟩
theorem over_take (L : List Dbt) (now : Int) {k : Nat} (h : L.length = k) : overD (L.take k) now = overD L now := by rw [← h, List.take_length]
set_option maxHeartbeats 4000000 in
set_option maxRecDepth 100000 in
theorem rover_any (Gd : Nat → Prop) (q : Nat) (K L : List Dbt) (hP : K.Perm L) (hL : Di L) (now : Int) (w : World) (hR : Rg Gd q K w) (hB : ∀ g, w.heap.size ≤ g → Gd g) :
    Calls Tryz.prog 47 #[.pointer (some ⟨q, 0, none⟩), .int .u64 now] w fun e w' => (∃ v, e = .returned v ∧ Own w.heap.size v ((overD L now).map deadOf) w') ∧ (∃ K', K'.Perm (stayD L now) ∧ Rg Gd q K' w') ∧ But w.heap.size [q] w w' := by
  have ba := below_alloc w (.cells #[] 39)
  have hE := Own.empty (B := w.heap.size) (heap_alloc_new w (.cells #[] 39)) (Nat.le_refl _)
  have hR0 := hR.below ba
  have hqB := hR.lt_
  have hqz := hR.lt
  obtain ⟨w0, HW0⟩ : ∃ w0, Hid (w0 = w.alloc (.cells #[] 39)) := ⟨_, rfl⟩
  rw [← HW0.out] at ba hE hR0
  have hit := rall_any Gd q K L hP hL w0 hR0
  have hstep : ∀ k (hk : k < L.length), Hid ((overD (L.take (k + 1)) now).map deadOf = (overD (L.take k) now).map deadOf ++ (if L[k].u ≤ now then [deadOf L[k]] else [])) := fun k hk => over_step hk
  have hgone : ∀ k (hk : k < L.length), Hid ((L[k].u ≤ now → lessD (goneD L now k) L[k].n = goneD L now (k + 1)) ∧ (now < L[k].u → goneD L now (k + 1) = goneD L now k)) := fun k hk => ⟨fun h => gone_less hL hk (by simpa using h), fun h => gone_stay hk (by simpa using h)⟩
  have hgl : ∀ k, (goneD L now k).length ≤ 64 := fun k => Nat.le_trans (gone_sub L now k).length_le hL.length
  have hol : ∀ k, ((overD (L.take k) now).map deadOf).length ≤ 64 := fun k => by
    rw [List.length_map]
    have := over_length (L.take k) now
    have := hL.length
    rw [List.length_take] at *
    omega
  have HG0 : Hid (goneD L now 0 = L) := gone_zero L now
  obtain ⟨N, HN⟩ : ∃ N, Hid (L.length = N) := ⟨_, rfl⟩
  have HGN : Hid (goneD L now N = stayD L now) := by rw [← HN.out]; exact gone_all L now
  have HON : Hid (overD (L.take N) now = overD L now) := over_take L now HN.out
  have hNl : N ≤ 64 := by rw [← HN.out]; exact hL.length
  obtain ⟨U, HU⟩ : ∃ U, Hid ((overD L now).map deadOf = U) := ⟨_, rfl⟩
  obtain ⟨S, HS⟩ : ∃ S, Hid (stayD L now = S) := ⟨_, rfl⟩
  rw [HU.out, HS.out]
  have hzb := ba.size
  clear hR
  go_enter Tryz.func47, Tryz.ntmps47
  go_upto_region 2 with fail
  rw [← HW0.out]
  clear HW0
  go_wp2_with fail
  refine hit.mono ?_
  rintro e w1 ⟨⟨v, rfl, hOv⟩, hb1⟩
  have hR1 := hR0.below hb1
  have hO1 := hE.below hb1
  have hB1 : But w.heap.size [q] w w1 := But.of (ba.trans (hb1.mono hzb))
  have hz1 := hb1.size
  clear hit hR0 hE ba hb1
  obtain ⟨av, acap, rfl, hac, _⟩ := hOv.rb
  rw [HN.out] at hac
  rw [HN.out] at hOv ⊢
  have hac2 : (N : Int) ≤ acap := by omega
  go_wp2_with fail
  go_loopg [5, 7] N (fun gk t5 t7 wr => ∃ k : Nat, k + gk = N ∧ t7 = .int .i64 k ∧ Own w.heap.size t5 ((overD (L.take k) now).map deadOf) wr ∧ (∃ K', K'.Perm (goneD L now k) ∧ Rg Gd q K' wr) ∧ OwD 172 w0.heap.size (.slice av N acap) L wr ∧ But w.heap.size [q] w wr)
  case atStart => exact ⟨0, by omega, rfl, hO1, ⟨K, by rw [HG0.out]; exact hP, hR1⟩, hOv, hB1⟩
  case round =>
    clear hO1 hR1 hB1 hOv hP HG0
    obtain ⟨k, hk, rfl, hO, ⟨K', hP', hRk⟩, hOv, hBk⟩ := hrel
    have k0 : (0 : Int) ≤ k := by omega
    have hzk := hBk.size
    by_cases hlt : (k : Int) < N
    · have hkl : k < L.length := by rw [HN.out]; omega
      obtain ⟨g, off, cap', e, _, _, hg, h7⟩ := hOv.rb.at hkl
      have e' := (Value.slice.inj e)
      obtain ⟨rfl, -, rfl⟩ := e'
      clear e
      have HT := hstep k hkl
      have hgn := hgone k hkl
      have hul := hol k
      have hgk := hgl k
      clear hstep hgone hol hgl HGN HON
      have h0 := h7.c0
      have h1 := h7.c1
      have h6 := h7.c6
      generalize hXX : L[k] = x at *
      have HX : Hid _ := hXX
      clear hXX h7
      generalize (overD (L.take k) now).map deadOf = V at *
      obtain ⟨av5, acap5, rfl, _⟩ := hO.ru
      by_cases hu : x.u ≤ now
      · have hless := hgn.out.1 hu
        rw [if_pos hu] at HT
        clear hgn
        have bc := below_alloc wr (.cells #[.int .i64 x.n, .int .u64 x.i, .int .i64 3] 39)
        have hO4 := hO.below bc
        have hY := Ru.one (u := deadOf x) (Bx.new 39 x.n x.i 3 wr)
        have hR4 := hRk.below bc
        have hB4 : But w.heap.size [q] w (wr.alloc (.cells #[.int .i64 x.n, .int .u64 x.i, .int .i64 3] 39)) := hBk.trans (But.of (bc.mono hzk))
        have hOv4 := hOv.below bc
        obtain ⟨w4, HW4⟩ : ∃ w4, Hid (w4 = (wr.alloc (.cells #[.int .i64 x.n, .int .u64 x.i, .int .i64 3] 39)).drew) := ⟨_, rfl⟩
        have hO4 : Own w.heap.size (.slice av5 V.length acap5) V w4 := by rw [HW4.out]; exact hO4.keep fun _ _ _ => rfl
        have hY : Ru (.slice (some ⟨wr.heap.size, 0, none⟩) 1 1) [deadOf x] w4 := by rw [HW4.out]; exact hY.keep fun _ _ _ => rfl
        have hR4 : Rg Gd q K' w4 := by rw [HW4.out]; exact hR4.keep rfl fun _ _ _ _ => rfl
        have hOv4 : OwD 172 w0.heap.size (.slice (some ⟨g, off, none⟩) N acap) L w4 := by rw [HW4.out]; exact hOv4.keep fun _ _ _ => rfl
        have hB4 : But w.heap.size [q] w w4 := by rw [HW4.out]; exact hB4.drew
        have hz4 : w.heap.size ≤ w4.heap.size := hB4.size
        clear bc hRk hBk hO hOv
        go_upto_region 7 with fail
        go_region_law (
          rw [← HW4.out]
          refine step_app _ (by rfl) (.tmp 24) (.tmp 38) (by rfl) w.heap.size _ V (by rfl) hO4 hz4 wr.heap.size 0 1 [deadOf x] 1 rfl (by rfl) hY (by simp; omega) ?_
          intro v5 w5 hO5 h3 h4
          obtain ⟨a5, c5, rfl, _⟩ := hO5.ru)
        all_goals
          have hOv5 : OwD 172 w0.heap.size (.slice (some ⟨g, off, none⟩) N acap) L w5 := hOv4.keep fun r hr hlt => h3.block r hlt (by obtain ⟨_, cur, hc⟩ := hOv4.blk hr; exact own_ne hO4 hc)
          have hR5 : Rg Gd q K' w5 := hR4.keep (h3.block q hR4.lt (fun e => by have := (hO4.lt q e.symm).1; omega)) (fun r cur _ hc => h3.block r (Array.getElem?_eq_some_iff.1 hc).1 (own_ne hO4 hc))
          have hB5 : But w.heap.size [q] w w5 := hB4.trans (But.of ⟨h3.os, h3.tape, h3.output, h3.size, fun r hr => h3.block r (by omega) (fun e => by have := (hO4.lt r e.symm).1; omega)⟩)
          have hz5 := h3.size
          obtain ⟨g', off', cap', e, _, _, hg', h7⟩ := hOv5.rb.at hkl
          have e' := (Value.slice.inj e)
          have e1 := e'.1
          clear e'
          cases e1
          clear e
          rw [HX.out] at h7
          have j0 := h7.c0
          clear h7 h3 h4 hY hO4 hOv4 hR4 hB4 h0 h1 h6
          have hdr := rdrop_any Gd q K' (by rw [hP'.length_eq]; omega) x.n w5 hR5
          go_wp2_with fail
          refine hdr.mono ?_
          rintro e w6 ⟨rfl, hR6, hb6⟩
          have hO6 := hO5.butS hb6 (Nat.le_refl _) (by omega)
          have hOv6 := hOv5.butS hb6 (Nat.le_refl _) (by omega)
          have hB6 := hB5.trans (hb6.mono (by omega))
          have hP6 : (lessD K' x.n).Perm (goneD L now (k + 1)) := by rw [← hless]; exact lessD_perm hP' x.n
          clear hdr
          go_wp2_with fail
          go_roundg (gk - 1)
          case rel => exact ⟨k + 1, by omega, by go_num, by rw [HT.out]; simpa using hO6, ⟨_, hP6, hR6.mono (fun g hg => hB g (by omega)) hqB⟩, hOv6, hB6⟩
          case measure => omega
      · have hst := hgn.out.2 (by omega)
        rw [if_neg hu, List.append_nil] at HT
        clear hgn
        go_wp2_with fail
        go_roundg (gk - 1)
        case rel => exact ⟨k + 1, by omega, by go_num, by rw [HT.out]; exact hO, ⟨K', by rw [hst]; exact hP', hRk⟩, hOv, hBk⟩
        case measure => omega
    · obtain rfl : k = N := by omega
      rw [HON.out, HU.out] at hO
      rw [HGN.out, HS.out] at hP'
      obtain ⟨av5, acap5, rfl, _⟩ := hO.ru
      go_wp2_with fail
      go_ret
      exact ⟨⟨_, rfl, hO⟩, ⟨K', hP', hRk⟩, hBk⟩
structure Mr (Gd : Nat → Prop) (q : Nat) (w w' : World) : Prop where
  os : w'.os = w.os
  tape : w'.tape = w.tape
  output : w'.output = w.output
  size : w.heap.size ≤ w'.heap.size
  block : ∀ k, k < w.heap.size → k ≠ q → ¬ Gd k → w'.heap[k]? = w.heap[k]?
section
variable {Gd : Nat → Prop} {q : Nat} {w w' w'' : World}
theorem Mr.trans (h : Mr Gd q w w') (k : Mr Gd q w' w'') : Mr Gd q w w'' :=
  ⟨k.os.trans h.os, k.tape.trans h.tape, k.output.trans h.output, Nat.le_trans h.size k.size, fun i hi hq hc => (k.block i (Nat.lt_of_lt_of_le hi h.size) hq hc).trans (h.block i hi hq hc)⟩
theorem Mr.of (h : Below w.heap.size w w') : Mr Gd q w w' := ⟨h.os, h.tape, h.output, h.size, fun k hk _ _ => h.block k hk⟩
theorem Mr.but (h : But w.heap.size [q] w w') : Mr Gd q w w' := ⟨h.os, h.tape, h.output, h.size, fun k hk hq _ => h.block k hk (by simpa using hq)⟩
end
def set7 (w : World) (g o : Nat) (x : Dbt) : World :=
  ((((((w.setCell ⟨g, o, none⟩ (.int .i64 x.n)).setCell ⟨g, o + 1, none⟩ (.int .u64 x.i)).setCell ⟨g, o + 2, none⟩ (.int .i64 x.s)).setCell ⟨g, o + 3, none⟩ (.int .u64 (x.f : Int))).setCell ⟨g, o + 4, none⟩ (.int .u64 x.a)).setCell ⟨g, o + 5, none⟩ (.int .u64 x.t)).setCell ⟨g, o + 6, none⟩ (.int .u64 x.u)
theorem set7_other (w : World) {g : Nat} (o : Nat) (x : Dbt) {k : Nat} (hk : k ≠ g) : (set7 w g o x).heap[k]? = w.heap[k]? := by
  unfold set7
  rw [Below.heap_setCell _ _ _ _ hk, Below.heap_setCell _ _ _ _ hk, Below.heap_setCell _ _ _ _ hk, Below.heap_setCell _ _ _ _ hk, Below.heap_setCell _ _ _ _ hk, Below.heap_setCell _ _ _ _ hk, Below.heap_setCell _ _ _ _ hk]
theorem set7_size (w : World) (g o : Nat) (x : Dbt) : (set7 w g o x).heap.size = w.heap.size := by simp [set7, World.setCell]
theorem set7_os (w : World) (g o : Nat) (x : Dbt) : (set7 w g o x).os = w.os := by simp only [set7, World.setCell]
theorem set7_tape (w : World) (g o : Nat) (x : Dbt) : (set7 w g o x).tape = w.tape := by simp only [set7, World.setCell]
theorem set7_output (w : World) (g o : Nat) (x : Dbt) : (set7 w g o x).output = w.output := by simp only [set7, World.setCell]
theorem flatD_set (l : List Dbt) : ∀ (j : Nat) (x : Dbt), j < l.length → (((((((flatD l).set (j * 7) (.int .i64 x.n)).set (j * 7 + 1) (.int .u64 x.i)).set (j * 7 + 2) (.int .i64 x.s)).set (j * 7 + 3) (.int .u64 (x.f : Int))).set (j * 7 + 4) (.int .u64 x.a)).set (j * 7 + 5) (.int .u64 x.t)).set (j * 7 + 6) (.int .u64 x.u) = flatD (l.set j x) := by
  induction l with
  | nil => intro j u h; cases h
  | cons y r ih =>
    intro j u h
    cases j with
    | zero => simp [flatD, Dbt.cs]
    | succ j =>
      have := ih j u (by simpa using h)
      rw [show (j + 1) * 7 = j * 7 + 7 from by omega]
      simp only [flatD, Dbt.cs, List.cons_append, List.nil_append, List.set_cons_succ]
      rw [this]
theorem OwD.put {T : TypeId} {B g n cap : Nat} {l : List Dbt} {w : World} (h : OwD T B (.slice (some ⟨g, 0, none⟩) n cap) l w) {j : Nat} (hj : j < l.length) (x : Dbt) :
    OwD T B (.slice (some ⟨g, 0, none⟩) n cap) (l.set j x) (set7 w g (j * 7) x) := by
  unfold OwD
  refine ⟨by rw [flatD_length], Or.inr ?_⟩
  rcases h.2 with ⟨e, _⟩ | ⟨g', cap', cur, e, hB, hg, h1, h2, h3, h4⟩
  · cases e
  · cases e
    refine ⟨g, cap, ((((((cur.setIfInBounds (j * 7) (.int .i64 x.n)).setIfInBounds (j * 7 + 1) (.int .u64 x.i)).setIfInBounds (j * 7 + 2) (.int .i64 x.s)).setIfInBounds (j * 7 + 3) (.int .u64 (x.f : Int))).setIfInBounds (j * 7 + 4) (.int .u64 x.a)).setIfInBounds (j * 7 + 5) (.int .u64 x.t)).setIfInBounds (j * 7 + 6) (.int .u64 x.u), by rw [List.length_set], hB, by simp [set7, World.setCell, Array.getElem?_modify, hg], by rw [List.length_set]; exact h1, h2, by simpa using h3, ?_⟩
    rw [List.length_set, ← flatD_set l j x hj, ← h4]
    simp only [Array.toList_setIfInBounds, List.take_set]
theorem OwD.free {T : TypeId} {B g n cap : Nat} {l : List Dbt} {w : World} (h : OwD T B (.slice (some ⟨g, 0, none⟩) n cap) l w) (j : Nat) : w.frozen? ⟨g, j, none⟩ = false := by
  rcases h.2 with ⟨e, _⟩ | ⟨g', cap', cur, e, _, hg, _⟩
  · cases e
  · have : g = g' := by have := (Value.slice.inj e).1; simp at this; exact this
    subst this
    simp [World.frozen?, hg]
theorem OwD.ex {T : TypeId} {B : Nat} {a : Option Addr} {n cap : Nat} {l : List Dbt} {w : World} (h : OwD T B (.slice a n cap) l w) (hl : 0 < l.length) : ∃ g, a = some ⟨g, 0, none⟩ := by
  rcases h.2 with ⟨_, e⟩ | ⟨g', cap', cur, e, _⟩
  · omega
  · cases e; exact ⟨_, rfl⟩
theorem OwD.at0 {T : TypeId} {B g n cap : Nat} {l : List Dbt} {w : World} (h : OwD T B (.slice (some ⟨g, 0, none⟩) n cap) l w) {j : Nat} (hj : j < l.length) : C7 g (j * 7) l[j] w := by
  obtain ⟨g', off, cap', e, _, _, _, h7⟩ := h.rb.at hj
  rcases h.2 with ⟨e', _⟩ | ⟨g2, c2, cur, e', _⟩
  · cases e'
  · have := (Value.slice.inj e).1
    cases this
    rw [Nat.zero_add] at h7
    exact h7
theorem Rg.put {Gd : Nat → Prop} {B q g cap : Nat} {K : List Dbt} {w : World} (hq : ¬ Gd q) (hg : Gd g) (hh : w.heap[q]? = some (.cells #[.slice (some ⟨g, 0, none⟩) K.length cap] 103 (0, 0))) (hO : OwD 172 B (.slice (some ⟨g, 0, none⟩) K.length cap) K w) {j : Nat} (hj : j < K.length) (x : Dbt) :
    Rg Gd q (K.set j x) (set7 w g (j * 7) x) := by
  have hne : q ≠ g := fun e => hq (e ▸ hg)
  have h2 := (hO.mono (Nat.zero_le B)).put hj x
  exact ⟨hq, .slice (some ⟨g, 0, none⟩) K.length cap, (set7_other w (j * 7) x hne).trans hh, h2, fun g' e => by cases e; exact hg⟩
theorem Mr.put {Gd : Nat → Prop} {q g : Nat} {w w1 : World} (hb : Below w.heap.size w w1) (hg : Gd g) (o : Nat) (x : Dbt) : Mr Gd q w (set7 w1 g o x) := by
  refine ⟨(set7_os w1 g o x).trans hb.os, (set7_tape w1 g o x).trans hb.tape, (set7_output w1 g o x).trans hb.output, by rw [set7_size]; exact hb.size, fun k hk _ hc => ?_⟩
  refine (set7_other w1 o x ?_).trans (hb.block k hk)
  rintro rfl
  exact hc hg
theorem step_appD {S T : TypeId} (hS : Tryz.prog.underlying S = some (.slice T)) (hI : (Tryz.prog.info? T).map (fun i => (i.zero, i.size, i.bytes)) = some (some zV, 7, 56)) {ops : Array Oper} {o : Oper} {a : Act} {K : Act → World → Prop} {Q : Exit → Act → World → Prop} {E : Prop} (w : World) (hgd : o.guard = none) (s x : Operand)
    (ho : o.op = .call { callee := .builtin .append, args := #[s, x], argTypes := #[S, S] }) (B : Nat) (v : Value) (l : List Dbt) (hs : a.eval s = v) (hown : OwD T B v l w) (hB : B ≤ w.heap.size)
    (g off c : Nat) (r : List Dbt) (m : Nat) (hm : m = r.length) (hx : a.eval x = .slice (some ⟨g, off, none⟩) m c) (hu : Rb (.slice (some ⟨g, off, none⟩) m c) r w) (hl : l.length + r.length ≤ 1000000)
    (h : ∀ v' w', OwD T B v' (l ++ r) w' → w.grownBy w' v.ownBlock → (v'.ownBlock = v.ownBlock ∨ v'.ownBlock = some w.heap.size) → K (a.put o.dst v') w') :
    if Region.wanted o (yielded ops a.tmps) = true then Oper.wp Tryz.prog o a w K Q else E := by
  have hw : Region.wanted o (yielded ops a.tmps) = true := by simp [Region.wanted, hgd]
  rw [if_pos hw]
  exact wp_appD hS hI w s x ho B v l hs hown hB g off c r m hm hx hu hl h
theorem get_perm {K L : List Dbt} (h : K.Perm L) (hL : Di L) {k : Nat} (hk : k < K.length) {n : Int} (hn : K[k].n = n) : hasD L n = true ∧ getD L n = K[k] := by
  have hm : K[k] ∈ L := h.mem_iff.1 (List.getElem_mem hk)
  subst hn
  exact ⟨hasD_of hm, getD_of hL hm⟩
theorem none_perm {K L : List Dbt} (h : K.Perm L) {n i : Int} (hno : ∀ j (hj : j < K.length), K[j].n = n → K[j].i < i) : hasD L n = false ∨ (getD L n).i < i := by
  cases hh : hasD L n
  · exact Or.inl rfl
  · obtain ⟨h1, h2⟩ := hasD_true hh
    obtain ⟨j, hj, e⟩ := List.mem_iff_getElem.1 (h.mem_iff.2 h1)
    exact Or.inr (by rw [← e]; exact hno j hj (by rw [e]; exact h2))
set_option maxRecDepth 100000 in
set_option maxHeartbeats 2000000 in
theorem rraise_arg (q : Nat) (n i s from_ now nodes : Int) (base : Nat) (ha : argS n s from_ = false) (w : World) :
    Calls Tryz.prog 94 #[.pointer (some ⟨q, 0, none⟩), .agg #[.int .i64 n, .int .u64 i, .int .i64 s], .int .i64 from_, .int .u64 now, .int .i64 nodes, .float .f64 base] w fun e w' => e = .returned (.tuple #[.bool false, .int .i64 1]) ∧ Below w.heap.size w w' := by
  have bW := below_alloc w (.cells #[.int .i64 n, .int .u64 i, .int .i64 s] 39)
  have hS := Bx.new 39 n i s w
  obtain ⟨w3, HW3⟩ : ∃ w3, Hid (w3 = w.alloc (.cells #[.int .i64 n, .int .u64 i, .int .i64 s] 39)) := ⟨_, rfl⟩
  rw [← HW3.out] at bW hS
  have hz := bW.size
  obtain ⟨G, HG⟩ : ∃ G, Hid (w.heap.size = G) := ⟨_, rfl⟩
  rw [HG.out] at bW hS hz ⊢
  have hmay := fun W => fmay_any n i s W
  have x0 := hS.c0
  have x1 := hS.c1
  have x2 := hS.c2
  cases hm : mayS n s
  · rw [hm] at hmay
    go_enter Tryz.func94, Tryz.ntmps94
    go_upto_region 1 with fail
    rw [← HW3.out, HG.out]
    go_wp2_with fail
    refine (hmay _).mono ?_
    rintro e wM ⟨rfl, hb⟩
    go_wp2_with fail
    go_ret2
    exact ⟨rfl, bW.trans (hb.mono hz)⟩
  · rw [hm] at hmay
    unfold argS at ha
    rw [hm, Bool.true_and] at ha
    have hs : s = 1 ∨ (s != 1) = true := by
      by_cases h : s = 1
      · exact Or.inl h
      · exact Or.inr (by simpa using h)
    rcases hs with rfl | hs
    · have hf : from_ < 0 ∨ (0 ≤ from_ ∧ 64 ≤ from_) := by simp at ha; omega
      clear ha
      rcases hf with hf | hf
      all_goals
        go_enter Tryz.func94, Tryz.ntmps94
        go_upto_region 1 with fail
        rw [← HW3.out, HG.out]
        go_wp2_with fail
        refine (hmay _).mono ?_
        rintro e wM ⟨rfl, hb⟩
        have y2 := (hS.below hb).c2
        go_wp2_with fail
        go_ret2
        exact ⟨rfl, bW.trans (hb.mono hz)⟩
    · clear ha
      go_enter Tryz.func94, Tryz.ntmps94
      go_upto_region 1 with fail
      rw [← HW3.out, HG.out]
      go_wp2_with fail
      refine (hmay _).mono ?_
      rintro e wM ⟨rfl, hb⟩
      have y2 := (hS.below hb).c2
      go_wp2_with fail
      go_ret2
      exact ⟨rfl, bW.trans (hb.mono hz)⟩
end Go.Proofs.YtpoofjnfaijjjaaGreatDoor.Do
namespace Go.Proofs.YtpoofjnfaijjjaaGreatDoor.Do
open Go.RowKit Go.Maps Go.Shelf Go.Proofs.YtpoofjnfaijjjaaGreatDoor.Ro
theorem Rg.drew {Gd : Nat → Prop} {q : Nat} {K : List Dbt} {w : World} (h : Rg Gd q K w) : Rg Gd q K w.drew := h.keep rfl (fun _ _ _ _ => rfl)
theorem Mr.drew {Gd : Nat → Prop} {q : Nat} {w w' : World} (h : Mr Gd q w w') : Mr Gd q w w'.drew := ⟨h.os, h.tape, h.output, h.size, h.block⟩
theorem wait_word (base : Nat) (HB : Hid (base < 2 ^ 64)) (nodes t : Int) (hn : nodes ≤ 9223372036854775807) : Hid (Re.waitS (Re.cleanS base 0 Re.K1000) (Re.bitsS nodes) t 3 < 2 ^ 64) := by
  have hK : Re.K1000 < Re.infR := by decide
  have hb : Re.cleanS base 0 Re.K1000 ≤ Re.K1000 := Re.clean_pos HB.out (Nat.le_of_lt hK)
  have hk := (Re.bits_range nodes hn).2
  have h1 := (Re.wait_held (t := t) (m := 3) hb hk).2
  have h2 := (Re.great_lt hb hk).2
  have h3 : Re.infR < 2 ^ 64 := by decide
  exact Nat.lt_trans (Nat.lt_of_le_of_lt h1 h2) h3
theorem ticks_range {W : Nat} (hW : Hid (W < 2 ^ 64)) : Re.ticksS W ≤ 1099511627776 := by
  unfold Re.ticksS
  split
  · omega
  · split
    · omega
    · split
      · omega
      · rename_i h
        refine Re.cei_K40 ?_
        rcases Nat.lt_or_ge W Re.S with hs | hs
        · have hr : Re.key W = W := by
            unfold Re.key Re.ng Re.rung
            rw [Nat.div_eq_of_lt hs, Nat.mod_eq_of_lt hs]
            simp
          omega
        · have := Re.pos_word hW.out (by omega)
          omega
theorem tk_range (base : Nat) (HB : Hid (base < 2 ^ 64)) (nodes t : Int) (hn : nodes ≤ 9223372036854775807) : 0 ≤ tkS base nodes t ∧ tkS base nodes t ≤ 18446744073709551615 := by
  have := ticks_range (wait_word base HB nodes t hn)
  refine ⟨tkS_nonneg _ _ _, ?_⟩
  unfold tkS
  omega
theorem until_calls (base : Nat) (HB : Hid (base < 2 ^ 64)) (nodes a t : Int) (hn : -9223372036854775808 ≤ nodes ∧ nodes ≤ 9223372036854775807) (a0 : 0 ≤ a) (a1 : a ≤ 18446744073709551615) :
    ∃ (wt : Nat) (kk : Int), (∀ W, Calls Tryz.prog 141 #[.float .f64 base, .int .i64 nodes, .int .i64 t, .int .i64 3] W fun e w' => e = .returned (.float .f64 wt) ∧ w' = W) ∧
      (∀ W, Calls Tryz.prog 140 #[.float .f64 wt] W fun e w' => e = .returned (.int .u64 kk) ∧ w' = W) ∧
      (∀ W, Calls Tryz.prog 139 #[.int .u64 a, .int .u64 kk] W fun e w' => e = .returned (.int .u64 (untilS base nodes a t)) ∧ w' = W) := by
  obtain ⟨k0, k1⟩ := tk_range base HB nodes t hn.2
  exact ⟨_, tkS base nodes t, fun W => Re.refWait_any base nodes t 3 HB hn (by omega) W, fun W => Re.refTicks_any _ W (wait_word base HB nodes t hn.2), fun W => later_any a (tkS base nodes t) a0 a1 k0 k1 W⟩
set_option maxRecDepth 100000 in
set_option maxHeartbeats 4000000 in
theorem rraise_go (Gd : Nat → Prop) (q : Nat) (K L : List Dbt) (hP : K.Perm L) (hL : Di L) (n i s from_ now nodes : Int) (base : Nat) (ha : argS n s from_ = true) (hnow : 0 ≤ now ∧ now ≤ 18446744073709551615) (HB : Hid (base < 2 ^ 64)) (hnd : -9223372036854775808 ≤ nodes ∧ nodes ≤ 9223372036854775807) (w : World) (hR : Rg Gd q K w) (hB : ∀ g, w.heap.size ≤ g → Gd g) :
    Calls Tryz.prog 94 #[.pointer (some ⟨q, 0, none⟩), .agg #[.int .i64 n, .int .u64 i, .int .i64 s], .int .i64 from_, .int .u64 now, .int .i64 nodes, .float .f64 base] w fun e w' => e = .returned (.tuple #[.bool (raiseS L n i s from_ now nodes base).1, .int .i64 (raiseS L n i s from_ now nodes base).2.1]) ∧ ∃ K', K'.Perm (raiseS L n i s from_ now nodes base).2.2 ∧ Rg Gd q K' w' ∧ Mr Gd q w w' := by
  obtain ⟨n0, n1, rfl, f0, f1⟩ := argS_true ha
  have bW := below_alloc w (.cells #[.int .i64 n, .int .u64 i, .int .i64 1] 39)
  have hS := Bx.new 39 n i 1 w
  obtain ⟨w3, HW3⟩ : ∃ w3, Hid (w3 = w.alloc (.cells #[.int .i64 n, .int .u64 i, .int .i64 1] 39)) := ⟨_, rfl⟩
  rw [← HW3.out] at bW hS
  have hz := bW.size
  have hqB := hR.lt_
  have hqz := hR.lt
  obtain ⟨v, hh, hOK, hGO⟩ := hR.is
  obtain ⟨a, cap, rfl, hcap, _⟩ := hOK.rb
  have hNl : K.length ≤ 64 := by rw [hP.length_eq]; exact hL.length
  have hmay := fmay_any n i 1 w3
  have hm : mayS n 1 = true := by simp [mayS]; omega
  rw [hm] at hmay
  have x0 := hS.c0
  have x1 := hS.c1
  have x2 := hS.c2
  have HRold : ∀ k (hk : k < K.length), K[k].n = n → Hid (i < K[k].i → raiseS L n i 1 from_ now nodes base = (false, 70, L)) := fun k hk e h => by
    obtain ⟨h1, h2⟩ := get_perm hP hL hk e
    exact raise_is_old ha h1 (by rw [h2]; exact h)
  have HRtold : ∀ k (hk : k < K.length), K[k].n = n → Hid (K[k].i = i → Bnd.hasS K[k].f from_ = true → raiseS L n i 1 from_ now nodes base = (false, 0, L)) := fun k hk e h hf => by
    obtain ⟨h1, h2⟩ := get_perm hP hL hk e
    exact raise_is_told ha h1 (by rw [h2]; exact h) (by rw [h2]; exact hf)
  have HRmore : ∀ k (hk : k < K.length), K[k].n = n → Hid (K[k].i = i → Bnd.hasS K[k].f from_ = false → (raiseS L n i 1 from_ now nodes base).1 = true ∧ (raiseS L n i 1 from_ now nodes base).2.1 = 0 ∧ (K.set k (moreD K[k] from_ nodes base)).Perm (raiseS L n i 1 from_ now nodes base).2.2) := fun k hk e h hf => by
    obtain ⟨h1, h2⟩ := get_perm hP hL hk e
    rw [raise_is_more ha h1 (by rw [h2]; exact h) (by rw [h2]; exact hf), h2]
    exact ⟨rfl, rfl, set_perm hP hL hk rfl⟩
  have HRnew : Hid ((∀ j (hj : j < K.length), K[j].n = n → K[j].i < i) → (raiseS L n i 1 from_ now nodes base).1 = true ∧ (raiseS L n i 1 from_ now nodes base).2.1 = 0 ∧ (lessD K n ++ [newD n i from_ now nodes base]).Perm (raiseS L n i 1 from_ now nodes base).2.2) := fun hno => by
    rw [raise_is_new ha (none_perm hP hno)]
    exact ⟨rfl, rfl, keep_perm hP (newD n i from_ now nodes base)⟩
  have hokK : ∀ k (hk : k < K.length), DbtOk K[k] := fun k hk => hL.ok _ (hP.mem_iff.1 (List.getElem_mem hk))
  obtain ⟨R, HR⟩ : ∃ R, Hid (raiseS L n i 1 from_ now nodes base = R) := ⟨_, rfl⟩
  rw [HR.out] at HRold HRtold HRmore HRnew ⊢
  clear HR
  obtain ⟨G, HG⟩ : ∃ G, Hid (w.heap.size = G) := ⟨_, rfl⟩
  rw [HG.out] at bW hS hz hB hqz x0 x1 x2
  obtain ⟨N, HN⟩ : ∃ N, Hid (K.length = N) := ⟨_, rfl⟩
  have fin0 : ∀ w', Below G w w' → Rg Gd q K w' ∧ Mr Gd q w w' := fun w' hb => ⟨hR.below (by rw [HG.out]; exact hb), Mr.of (by rw [HG.out]; exact hb)⟩
  have fin1 : ∀ w', Below G w w' → Below w.heap.size w w' := fun w' hb => by rw [HG.out]; exact hb
  clear hm ha hR
  go_enter Tryz.func94, Tryz.ntmps94
  go_upto_region 1 with fail
  rw [← HW3.out, HG.out]
  go_wp2_with fail
  refine hmay.mono ?_
  rintro e wM ⟨rfl, hb⟩
  have hSM := hS.below hb
  have y0 := hSM.c0
  have y1 := hSM.c1
  have y2 := hSM.c2
  have hBM : Below G w wM := bW.trans (hb.mono hz)
  have hzM : G < wM.heap.size := hSM.lt
  clear hb bW hmay x0 x1 x2 hS
  rw [HN.out] at hcap hNl
  have hcI : (N : Int) ≤ cap := by omega
  go_wp2_with fail
  go_loopg [14] N (fun gk t14 wr => ∃ k : Nat, k + gk = N ∧ t14 = .int .i64 k ∧ (∀ j, j < k → ∀ hj : j < K.length, K[j].n = n → K[j].i < i) ∧ Below G w wr ∧ Bx 39 G n i 1 wr)
  case atStart => exact ⟨0, by omega, rfl, fun j hj => by omega, hBM, hSM⟩
  case round =>
    clear hBM hSM y0 y1 y2
    obtain ⟨k, hk, rfl, hno, hBk, hBx⟩ := hrel
    have hOr := hOK.below (fin1 _ hBk)
    have hhr := (hBk.block q hqz).trans hh
    have hcq : wr.cell? ⟨q, 0, none⟩ = some (.slice a N cap) := by simp [World.cell?, hhr, HN.out]
    have y0 := hBx.c0
    have y1 := hBx.c1
    have y2 := hBx.c2
    have k0 : (0 : Int) ≤ k := by omega
    by_cases hlt : (k : Int) < N
    · have hkl : k < K.length := by rw [HN.out]; omega
      obtain ⟨g, rfl⟩ := hOr.ex (by omega)
      have h7 := hOr.at0 hkl
      have hgl := (hOr.lt g rfl).2
      have ba := below_alloc wr (dC K[k] 172)
      have hBd := Bd.new 172 K[k] wr
      have hBa := hBk.trans (ba.mono (by have := hBx.lt; omega))
      have hBxa := hBx.below ba
      have hok := hokK k hkl
      have hgz := hBx.lt
      have hOa := hOr.below ba
      have hha := (ba.block q (by have := hBx.lt; omega)).trans hhr
      have H1 := HRold k hkl
      have H2 := HRtold k hkl
      have H3 := HRmore k hkl
      have hno' : ∀ x : Dbt, K[k] = x → (x.n = n → x.i < i) → ∀ j, j < k + 1 → ∀ hj : j < K.length, K[j].n = n → K[j].i < i := fun x hx h j hj hjl e => by
        by_cases hjk : j = k
        · subst hjk; rw [hx] at e ⊢; exact h e
        · exact hno j (by omega) hjl e
      clear HRold HRtold HRmore HRnew hokK
      generalize hXX : K[k] = x at *
      have HX : Hid _ := hXX
      have hno2 := hno' x rfl
      clear hXX hno'
      obtain ⟨d0, d1, d2, d3, d4, d5, d6⟩ := h7
      unfold dC at ba hBd hBa hBxa hOa hha
      obtain ⟨wX, HWX⟩ : ∃ wX, Hid (wX = wr.alloc (.cells #[.int .i64 x.n, .int .u64 x.i, .int .i64 x.s, .int .u64 (x.f : Int), .int .u64 x.a, .int .u64 x.t, .int .u64 x.u] 172)) := ⟨_, rfl⟩
      rw [← HWX.out] at ba hBd hBa hBxa hOa hha
      generalize hgy : wr.heap.size = gy at *
      have v0 := hBxa.c0
      have v1 := hBxa.c1
      have b0 := hBd.c0
      have b1 := hBd.c1
      have b3 := hBd.c3
      cases hxn : (x.n != n)
      case true =>
        have hno3 := hno2 (fun e => by simp [e] at hxn)
        clear H1 H2 H3 hno2
        go_upto_region 7 with fail
        rw [← HWX.out]
        go_wp2_with fail
        go_roundg (gk - 1)
        case rel => exact ⟨k + 1, by omega, by go_num, hno3, hBa, hBxa⟩
        case measure => omega
      case false =>
        have exn : x.n = n := by simpa using hxn
        have H1 := H1 exn
        have H2 := H2 exn
        have H3 := H3 exn
        by_cases hio : i < x.i
        · have hRS := H1.out hio
          have HRS : Hid _ := hRS
          clear hRS H1 H2 H3 hno2 exn
          go_upto_region 7 with fail
          rw [← HWX.out]
          go_wp2_with fail
          go_ret2
          exact ⟨by rw [HRS.out]; rfl, K, by rw [HRS.out]; exact hP, fin0 _ hBa⟩
        · cases hie : (x.i == i)
          case false =>
            have hlt3 : x.i < i := by have : x.i ≠ i := by simpa using hie
                                      omega
            have hno3 := hno2 (fun _ => hlt3)
            clear H1 H2 H3 hno2 exn
            go_upto_region 7 with fail
            rw [← HWX.out]
            go_wp2_with fail
            go_roundg (gk - 1)
            case rel => exact ⟨k + 1, by omega, by go_num, hno3, hBa, hBxa⟩
            case measure => omega
          case true =>
            have exi : x.i = i := by simpa using hie
            have hhas := fun W => Bnd.rhas_any x.f hok.f from_ W
            cases hfs : Bnd.hasS x.f from_
            case true =>
              rw [hfs] at hhas
              have HRS : Hid _ := H2.out exi hfs
              clear H1 H2 H3 hno2 exn exi
              go_upto_region 7 with fail
              rw [← HWX.out]
              go_wp2_with fail
              refine (hhas _).mono ?_
              rintro e wH ⟨rfl, rfl⟩
              go_wp2_with fail
              go_ret2
              exact ⟨by rw [HRS.out]; rfl, K, by rw [HRS.out]; exact hP, fin0 _ hBa⟩
            case false =>
              rw [hfs] at hhas
              have HRS : Hid _ := H3.out exi hfs
              have ht0 := hok.t0
              have ht1 := hok.t64
              have cW := fun W => Bnd.rwith_any x.f hok.f from_ W
              obtain ⟨wt, kk, cA, cT, cL⟩ := until_calls base HB nodes x.a (x.t + 1) hnd hok.a0 hok.a1
              have hgG : G < gy := hgz
              have hgq : q ≠ gy := by omega
              have hgg : g ≠ gy := by omega
              have HM : Hid (moreD x from_ nodes base = ⟨x.n, x.i, x.s, Bnd.withS x.f from_, x.a, x.t + 1, untilS base nodes x.a (x.t + 1)⟩) := rfl
              rw [HM.out] at HRS
              clear H1 H2 H3 hno2 exn exi hok HM
              generalize untilS base nodes x.a (x.t + 1) = un at *
              generalize Bnd.withS x.f from_ = wi at *
              have e3 := hBd.free 3
              have hB1 := hBd.set3 wi
              have hE1 := Below.setOther (j := 3) hBa (by omega : G ≤ gy) (.int .u64 (wi : Int))
              obtain ⟨V1, HV1⟩ : ∃ V1, Hid (V1 = wX.setCell ⟨gy, 3, none⟩ (.int .u64 (wi : Int))) := ⟨_, rfl⟩
              rw [← HV1.out] at hB1 hE1
              have b5 := hB1.c5
              have e5 := hB1.free 5
              have hB2 := hB1.set5 (x.t + 1)
              have hE2 := Below.setOther (j := 5) hE1 (by omega : G ≤ gy) (.int .u64 (x.t + 1))
              obtain ⟨V2, HV2⟩ : ∃ V2, Hid (V2 = V1.setCell ⟨gy, 5, none⟩ (.int .u64 (x.t + 1))) := ⟨_, rfl⟩
              rw [← HV2.out] at hB2 hE2
              have c4 := hB2.c4
              have c5 := hB2.c5
              have c6 := hB2.c6
              have e6 := hB2.free 6
              have hB3 := hB2.set6 un
              have hE3 := Below.setOther (j := 6) hE2 (by omega : G ≤ gy) (.int .u64 un)
              obtain ⟨V3, HV3⟩ : ∃ V3, Hid (V3 = (V2.setCell ⟨gy, 6, none⟩ (.int .u64 un)).drew) := ⟨_, rfl⟩
              have hB3 : Bd 172 gy ⟨x.n, x.i, x.s, wi, x.a, x.t + 1, un⟩ V3 := by rw [HV3.out]; exact hB3.keep rfl
              have hE3 : Below G w V3 := by rw [HV3.out]; exact Below.drew' hE3
              simp only at b5 c4 c5 c6
              have hwx : IntKind.i64.wrap (x.t + 1) = x.t + 1 := by simp [IntKind.wrap, IntKind.bits, IntKind.signed]; omega
              have hO3 := hOK.below (fin1 _ hE3)
              have hh3 := (hE3.block q hqz).trans hh
              have hcq3 : V3.cell? ⟨q, 0, none⟩ = some (.slice (some ⟨g, 0, none⟩) N cap) := by simp [World.cell?, hh3, HN.out]
              have a0 := hB3.c0
              have a1 := hB3.c1
              have a2 := hB3.c2
              have a3 := hB3.c3
              have a4 := hB3.c4
              have a5 := hB3.c5
              have a6 := hB3.c6
              simp only at a0 a1 a2 a3 a4 a5 a6
              obtain ⟨r0, r1, r2, r3, r4, r5, r6⟩ := hO3.at0 hkl
              have u0 := hO3.free (k * 7)
              have u1 := hO3.free (k * 7 + 1)
              have u2 := hO3.free (k * 7 + 2)
              have u3 := hO3.free (k * 7 + 3)
              have u4 := hO3.free (k * 7 + 4)
              have u5 := hO3.free (k * 7 + 5)
              have u6 := hO3.free (k * 7 + 6)
              have hEnd := Rg.put hqB (hGO g rfl) hh3 hO3 hkl ⟨x.n, x.i, x.s, wi, x.a, x.t + 1, un⟩
              have hMr := Mr.put (q := q) (fin1 _ hE3) (hGO g rfl) (k * 7) ⟨x.n, x.i, x.s, wi, x.a, x.t + 1, un⟩
              rw [HX.out] at r0 r1 r2 r3 r4 r5 r6
              obtain ⟨V4, HV4⟩ : ∃ V4, Hid (V4 = (set7 V3 g (k * 7) ⟨x.n, x.i, x.s, wi, x.a, x.t + 1, un⟩).drew) := ⟨_, rfl⟩
              have hEnd : Rg Gd q (K.set k ⟨x.n, x.i, x.s, wi, x.a, x.t + 1, un⟩) V4 := by rw [HV4.out]; exact hEnd.drew
              have hMr : Mr Gd q w V4 := by rw [HV4.out]; exact hMr.drew
              unfold set7 at HV4
              simp only at HV4
              clear hO3 hB1 hB2 hB3 hE1 hE2 hE3 hOr hOa ba hBd hBa hBxa hBk hBx hh3 hha hhr
              go_upto_region 7 with fail
              rw [← HWX.out]
              go_upto_region 13 with (go_at_call 30; refine (hhas _).mono ?_; rintro e wH ⟨rfl, rfl⟩)
              go_upto_region 14 with (go_at_call 109; refine (cW _).mono ?_; rintro e wA ⟨rfl, rfl⟩)
              rw [← HV1.out]
              go_upto_region 15 with fail
              rw [← HV2.out]
              clear d0 d1 d2 d3 d4 d5 d6 v0 v1 b0 b1 b3 e3 b5 e5
              go_region_with (first
                | (go_at_call 141; refine (cA _).mono ?_; rintro e wA ⟨rfl, rfl⟩)
                | (go_at_call 140; refine (cT _).mono ?_; rintro e wB ⟨rfl, rfl⟩)
                | (go_at_call 139; refine (cL _).mono ?_; rintro e wC ⟨rfl, rfl⟩))
              all_goals
                go_upto_region 16 with fail
                rw [← HV3.out]
                go_region
                all_goals
                  go_upto_region 17 with fail
                  rw [← HV4.out]
                  go_wp2_with fail
                  go_ret2
                  obtain ⟨h1, h2, h3⟩ := HRS.out
                  exact ⟨by rw [h1, h2]; rfl, _, h3, hEnd, hMr⟩
    · obtain rfl : k = N := by omega
      have HRS : Hid _ := HRnew.out (fun j hj => hno j (by rw [← HN.out]; exact hj) hj)
      clear HRnew HRold HRtold HRmore hno hokK
      have hRk := (fin0 _ hBk).1
      have hdr := rdrop_any Gd q K (by rw [HN.out]; omega) n wr hRk
      have hgz := hBx.lt
      have hzk := hBk.size
      rw [HG.out] at hzk
      clear hRk hOr
      go_wp2_with fail
      refine hdr.mono ?_
      rintro e wD ⟨rfl, hRD, hbD⟩
      have hBxD : Bx 39 G n i 1 wD := hBx.keep (hbD.block G hgz (by simp; omega))
      have hMD : Mr Gd q w wD := (fin0 _ hBk).2.trans (Mr.but hbD)
      obtain ⟨vD, hhD, hOD0, hGD⟩ := hRD.is
      have hOD := hOD0.up hGD
      clear hOD0 hGD
      obtain ⟨aD, capD, rfl, hcapD, _⟩ := hOD.rb
      have hll : (lessD K n).length ≤ 64 := Nat.le_trans (lessD_length_le _ _) (by rw [HN.out]; omega)
      have z0 := hBxD.c0
      have z1 := hBxD.c1
      have z2 := hBxD.c2
      have hcD : wD.cell? ⟨q, 0, none⟩ = some (.slice aD (lessD K n).length capD) := by simp [World.cell?, hhD]
      have cW := fun W => Bnd.rwith_any 0 (by decide) from_ W
      obtain ⟨wt, kk, cA, cT, cL⟩ := until_calls base HB nodes now 0 hnd hnow.1 hnow.2
      have HM : Hid (newD n i from_ now nodes base = ⟨n, i, 1, Bnd.withS 0 from_, now, 0, untilS base nodes now 0⟩) := rfl
      rw [HM.out] at HRS
      clear HM hdr
      generalize untilS base nodes now 0 = un at *
      generalize Bnd.withS 0 from_ = wi at *
      generalize lessD K n = KD at *
      have ba := below_alloc wD (dC ⟨n, i, 1, wi, now, 0, un⟩ 172)
      have hY := Rb.one (Bd.new 172 ⟨n, i, 1, wi, now, 0, un⟩ wD)
      have hOa := hOD.below ba
      have hha := (ba.block q hRD.lt).trans hhD
      have hBxa := hBxD.below ba
      have hMa : Mr Gd q w (wD.alloc (dC ⟨n, i, 1, wi, now, 0, un⟩ 172)) := hMD.trans (Mr.of ba)
      unfold dC at ba hY hOa hha hBxa hMa
      simp only at ba hY hOa hha hBxa hMa
      obtain ⟨wX, HWX⟩ : ∃ wX, Hid (wX = (wD.alloc (.cells #[.int .i64 n, .int .u64 i, .int .i64 1, .int .u64 (wi : Int), .int .u64 now, .int .u64 0, .int .u64 un] 172)).drew) := ⟨_, rfl⟩
      have hY : Rb (.slice (some ⟨wD.heap.size, 0, none⟩) 1 1) [⟨n, i, 1, wi, now, 0, un⟩] wX := by rw [HWX.out]; exact hY.keep fun _ _ _ => rfl
      have hOX : OwD 172 wr.heap.size (.slice aD KD.length capD) KD wX := by rw [HWX.out]; exact hOa.keep fun _ _ _ => rfl
      have hhX : wX.heap[q]? = some (.cells #[.slice aD KD.length capD] 103 (0, 0)) := by rw [HWX.out]; exact hha
      have hMX : Mr Gd q w wX := by rw [HWX.out]; exact hMa.drew
      have hzX : wr.heap.size ≤ wX.heap.size := by
        have h1 := hbD.size
        have h2 := ba.size
        rw [HWX.out]
        exact Nat.le_trans h1 h2
      have hcX : wX.cell? ⟨q, 0, none⟩ = some (.slice aD KD.length capD) := by simp [World.cell?, hhX]
      have hcX2 : (wD.alloc (.cells #[.int .i64 n, .int .u64 i, .int .i64 1, .int .u64 (wi : Int), .int .u64 now, .int .u64 0, .int .u64 un] 172)).cell? ⟨q, 0, none⟩ = some (.slice aD KD.length capD) := by
        rw [HWX.out] at hcX
        exact hcX
      have hSX : wX.cell? ⟨q, 0, none⟩ = some (.slice aD KD.length capD) ∧ wX.cell? ⟨G, 0, none⟩ = some (.int .i64 n) ∧ wX.cell? ⟨G, 1, none⟩ = some (.int .u64 i) ∧ wX.cell? ⟨G, 2, none⟩ = some (.int .i64 1) := by
        have t2 := hBxa.c2
        exact ⟨hcX, by rw [HWX.out]; exact hBxa.c0, by rw [HWX.out]; exact hBxa.c1, by rw [HWX.out]; exact t2⟩
      have hSD : wD.drew.cell? ⟨q, 0, none⟩ = some (.slice aD KD.length capD) ∧ wD.drew.cell? ⟨G, 0, none⟩ = some (.int .i64 n) ∧ wD.drew.cell? ⟨G, 1, none⟩ = some (.int .u64 i) ∧ wD.drew.cell? ⟨G, 2, none⟩ = some (.int .i64 1) := ⟨hcD, z0, z1, z2⟩
      have hqr : q < wr.heap.size := by omega
      have hGne : G ≠ q := by omega
      have hkeepG : ∀ w5, wX.grownBy w5 (Value.slice aD KD.length capD).ownBlock → w5.cell? ⟨q, 0, none⟩ = some (.slice aD KD.length capD) ∧ w5.cell? ⟨G, 0, none⟩ = some (.int .i64 n) ∧ w5.cell? ⟨G, 1, none⟩ = some (.int .u64 i) ∧ w5.cell? ⟨G, 2, none⟩ = some (.int .i64 1) := fun w5 hg => by
        have e1 : w5.heap[q]? = wX.heap[q]? := hg.block q (by omega) (fun e => by have := (hOX.lt q e.symm).1; omega)
        have e2 : w5.heap[G]? = wX.heap[G]? := hg.block G (by omega) (fun e => by have := (hOX.lt G e.symm).1; omega)
        exact ⟨(World.cell?_of_block (w := wX) (a := ⟨q, 0, none⟩) e1).trans hSX.1, (World.cell?_of_block (w := wX) (a := ⟨G, 0, none⟩) e2).trans hSX.2.1, (World.cell?_of_block (w := wX) (a := ⟨G, 1, none⟩) e2).trans hSX.2.2.1, (World.cell?_of_block (w := wX) (a := ⟨G, 2, none⟩) e2).trans hSX.2.2.2⟩
      obtain ⟨g0, g1, g2⟩ := hSX.2
      rw [HWX.out] at g0 g1 g2
      have g0 : (wD.alloc (.cells #[.int .i64 n, .int .u64 i, .int .i64 1, .int .u64 (wi : Int), .int .u64 now, .int .u64 0, .int .u64 un] 172)).cell? ⟨G, 0, none⟩ = some (.int .i64 n) := g0
      clear g1 g2
      clear ba hBxa hOa hha hMa hOD hRD hBxD hMD y0 y1 y2 hcX
      go_upto_region 19 with fail
      have cW : ∀ W, Calls Tryz.prog 109 #[.int .u64 0, .int .i64 from_] W fun e w' => e = .returned (.int .u64 (wi : Int)) ∧ w' = W := cW
      have EWith : Hid (∀ args w, (callFunc 109 args).run Tryz.prog w = .ok (.enter 109 args) w) := enters_of Tryz.func109 (by kernel_rfl) rfl
      have EWait : Hid (∀ args w, (callFunc 141 args).run Tryz.prog w = .ok (.enter 141 args) w) := enters_of Tryz.func141 (by kernel_rfl) rfl
      have ETicks : Hid (∀ args w, (callFunc 140 args).run Tryz.prog w = .ok (.enter 140 args) w) := enters_of Tryz.func140 (by kernel_rfl) rfl
      have Elater : Hid (∀ args w, (callFunc 139 args).run Tryz.prog w = .ok (.enter 139 args) w) := enters_of Tryz.func139 (by kernel_rfl) rfl
      have hfree5 : ∀ w5, wX.grownBy w5 (Value.slice aD KD.length capD).ownBlock → w5.frozen? ⟨q, 0, none⟩ = false := fun w5 h3 => by simp [World.frozen?, (h3.block q (by omega) (fun e => by have := (hOX.lt q e.symm).1; omega)).trans hhX]
      have hfinM : ∀ w5 a5 c5, wX.grownBy w5 (Value.slice aD KD.length capD).ownBlock → Mr Gd q w (w5.setCell ⟨q, 0, none⟩ (.slice a5 (KD ++ [(⟨n, i, 1, wi, now, 0, un⟩ : Dbt)]).length c5)) := fun w5 a5 c5 h3 => by
        refine hMX.trans ⟨h3.os, h3.tape, h3.output, by simpa [World.setCell] using h3.size, fun r hr hrq hc => ?_⟩
        exact (Below.heap_setCell _ _ _ _ (by simpa using hrq)).trans (h3.block r hr fun e => hc (hB r (by have := (hOX.lt r e.symm).1; omega)))
      have hfinR : ∀ w5 a5 c5, OwD 172 wr.heap.size (.slice a5 (KD ++ [(⟨n, i, 1, wi, now, 0, un⟩ : Dbt)]).length c5) (KD ++ [(⟨n, i, 1, wi, now, 0, un⟩ : Dbt)]) w5 → wX.grownBy w5 (Value.slice aD KD.length capD).ownBlock → Rg Gd q (KD ++ [(⟨n, i, 1, wi, now, 0, un⟩ : Dbt)]) (w5.setCell ⟨q, 0, none⟩ (.slice a5 (KD ++ [(⟨n, i, 1, wi, now, 0, un⟩ : Dbt)]).length c5)) := fun w5 a5 c5 hO5 h3 =>
        (Rg.set hqB hO5 (fun g hg => hB g (by omega)) ⟨_, (h3.block q (by omega) (fun e => by have := (hOX.lt q e.symm).1; omega)).trans hhX⟩)
      clear hOK hh hhr hcq fin0 fin1 g0 hBk hbD hL hP hnd HB hnow hcapD hBx hhD hcap hNl hcI hSD
      refine wp_region_any (by kernel_rfl) ?_
      change wpAny _ _ _ _ _ _ _ (World.drew _)
      refine wpAny_take (i := 0) (v := .pointer (some ⟨q, 0, none⟩)) rfl (by kernel_rfl) (by kernel_rfl) (by kernel_rfl) (fun _ _ _ h => h) (Or.inl ⟨by rfl, ?_⟩) ?_
      · intro w0
        go_simp
      refine wpAny_take (i := 1) (v := .pointer (some ⟨q, 0, none⟩)) rfl (by kernel_rfl) (by kernel_rfl) (by kernel_rfl) (fun _ _ _ h => h) (Or.inl ⟨by rfl, ?_⟩) ?_
      · intro w0
        go_simp
      refine wpAny_take (i := 2) (v := .pointer (some ⟨q, 0, none⟩)) rfl (by kernel_rfl) (by kernel_rfl) (by kernel_rfl) (fun _ _ _ h => h) (Or.inl ⟨by rfl, ?_⟩) ?_
      · intro w0
        go_simp
      refine wpAny_take (i := 3) (v := .pointer (some ⟨q, 0, none⟩)) rfl (by kernel_rfl) (by kernel_rfl) (by kernel_rfl) (fun _ _ _ h => h) (Or.inl ⟨by rfl, ?_⟩) ?_
      · intro w0
        go_simp
      refine wpAny_take (i := 6) (v := .int .i64 from_) rfl (by kernel_rfl) (by kernel_rfl) (by kernel_rfl) (fun _ _ _ h => h) (Or.inl ⟨by rfl, ?_⟩) ?_
      · intro w0
        go_simp
      refine wpAny_take (i := 8) (v := .int .u64 now) rfl (by kernel_rfl) (by kernel_rfl) (by kernel_rfl) (fun _ _ _ h => h) (Or.inl ⟨by rfl, ?_⟩) ?_
      · intro w0
        go_simp
      refine wpAny_take (i := 9) (v := .int .u64 now) rfl (by kernel_rfl) (by kernel_rfl) (by kernel_rfl) (fun _ _ _ h => h) (Or.inl ⟨by rfl, ?_⟩) ?_
      · intro w0
        go_simp
      refine wpAny_take (i := 10) (v := .float .f64 base) rfl (by kernel_rfl) (by kernel_rfl) (by kernel_rfl) (fun _ _ _ h => h) (Or.inl ⟨by rfl, ?_⟩) ?_
      · intro w0
        go_simp
      refine wpAny_take (i := 11) (v := .int .i64 nodes) rfl (by kernel_rfl) (by kernel_rfl) (by kernel_rfl) (fun _ _ _ h => h) (Or.inl ⟨by rfl, ?_⟩) ?_
      · intro w0
        go_simp
      refine take_call (i := 7) (v := .int .u64 (wi : Int)) rfl (by kernel_rfl) (by kernel_rfl) (by kernel_rfl) (fun _ _ _ h => h) rfl 109 [.const (.int .u64 0), .tmp 107] #[34, 3] rfl [.int .u64 0, .int .i64 from_] (by kernel_rfl) EWith.out cW ?_
      refine take_call (i := 12) (v := .float .f64 wt) rfl (by kernel_rfl) (by kernel_rfl) (by kernel_rfl) (fun _ _ _ h => h) rfl 141 [.tmp 111, .tmp 112, .const (.int .i64 0), .const (.int .i64 3)] #[174, 3, 3, 3] rfl [.float .f64 base, .int .i64 nodes, .int .i64 0, .int .i64 3] (by kernel_rfl) EWait.out cA ?_
      refine take_call (i := 13) (v := .int .u64 kk) rfl (by kernel_rfl) (by kernel_rfl) (by kernel_rfl) (fun _ _ _ h => h) rfl 140 [.tmp 113] #[174] rfl [.float .f64 wt] (by kernel_rfl) ETicks.out cT ?_
      refine take_call (i := 14) (v := .int .u64 un) rfl (by kernel_rfl) (by kernel_rfl) (by kernel_rfl) (fun _ _ _ h => h) rfl 139 [.tmp 110, .tmp 114] #[34, 34] rfl [.int .u64 now, .int .u64 kk] (by kernel_rfl) Elater.out cL ?_
      refine wpAny_ready (rs := [4, 5]) (by kernel_rfl) (by simp) ?_
      refine AllReady.cons rfl (fun K hK => ?_) (AllReady.cons rfl (fun K hK => ?_) AllReady.nil)
      · go_simp
        refine hK _ _ ?_
        clear hK K
        refine wpAny_ready (rs := [5]) (by kernel_rfl) (by simp) ?_
        refine AllReady.cons rfl (fun K hK => ?_) AllReady.nil
        go_simp
        refine hK _ _ ?_
        clear hK K
        refine wpAny_take (i := 15) (v := .agg #[.int .i64 n, .int .u64 i, .int .i64 1, .int .u64 (wi : Int), .int .u64 now, .int .u64 0, .int .u64 un]) rfl (by kernel_rfl) (by kernel_rfl) (by kernel_rfl) (fun _ _ _ h => h) (Or.inl ⟨by rfl, ?_⟩) ?_
        · intro w0
          go_simp
        refine wpAny_ready (rs := [16]) (by kernel_rfl) (by simp) ?_
        refine AllReady.cons rfl (fun K hK => ?_) AllReady.nil
        go_simp
        refine hK _ _ ?_
        clear hK K
        refine wpAny_ready (rs := [17]) (by kernel_rfl) (by simp) ?_
        refine AllReady.cons rfl (fun K hK => ?_) AllReady.nil
        rw [← HWX.out]
        refine step_appD Tryz.underlying101 Tryz.infoE _ (by rfl) (.tmp 105) (.tmp 117) (by rfl) wr.heap.size _ KD (by rfl) hOX hzX wD.heap.size 0 1 [⟨n, i, 1, wi, now, 0, un⟩] 1 rfl (by rfl) hY (by simp; omega) ?_
        intro v5 w5 hO5 h3 h4
        obtain ⟨a5, c5, rfl, _⟩ := hO5.rb
        have hc5 := (hkeepG w5 h3).1
        have hf5 : w5.frozen? ⟨q, 0, none⟩ = false := hfree5 w5 h3
        refine hK _ _ ?_
        clear hK K
        refine wpAny_take (i := 18) (v := .pointer (some ⟨q, 0, none⟩)) rfl (by kernel_rfl) (by kernel_rfl) (by kernel_rfl) (fun _ _ _ h => h) (Or.inl ⟨by rfl, ?_⟩) ?_
        · intro w0
          go_simp
        refine wpAny_take (i := 19) (v := .pointer (some ⟨q, 0, none⟩)) rfl (by kernel_rfl) (by kernel_rfl) (by kernel_rfl) (fun _ _ _ h => h) (Or.inl ⟨by rfl, ?_⟩) ?_
        · intro w0
          go_simp
        refine wpAny_ready (rs := [20]) (by kernel_rfl) (by simp) ?_
        refine AllReady.cons rfl (fun K hK => ?_) AllReady.nil
        go_simp
        refine hK _ _ ?_
        clear hK K
        refine wpAny_done (by kernel_rfl) ?_ _
        have hM5 := hfinM w5 a5 c5 h3
        have hR5 := hfinR w5 a5 c5 hO5 h3
        go_wp2_with fail
        go_ret2
        obtain ⟨h1, h2, h3⟩ := HRS.out
        exact ⟨by rw [h1, h2]; rfl, _, h3, by simpa using hR5, by simpa using hM5⟩
      · go_simp
        refine hK _ _ ?_
        clear hK K
        refine wpAny_take (i := 15) (v := .agg #[.int .i64 n, .int .u64 i, .int .i64 1, .int .u64 (wi : Int), .int .u64 now, .int .u64 0, .int .u64 un]) rfl (by kernel_rfl) (by kernel_rfl) (by kernel_rfl) (fun _ _ _ h => h) (Or.inl ⟨by rfl, ?_⟩) ?_
        · intro w0
          go_simp
        refine wpAny_ready (rs := [4, 16]) (by kernel_rfl) (by simp) ?_
        refine AllReady.cons rfl (fun K hK => ?_) (AllReady.cons rfl (fun K hK => ?_) AllReady.nil)
        · go_simp
          refine hK _ _ ?_
          clear hK K
          refine wpAny_ready (rs := [16]) (by kernel_rfl) (by simp) ?_
          refine AllReady.cons rfl (fun K hK => ?_) AllReady.nil
          go_simp
          refine hK _ _ ?_
          clear hK K
          refine wpAny_ready (rs := [17]) (by kernel_rfl) (by simp) ?_
          refine AllReady.cons rfl (fun K hK => ?_) AllReady.nil
          rw [← HWX.out]
          refine step_appD Tryz.underlying101 Tryz.infoE _ (by rfl) (.tmp 105) (.tmp 117) (by rfl) wr.heap.size _ KD (by rfl) hOX hzX wD.heap.size 0 1 [⟨n, i, 1, wi, now, 0, un⟩] 1 rfl (by rfl) hY (by simp; omega) ?_
          intro v5 w5 hO5 h3 h4
          obtain ⟨a5, c5, rfl, _⟩ := hO5.rb
          have hc5 := (hkeepG w5 h3).1
          have hf5 : w5.frozen? ⟨q, 0, none⟩ = false := hfree5 w5 h3
          refine hK _ _ ?_
          clear hK K
          refine wpAny_take (i := 18) (v := .pointer (some ⟨q, 0, none⟩)) rfl (by kernel_rfl) (by kernel_rfl) (by kernel_rfl) (fun _ _ _ h => h) (Or.inl ⟨by rfl, ?_⟩) ?_
          · intro w0
            go_simp
          refine wpAny_take (i := 19) (v := .pointer (some ⟨q, 0, none⟩)) rfl (by kernel_rfl) (by kernel_rfl) (by kernel_rfl) (fun _ _ _ h => h) (Or.inl ⟨by rfl, ?_⟩) ?_
          · intro w0
            go_simp
          refine wpAny_ready (rs := [20]) (by kernel_rfl) (by simp) ?_
          refine AllReady.cons rfl (fun K hK => ?_) AllReady.nil
          go_simp
          refine hK _ _ ?_
          clear hK K
          refine wpAny_done (by kernel_rfl) ?_ _
          have hM5 := hfinM w5 a5 c5 h3
          have hR5 := hfinR w5 a5 c5 hO5 h3
          go_wp2_with fail
          go_ret2
          obtain ⟨h1, h2, h3⟩ := HRS.out
          exact ⟨by rw [h1, h2]; rfl, _, h3, by simpa using hR5, by simpa using hM5⟩
        · go_simp
          refine hK _ _ ?_
          clear hK K
          refine wpAny_ready (rs := [4]) (by kernel_rfl) (by simp) ?_
          refine AllReady.cons rfl (fun K hK => ?_) AllReady.nil
          go_simp
          refine hK _ _ ?_
          clear hK K
          refine wpAny_ready (rs := [17]) (by kernel_rfl) (by simp) ?_
          refine AllReady.cons rfl (fun K hK => ?_) AllReady.nil
          rw [← HWX.out]
          refine step_appD Tryz.underlying101 Tryz.infoE _ (by rfl) (.tmp 105) (.tmp 117) (by rfl) wr.heap.size _ KD (by rfl) hOX hzX wD.heap.size 0 1 [⟨n, i, 1, wi, now, 0, un⟩] 1 rfl (by rfl) hY (by simp; omega) ?_
          intro v5 w5 hO5 h3 h4
          obtain ⟨a5, c5, rfl, _⟩ := hO5.rb
          have hc5 := (hkeepG w5 h3).1
          have hf5 : w5.frozen? ⟨q, 0, none⟩ = false := hfree5 w5 h3
          refine hK _ _ ?_
          clear hK K
          refine wpAny_take (i := 18) (v := .pointer (some ⟨q, 0, none⟩)) rfl (by kernel_rfl) (by kernel_rfl) (by kernel_rfl) (fun _ _ _ h => h) (Or.inl ⟨by rfl, ?_⟩) ?_
          · intro w0
            go_simp
          refine wpAny_take (i := 19) (v := .pointer (some ⟨q, 0, none⟩)) rfl (by kernel_rfl) (by kernel_rfl) (by kernel_rfl) (fun _ _ _ h => h) (Or.inl ⟨by rfl, ?_⟩) ?_
          · intro w0
            go_simp
          refine wpAny_ready (rs := [20]) (by kernel_rfl) (by simp) ?_
          refine AllReady.cons rfl (fun K hK => ?_) AllReady.nil
          go_simp
          refine hK _ _ ?_
          clear hK K
          refine wpAny_done (by kernel_rfl) ?_ _
          have hM5 := hfinM w5 a5 c5 h3
          have hR5 := hfinR w5 a5 c5 hO5 h3
          go_wp2_with fail
          go_ret2
          obtain ⟨h1, h2, h3⟩ := HRS.out
          exact ⟨by rw [h1, h2]; rfl, _, h3, by simpa using hR5, by simpa using hM5⟩
theorem rraise_any (Gd : Nat → Prop) (q : Nat) (K L : List Dbt) (hP : K.Perm L) (hL : Di L) (n i s from_ now nodes : Int) (base : Nat) (hnow : 0 ≤ now ∧ now ≤ 18446744073709551615) (HB : Hid (base < 2 ^ 64)) (hnd : -9223372036854775808 ≤ nodes ∧ nodes ≤ 9223372036854775807) (w : World) (hR : Rg Gd q K w) (hB : ∀ g, w.heap.size ≤ g → Gd g) :
    Calls Tryz.prog 94 #[.pointer (some ⟨q, 0, none⟩), .agg #[.int .i64 n, .int .u64 i, .int .i64 s], .int .i64 from_, .int .u64 now, .int .i64 nodes, .float .f64 base] w fun e w' => e = .returned (.tuple #[.bool (raiseS L n i s from_ now nodes base).1, .int .i64 (raiseS L n i s from_ now nodes base).2.1]) ∧ ∃ K', K'.Perm (raiseS L n i s from_ now nodes base).2.2 ∧ Rg Gd q K' w' ∧ Mr Gd q w w' := by
  cases ha : argS n s from_
  · have e : raiseS L n i s from_ now nodes base = (false, 1, L) := by unfold raiseS; rw [if_pos ha]
    rw [e]
    exact (rraise_arg q n i s from_ now nodes base ha w).mono fun e w' ⟨h1, h2⟩ => ⟨h1, K, hP, hR.below h2, Mr.of h2⟩
  · exact rraise_go Gd q K L hP hL n i s from_ now nodes base ha hnow HB hnd w hR hB
end Go.Proofs.YtpoofjnfaijjjaaGreatDoor.Do
