/-
  RollMerges.
-/
import Derived.Test.YtkodeahhckibmaaMab
namespace Go.Proofs.Ytkodeahhckibmaa
open Go.RowKit

/-- What is not of node k. -/
def flt (k : Int) (l : List Upd) : List Upd := l.filter fun u => u.n != k
theorem flt_take (k : Int) (l : List Upd) (j : Nat) (hj : j < l.length) : flt k (l.take (j + 1)) = flt k (l.take j) ++ if l[j].n != k then [l[j]] else [] := by
  unfold flt
  rw [List.take_add_one, List.getElem?_eq_getElem hj, List.filter_append]
  congr 1
  cases h : (l[j].n != k) <;> simp [h]
theorem flt_len (k : Int) (l : List Upd) (j : Nat) : (flt k (l.take j)).length ≤ j := by
  have := List.length_filter_le (fun u : Upd => u.n != k) (l.take j)
  have h2 := List.length_take_le j l
  unfold flt
  omega
theorem flt_mem {k : Int} {l : List Upd} {u : Upd} (h : u ∈ flt k l) : u ∈ l ∧ u.n ≠ k := by
  unfold flt at h
  have := List.mem_filter.1 h
  exact ⟨this.1, by simpa using this.2⟩

theorem Two.grown {w0 : World} {p q k o : Nat} {f g : Tab} {w w' : World} {B : Nat} {v : Value} {l : List Upd} (h : Two w0 p q k o f g w) (hO : Own B v l w) (hp : p < B) (hq : q < B) (h3 : w.grownBy w' v.ownBlock) : Two w0 p q k o f g w' := by
  have hne : ∀ i, i < B → some i ≠ v.ownBlock := fun i hi e => by have := (hO.lt i e.symm).1; omega
  have hlp := h.lp
  refine ⟨h.one.keep (h3.block p h.one.lt (hne p hp)), h.two.keep (h3.block q h.two.lt (hne q hq)), h.ne, h.lp, h.lq, h.below.trans ⟨h3.os, h3.tape, h3.output, h3.size, fun i hi => h3.block i (by have := h.below.size; omega) (hne i (by omega))⟩⟩

set_option maxRecDepth 100000 in
set_option maxHeartbeats 2000000 in
theorem merges_core (me : Int) (hme : 0 ≤ me ∧ me ≤ 255) (a b : Option Addr) (capa capb : Nat) (l m : List Upd) (w : World) (hU : Ru (.slice a l.length capa) l w) (hV : Ru (.slice b m.length capb) m w) (hin : ∀ u ∈ l, InOk u) (hin2 : ∀ u ∈ m, InOk u) (hl : (l.length : Int) ≤ 60) (hm : (m.length : Int) ≤ 60) :
    Calls Try.prog 5 #[.int .u8 me, .slice a l.length capa, .slice b m.length capb] w fun e w' => e = .returned (.bool true) ∧ Below w.heap.size w w' := by
  obtain ⟨k, hk, hk63⟩ : ∃ k : Nat, me % 63 = k ∧ k < 63 := ⟨(me % 63).toNat, by omega, by omega⟩
  have hk64 : k < 64 := by omega
  obtain ⟨h0, h1⟩ := hme
  obtain ⟨_, _, e, _, _, h3⟩ := id hU
  cases e
  obtain ⟨_, _, e, _, _, h4⟩ := id hV
  cases e
  go_enter Try.func5, Try.ntmps5
  go_wp2_with fail
  refine (shown_any _).mono ?_
  rintro e w1 ⟨rfl, hb1⟩
  go_wp2_with fail
  refine (new_any _ _).mono ?_
  rintro e w2 ⟨hN, _, hb2⟩
  obtain ⟨p, rfl, hp, hR2⟩ := hN k rfl hk64
  clear hN hk
  go_wp2_with fail
  refine (new_any _ _).mono ?_
  rintro e w3 ⟨hN, _, hb3⟩
  obtain ⟨q, rfl, hq, hR3⟩ := hN 63 rfl (by decide)
  clear hN
  have hp2 := hR2.lt
  have hS : Two w p q k 63 (newS k) (newS 63) w3 := ⟨hR2.below hb3, hR3, by omega, Nat.le_trans hb1.size hp, Nat.le_trans hb1.size (Nat.le_trans hb2.size hq), hb1.trans ((hb2.trans (hb3.mono hb2.size)).mono hb1.size)⟩
  have hI0 : Inv k (newS k) := inv_new hk64
  have hI1 : Inv 63 (newS 63) := inv_new (by decide)
  have hn0 : newS k 63 = none := Tab.set_other _ _ (by omega)
  have hn1 : ∀ j, j ≠ 63 → newS 63 j = none := fun j hj => Tab.set_other _ _ hj
  generalize newS k = f0 at *
  generalize newS 63 = g0 at *
  have hpB : p < w3.heap.size := hS.one.lt
  have hqB : q < w3.heap.size := hS.two.lt
  have hwB : w.heap.size ≤ w3.heap.size := hS.below.size
  clear hb1 hb2 hb3 hR2 hR3 hp hq hp2
  go_wp2_with fail
  go_loopg [10, 11] l.length (fun gk t10 t11 wr => ∃ (j : Nat), j + gk = l.length ∧ t11 = .int .i64 j ∧ Own w3.heap.size t10 (flt 63 (l.take j)) wr ∧ w3.heap.size ≤ wr.heap.size ∧ Two w p q k 63 f0 g0 wr)
  case atStart => exact ⟨0, by omega, rfl, Own.empty (heap_alloc_new w3 _) (Nat.le_refl _), by simp, hS.later (below_alloc _ _)⟩
  case round =>
    obtain ⟨j, hj, rfl, hO, hz, hT⟩ := hrel
    clear hS
    by_cases hlt : (j : Int) < l.length
    · have hj' : j < l.length := by omega
      have j0 : (0 : Int) ≤ j := by omega
      rcases h3 with h3 | ⟨gb, off, rfl, h3⟩
      · omega
      clear h3
      obtain ⟨x0, x1, x2⟩ := hU.at hT.below hj'
      have hft := flt_take 63 l j hj'
      have hfl := flt_len 63 l j
      generalize hM : flt 63 (l.take j) = M at *
      have HM : Hid _ := hM
      clear hM
      generalize l[j] = u at *
      cases hu : (u.n != 63)
      case false =>
        have HT : Hid (flt 63 (l.take (j + 1)) = M) := by show _ = _; rw [hft, hu]; simp
        clear hft
        go_wp2_with fail
        go_roundg (gk - 1)
        case rel => exact ⟨j + 1, by omega, by go_num, by rw [HT.out]; exact hO, hz, hT⟩
        case measure => omega
      case true =>
        have HT : Hid (flt 63 (l.take (j + 1)) = M ++ [u]) := by show _ = _; rw [hft, hu]; simp
        clear hft
        have bc := below_alloc wr (.cells #[.int .i64 u.n, .int .u64 u.i, .int .i64 u.s] 29)
        have hO3 := hO.below bc
        have hT3 := hT.later bc
        have hU3 := Ru.one (u := u) (Bx.new 29 u.n u.i u.s wr)
        have hz3 : w3.heap.size ≤ (wr.alloc (.cells #[.int .i64 u.n, .int .u64 u.i, .int .i64 u.s] 29)).heap.size := Nat.le_trans hz bc.size
        go_wp2_with (at_builtin; refine wpList_app _ rfl (.tmp 61) (.tmp 66) rfl w3.heap.size _ M rfl hO3 hz3 wr.heap.size 0 1 [u] 1 rfl rfl hU3 (by simp; omega) ?_; intro v' w' h1 h3 h4)
        have hT4 := hT3.grown hO3 hpB hqB h3
        have hz4 := Nat.le_trans hz3 h3.size
        clear h3 h4 hU3 hO3 hT3
        go_roundg (gk - 1)
        case rel => exact ⟨j + 1, by omega, by go_num, by rw [HT.out]; exact h1, hz4, hT4⟩
        case measure => omega
    · obtain rfl : j = l.length := by omega
      rw [List.take_length] at hO
      have hlx : (flt 63 l).length ≤ 60 := by have := flt_len 63 l l.length; rw [List.take_length] at this; omega
      have hox : ∀ u ∈ flt 63 l, InOk u := fun u hu => hin u (flt_mem hu).1
      have hf63 := hearAll_at (flt 63 l) (j := 63) (by omega) hI0 (fun u hu => ⟨hox u hu, (flt_mem hu).2⟩)
      have hIf := hearAll_inv (flt 63 l) hI0 hox
      have hc := hearAll_code (k := k) (flt 63 l) f0
      rw [hn0] at hf63
      clear h3 hU hin
      go_wp2_with fail
      refine (merge_any p k f0 _ (flt 63 l) hk64 _ hT.one hO.ru (fun _ => hO.ne hpB) (by omega) hox).mono ?_
      generalize hearAllS k f0 (flt 63 l) = r at *
      obtain ⟨e1, f1⟩ := r
      dsimp only at hf63 hIf hc ⊢
      rintro e w4 ⟨⟨v4, rfl, _⟩, hR4, hb4⟩
      have hT4 := hT.first hR4 hb4
      have hz4 := Nat.le_trans hz hb4.size
      clear hO hR4 hb4 hT hz hlx hox hI0 hn0
      rcases hc with rfl | rfl
      case inr =>
        go_wp2_with fail
        go_ret
        exact ⟨rfl, hT4.below⟩
      case inl =>
        obtain ⟨c1, hIg, hg1⟩ := hear_all hI1 hIf (Or.inl hf63)
        have hgj : ∀ j, j ≠ 63 → (hearAllS 63 g0 (allS f1)).2 j = f1 j := by
          intro j hj
          rw [hg1 j, hn1 j hj]
          cases f1 j <;> rfl
        have hok := all_ok hIf
        have hlen := allS_length f1
        clear hg1 hn1 hI1
        go_wp2_with fail
        refine (all_any p k f1 _ hT4.one).mono ?_
        rintro e w5 ⟨⟨v5, rfl, hO5⟩, hb5⟩
        have hq4 := hT4.two.lt
        have hT5 := hT4.later hb5
        have hz5 := Nat.le_trans hz4 hb5.size
        go_wp2_with fail
        refine (merge_any q 63 g0 _ (allS f1) (by decide) w5 hT5.two hO5.ru (fun _ => hO5.ne hq4) (by omega) hok).mono ?_
        generalize hearAllS 63 g0 (allS f1) = r at *
        obtain ⟨e2, g1⟩ := r
        dsimp only at c1 hIg hgj ⊢
        subst c1
        rintro e w6 ⟨⟨v6, rfl, _⟩, hR6, hb6⟩
        have hT6 := hT5.second hR6 hb6
        have hz6 := Nat.le_trans hz5 hb6.size
        clear hO5 hR6 hb6 hT5 hz5 hok hlen hT4 hz4 hb5 hq4
        have hpB := hT6.one.lt
        have hqB := hT6.two.lt
        have hwB := hT6.below.size
        go_wp2_with fail
        go_loopg [14, 15] m.length (fun gk t14 t15 wr => ∃ (j : Nat), j + gk = m.length ∧ t15 = .int .i64 j ∧ Own w6.heap.size t14 (flt 63 (m.take j)) wr ∧ w6.heap.size ≤ wr.heap.size ∧ Two w p q k 63 f1 g1 wr)
        case atStart => exact ⟨0, by omega, rfl, Own.empty (heap_alloc_new w6 _) (Nat.le_refl _), by simp, hT6.later (below_alloc _ _)⟩
        case round =>
          obtain ⟨j, hj, rfl, hO, hz, hT⟩ := hrel
          clear hT6
          by_cases hlt : (j : Int) < m.length
          · have hj' : j < m.length := by omega
            have j0 : (0 : Int) ≤ j := by omega
            rcases h4 with h4 | ⟨gb, off, rfl, h4⟩
            · omega
            clear h4
            obtain ⟨x0, x1, x2⟩ := hV.at hT.below hj'
            have hft := flt_take 63 m j hj'
            have hfl := flt_len 63 m j
            generalize hM : flt 63 (m.take j) = M at *
            have HM : Hid _ := hM
            clear hM
            generalize m[j] = u at *
            cases hu : (u.n != 63)
            case false =>
              have HT : Hid (flt 63 (m.take (j + 1)) = M) := by show _ = _; rw [hft, hu]; simp
              clear hft
              go_wp2_with fail
              go_roundg (gk - 1)
              case rel => exact ⟨j + 1, by omega, by go_num, by rw [HT.out]; exact hO, hz, hT⟩
              case measure => omega
            case true =>
              have HT : Hid (flt 63 (m.take (j + 1)) = M ++ [u]) := by show _ = _; rw [hft, hu]; simp
              clear hft
              have bc := below_alloc wr (.cells #[.int .i64 u.n, .int .u64 u.i, .int .i64 u.s] 29)
              have hO3 := hO.below bc
              have hT3 := hT.later bc
              have hU3 := Ru.one (u := u) (Bx.new 29 u.n u.i u.s wr)
              have hz3 : w6.heap.size ≤ (wr.alloc (.cells #[.int .i64 u.n, .int .u64 u.i, .int .i64 u.s] 29)).heap.size := Nat.le_trans hz bc.size
              go_wp2_with (at_builtin; refine wpList_app _ rfl (.tmp 95) (.tmp 100) rfl w6.heap.size _ M rfl hO3 hz3 wr.heap.size 0 1 [u] 1 rfl rfl hU3 (by simp; omega) ?_; intro v' w' h1 h3 h4)
              have hT4 := hT3.grown hO3 hpB hqB h3
              have hz4 := Nat.le_trans hz3 h3.size
              clear h3 h4 hU3 hO3 hT3
              go_roundg (gk - 1)
              case rel => exact ⟨j + 1, by omega, by go_num, by rw [HT.out]; exact h1, hz4, hT4⟩
              case measure => omega
          · obtain rfl : j = m.length := by omega
            rw [List.take_length] at hO
            have hlx : (flt 63 m).length ≤ 60 := by have := flt_len 63 m m.length; rw [List.take_length] at this; omega
            have hox : ∀ u ∈ flt 63 m, InOk u := fun u hu => hin2 u (flt_mem hu).1
            have hf63b := hearAll_at (flt 63 m) (j := 63) (by omega) hIf (fun u hu => ⟨hox u hu, (flt_mem hu).2⟩)
            have hIf2 := hearAll_inv (flt 63 m) hIf hox
            have hgr := hearAll_grow (flt 63 m) hIf hox
            have hc := hearAll_code (k := k) (flt 63 m) f1
            rw [hf63] at hf63b
            clear h4 hV hin2
            go_wp2_with fail
            refine (merge_any p k f1 _ (flt 63 m) hk64 _ hT.one hO.ru (fun _ => hO.ne hpB) (by omega) hox).mono ?_
            generalize hearAllS k f1 (flt 63 m) = r at *
            obtain ⟨e3, f2⟩ := r
            dsimp only at hf63b hIf2 hc hgr ⊢
            rintro e w7 ⟨⟨v7, rfl, hO7⟩, hR7, hb7⟩
            have hT7 := hT.first hR7 hb7
            have hqr := hT.two.lt
            clear hO hR7 hb7 hT hz hlx hox hpB hqB hwB
            rcases hc with rfl | rfl
            case inr =>
              obtain ⟨a7, c7, rfl, _⟩ := hO7.ru
              go_wp2_with fail
              go_ret
              exact ⟨rfl, hT7.below⟩
            case inl =>
              obtain ⟨c2, hgj2⟩ := news_step hIf2 hIg hgr hf63b hgj
              have hokn : ∀ u ∈ newsS f1 f2 0, InOk u := by
                intro u hu
                obtain ⟨j, _, hb, rfl⟩ := mem_pick _ _ _ _ (show u ∈ pickN f2 (fun j => neE (f2 j) (f1 j)) 64 from hu)
                cases hf : f2 j with
                | none => unfold InOk ud; simp
                | some x => exact (hIf2.may j x hf).2.2
              have hlen : (newsS f1 f2 0).length ≤ 64 := pickN_length f2 _ 64
              go_wp2_with fail
              refine (merge_any q 63 g1 _ (newsS f1 f2 0) (by decide) w7 hT7.two hO7.ru (fun _ => hO7.ne hqr) (by omega) hokn).mono ?_
              generalize hearAllS 63 g1 (newsS f1 f2 0) = r at *
              obtain ⟨e4, g2⟩ := r
              dsimp only at c2 hgj2 ⊢
              subst c2
              rintro e w8 ⟨⟨v8, rfl, _⟩, hR8, hb8⟩
              have hT8 := hT7.second hR8 hb8
              clear hO7 hR8 hb8 hT7 hqr hokn hlen
              go_wp2_with fail
              go_loopg [18] 63 (fun gk t18 wr => ∃ n : Nat, n + gk = 63 ∧ t18 = .int .i64 n ∧ Two w p q k 63 f2 g2 wr)
              case atStart => exact ⟨0, by omega, rfl, hT8⟩
              case round =>
                obtain ⟨n, hn, rfl, hT⟩ := hrel
                clear hT8
                by_cases hlt : (n : Int) < 63
                · have hG1 := fun w' (hR : Rl p k f2 w') => get_any p k n f2 w' hR
                  have hG2 := fun w' (hR : Rl q 63 g2 w') => get_any q 63 n g2 w' hR
                  have e1 : getS g2 n = getS f2 n := by
                    unfold getS
                    rw [if_pos (by omega), if_pos (by omega), Int.toNat_natCast]
                    exact hgj2 n (by omega)
                  rw [e1] at hG2
                  have hq := run_neqU (ud (getS f2 n)) (ud (getS f2 n))
                  rw [eqU_refl] at hq
                  generalize ud (getS f2 n) = u at *
                  generalize (getS f2 n).isSome = c at *
                  clear e1 hgj2
                  go_wp2_with fail
                  refine (hG1 _ hT.one).mono ?_
                  rintro e w9 ⟨rfl, hb9⟩
                  have ba := below_alloc w9 (.cells #[.int .i64 u.n, .int .u64 u.i, .int .i64 u.s] 29)
                  have hX := Bx.new 29 u.n u.i u.s w9
                  have hT9 := (hT.later hb9).later ba
                  clear hb9 ba hT
                  go_wp2_with fail
                  refine (hG2 _ hT9.two).mono ?_
                  rintro e w10 ⟨rfl, hb10⟩
                  have ba := below_alloc w10 (.cells #[.int .i64 u.n, .int .u64 u.i, .int .i64 u.s] 29)
                  have hX2 := (hX.below hb10).below ba
                  have hY := Bx.new 29 u.n u.i u.s w10
                  have hT10 := (hT9.later hb10).later ba
                  clear hb10 ba hT9 hX
                  have x0 := hX2.c0
                  have x1 := hX2.c1
                  have x2 := hX2.c2
                  have y0 := hY.c0
                  have y1 := hY.c1
                  have y2 := hY.c2
                  go_wp2_with fail
                  go_roundg (gk - 1)
                  case rel => exact ⟨n + 1, by omega, by go_num, hT10⟩
                  case measure => omega
                · go_wp2_with fail
                  go_ret
                  exact ⟨rfl, hT.below⟩

set_option maxRecDepth 100000 in
theorem merges_long (me : Int) (a b : Option Addr) (lena capa lenb capb : Nat) (w : World) (hl : (60 : Int) < lena) :
    Calls Try.prog 5 #[.int .u8 me, .slice a lena capa, .slice b lenb capb] w fun e w' => e = .returned (.bool true) ∧ Below w.heap.size w w' := by
  go_enter Try.func5, Try.ntmps5
  go_wp2_with (go_at_call 8; refine (shown_any _).mono ?_; rintro e w1 ⟨rfl, hb1⟩)
  go_ret
  exact ⟨rfl, hb1⟩
set_option maxRecDepth 100000 in
theorem merges_long2 (me : Int) (a b : Option Addr) (lena capa lenb capb : Nat) (w : World) (hl : ¬ (60 : Int) < lena) (hm : (60 : Int) < lenb) :
    Calls Try.prog 5 #[.int .u8 me, .slice a lena capa, .slice b lenb capb] w fun e w' => e = .returned (.bool true) ∧ Below w.heap.size w w' := by
  go_enter Try.func5, Try.ntmps5
  go_wp2_with (go_at_call 8; refine (shown_any _).mono ?_; rintro e w1 ⟨rfl, hb1⟩)
  go_ret
  exact ⟨rfl, hb1⟩

theorem merges_walk (me : Int) (a : Option Addr) (lena capa : Nat) (l : List Upd) (b : Option Addr) (lenb capb : Nat) (m : List Upd) (h : (Lit.int .u8 me).wf = true) (w : World) (hU : IsUpds w a lena capa l) (hV : IsUpds w b lenb capb m) :
    Calls Try.prog 5 #[.int .u8 me, .slice a lena capa, .slice b lenb capb] w fun e w' => e = .returned (.bool true) ∧ Below w.heap.size w w' := by
  have hin := hU.inok
  have hin2 := hV.inok
  obtain ⟨rfl, hR, _⟩ := hU
  obtain ⟨rfl, hR2, _⟩ := hV
  by_cases hl : (60 : Int) < l.length
  · exact merges_long me a b l.length capa m.length capb w hl
  · by_cases hm : (60 : Int) < m.length
    · exact merges_long2 me a b l.length capa m.length capb w hl hm
    · exact merges_core me (bounds_u8 h) a b capa capb l m w hR hR2 hin hin2 (by omega) (by omega)
end Go.Proofs.Ytkodeahhckibmaa
