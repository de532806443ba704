/-
  RoundFair: each is told once before any is told again; walked.
-/
import Derived.Test.YtnhpkpodeojldaaRfm
namespace Go.Proofs.Ytnhpkpodeojldaa
open Go.RowKit

theorem Sd.store {w0 w w' : World} {B Bp q p b : Nat} {s l : List Int} (h : Sd w0 B Bp q p s l w) (hg : w.grownBy w' (some b)) (hb : b < B) (hq : b ≠ q) (hp : b < Bp ∨ p < b) (h0 : w0.heap.size ≤ b) : Sd w0 B Bp q p s l w' := by
  have hz := h.rn.ltw
  have hl := h.lt.lt
  refine ⟨h.rn.keep hg.size fun g hlt hg' => hg.block g hlt (fun e => ?_), h.lt.keep fun g h1 h2 => hg.block g (by omega) (fun e => ?_), h.be.grown hg h.be.size (fun j hj => by cases hj; exact h0), h.ok, h.sl, h.qp, h.pB, h.q0, h.p0⟩
  · cases e
    rcases hg' with e | e <;> omega
  · cases e
    omega
theorem Sd.drewN {w0 w : World} {B Bp q p : Nat} {s l : List Int} (h : Sd w0 B Bp q p s l w) (n : Nat) : Sd w0 B Bp q p s l (w.drewN n) :=
  ⟨h.rn.keep (Nat.le_refl _) (fun _ _ _ => rfl), h.lt.keep (fun _ _ _ => rfl), ⟨h.be.os, h.be.tape, h.be.output, h.be.size, h.be.block⟩, h.ok, h.sl, h.qp, h.pB, h.q0, h.p0⟩
theorem Sd.keepB {w0 w : World} {B Bp q p : Nat} {s l : List Int} (h : Sd w0 B Bp q p s l w) : B ≤ w.heap.size := h.rn.size

set_option maxRecDepth 100000 in
set_option maxHeartbeats 2000000 in
theorem fair_walk (ob : Int) (la : Option Addr) (llen lcap : Nat) (l : List Int) (n : Int) (ho : (Lit.int .u64 ob).wf = true) (hn : (Lit.int .u8 n).wf = true) (w : World) (hl : Lots w la llen lcap l) :
    Calls Try.prog 4 #[.int .u64 ob, .slice la llen lcap, .int .u8 n] w fun e w' => e = .returned (.bool true) ∧ Below w.heap.size w w' := by
  replace ho := bounds_u64 ho
  replace hn := bounds_u8 hn
  obtain ⟨hR, hok⟩ := hl
  obtain rfl := hR.len
  obtain ⟨bo, rfl⟩ : ∃ bo : Nat, ob = bo := ⟨ob.toNat, by omega⟩
  have hb : bo < lim := by unfold lim; omega
  have hsm := lst_small bo
  have hnd := lst_nodup bo
  have hrg : ∀ x ∈ lst bo, 0 ≤ x ∧ x < 64 := fun x hx => lst_range hx
  have hlist := fun w' => rlist_any bo hb w'
  generalize lst bo = o at *
  have t1 : n.tmod 4 = n % 4 := Int.tmod_eq_emod_of_nonneg hn.1
  obtain ⟨m4, hm4⟩ : ∃ m4 : Nat, n % 4 = m4 := ⟨(n % 4).toNat, by omega⟩
  have hm3 : m4 ≤ 3 := by omega
  rw [hm4] at t1
  obtain ⟨K, hK⟩ : ∃ K : Nat, m4 * o.length = K := ⟨_, rfl⟩
  have hK2 : (m4 : Int) * (o.length : Int) = K := by rw [← hK]; simp
  have hKb : K ≤ 192 := by
    rw [← hK]
    exact Nat.le_trans (Nat.mul_le_mul hm3 hsm) (by decide)
  go_enter Try.func4, Try.ntmps4
  go_wp2_with fail
  refine (hlist w).mono ?_
  rintro e w1 ⟨v1, rfl, ho1, hb1⟩
  have hR1 := hR.below hb1
  obtain ⟨a1, cap1, e', _⟩ := id (Rd.of ho1)
  subst e'
  clear hlist
  by_cases h0 : ((o.length : Int) == 0) = true
  · go_wp2_with fail
    refine (shown_any w1).mono ?_
    rintro e w2 ⟨rfl, hb2⟩
    go_wp2_with fail
    go_ret
    exact ⟨rfl, hb1.trans (hb2.mono hb1.size)⟩
  rw [Bool.not_eq_true] at h0
  by_cases hlen : (500 : Int) < l.length
  · go_wp2_with fail
    refine (shown_any w1).mono ?_
    rintro e w2 ⟨rfl, hb2⟩
    go_wp2_with fail
    go_ret
    exact ⟨rfl, hb1.trans (hb2.mono hb1.size)⟩
  have hll : (l.length : Int) ≤ 500 := by omega
  go_wp2_with fail
  refine (shown_any w1).mono ?_
  rintro e w2 ⟨rfl, hb2⟩
  have hR2 := hR1.below hb2
  have n3 := heap_alloc_new w2 (.cells #[.slice none 0 0] 28)
  have b3 := below_alloc w2 (.cells #[.slice none 0 0] 28)
  obtain ⟨w3, HW3⟩ : ∃ w3, Hid (w3 = w2.alloc (.cells #[.slice none 0 0] 28)) := ⟨_, rfl⟩
  rw [← HW3.out] at n3 b3
  have z3 : w2.heap.size < w3.heap.size := (Array.getElem?_eq_some_iff.1 n3).1
  go_upto_region 5 with fail
  rw [← HW3.out]
  go_wp2_with fail
  refine (new_any _ l w3 (by omega) (hR2.below b3)).mono ?_
  rintro e w4 ⟨⟨p, rfl, hL4⟩, hb4⟩
  have hC := Mo.made w4
  have b5 := below_alloc w4 (.map #[] 0)
  have hmm := @run_makeMap Try.prog 52 w4
  obtain ⟨w5, HW5⟩ : ∃ w5, Hid (w5 = w4.alloc (.map #[] 0)) := ⟨_, rfl⟩
  rw [← HW5.out] at hC b5 hmm
  have z5 : w4.heap.size < w5.heap.size := hC.lt
  have z4 := hb4.size
  have z2 := hb2.size
  have b15 : Below w1.heap.size w1 w5 := ((hb2.trans (b3.mono z2)).trans (hb4.mono (by omega))).trans (b5.mono (by omega))
  have hS : Sd w1 w5.heap.size w3.heap.size w2.heap.size p [] l w5 := ⟨Rn.new _ _ _ _ (((b5.block _ (by omega)).trans (hb4.block _ z3)).trans n3) (by omega) (Nat.le_refl _), hL4.below b5, b15, hok, by simp, Or.inl z3, by have := hL4.lt; omega, by omega, by omega⟩
  have pb : p < w4.heap.size := hL4.lt
  have pB : w3.heap.size ≤ p := hL4.le
  have hown : ∀ g, (Value.slice a1 o.length cap1).ownBlock = some g → g < w1.heap.size := fun g hg => (ho1.lt g hg).2
  have hRo := Rd.of ho1
  have h1p : w1.heap.size ≤ p := by omega
  have h1q : w1.heap.size ≤ w2.heap.size := z2
  have hbB : w4.heap.size < w5.heap.size := z5
  have hbq : w4.heap.size ≠ w2.heap.size := by omega
  have h1b : w1.heap.size ≤ w4.heap.size := by omega
  clear hL4 n3 b3 hR1 hR2 hb2 hb4 b5 ho1 b15 z2 z3 z4 z5
  generalize w5.heap.size = B at *
  generalize w4.heap.size = bm at *
  generalize w3.heap.size = Bp at *
  generalize w2.heap.size = q at *
  have hN0 : 0 < o.length := by
    rw [beq_eq_false_iff_ne] at h0
    omega
  have hI : Inv o [] [] 0 0 (fun _ => none) 0 := Inv.start hN0
  have hnz : (o.length : Int) ≠ 0 := by omega
  have hN64 : (o.length : Int) ≤ 64 := by omega
  have hw2 : IntKind.i64.wrap (2 * (o.length : Int)) = 2 * (o.length : Int) := by simp [IntKind.wrap, IntKind.bits, IntKind.signed]; omega
  have hw3 : IntKind.i64.wrap (2 * (o.length : Int) - 2) = 2 * (o.length : Int) - 2 := by simp [IntKind.wrap, IntKind.bits, IntKind.signed]; omega
  go_wp2_with fail
  go_loopg [12] K (fun gk t12 wr => ∃ (i m nn : Nat) (T s l' : List Int) (f : Int → Option Int), i + gk = K ∧ t12 = .int .i64 i ∧ Hid (Inv o T s m i f nn) ∧ Sd w1 B Bp q p s l' wr ∧ Mo bm f nn wr ∧ nn ≤ 64)
  case atStart => exact ⟨0, 0, 0, [], [], l, _, by omega, rfl, hI, hS, hC, by omega⟩
  case round =>
    obtain ⟨i, m, nn, T, s, l', f, hik, rfl, HI, hS, hC, hnn⟩ := hrel
    by_cases hlt : (i : Int) < K
    · obtain ⟨a, s', l2, hnx, hao, haT, hpm⟩ := HI.out.next hnd l'
      obtain ⟨T', m', hI'⟩ := HI.out.step hao haT hpm
      have hbf := fun y hy => HI.out.before hao haT (y := y) hy
      have hnn' : (if (f a).isSome then nn else nn + 1) ≤ 64 := by
        have h1 := hI'.size
        have h2 := hI'.lt
        rw [h1]
        split <;> omega
      have hYo : Yl q p (.slice a1 o.length cap1) o wr := ⟨hRo.below hS.be, fun g hg => by have := hown g hg; omega⟩
      have hcall := snext hS _ o (by omega) hYo
      rw [hnx] at hcall
      obtain ⟨ha0, ha1⟩ := hrg a hao
      have HI' : Hid _ := hI'
      clear hI' hao haT hpm hnx HI hYo
      go_wp2_with fail
      refine hcall.mono ?_
      rintro e w6 ⟨rfl, hS6, hM6⟩
      have hC6 : Mo bm f nn w6 := hC.keep (hM6.block bm hC.lt hbq (by omega))
      have hlook := hC6.look ha0 ha1
      have hput := fun N => Mo.put (w := w6.drewN N) (hC6.keep rfl) ha0 ha1 (y := (i : Int)) (by omega) (by omega)
      clear hcall hS hC hM6
      cases hfa : f a with
      | none =>
        rw [hfa] at hlook hput hnn' HI'
        simp only [Option.getD_none, Option.isSome_none, Bool.false_eq_true, if_false] at hlook hput hnn' HI'
        clear hbf
        go_wp2_with fail
        go_quiet (fail)
        obtain ⟨w7, hrun, hC7, hg7⟩ := hput nq
        have hS7 := Sd.store (hS6.drewN nq) hg7 hbB hbq (Or.inr pb) h1b
        clear hput
        go_wp2_with fail
        go_roundg (gk - 1)
        case rel => exact ⟨i + 1, m', nn + 1, T', s', l2, _, by omega, by go_num, HI', hS7, hC7, hnn'⟩
        case measure => omega
      | some y =>
        rw [hfa] at hlook hput hnn' HI'
        simp only [Option.getD_some, Option.isSome_some, if_true] at hlook hput hnn' HI'
        obtain ⟨j, rfl, hj1, hj2, hj3⟩ := hbf y hfa
        have hq1 : Int.tdiv (j : Int) (o.length : Int) = ((j / o.length : Nat) : Int) := rfl
        have hq2 : Int.tdiv (i : Int) (o.length : Int) = ((i / o.length : Nat) : Int) := rfl
        have hq3 : (((j / o.length : Nat) : Int) == ((i / o.length : Nat) : Int)) = false := by rw [beq_eq_false_iff_ne]; omega
        have hjl : j / o.length ≤ j := Nat.div_le_self _ _
        have hil : i / o.length ≤ i := Nat.div_le_self _ _
        generalize hjd : j / o.length = jd at *
        generalize hid : i / o.length = id_ at *
        have HJ : Hid _ := hjd
        have HJ2 : Hid _ := hid
        clear hjd hid hbf hj1
        have hwa : IntKind.i64.wrap (jd : Int) = jd := by simp [IntKind.wrap, IntKind.bits, IntKind.signed]; omega
        have hwb : IntKind.i64.wrap (id_ : Int) = id_ := by simp [IntKind.wrap, IntKind.bits, IntKind.signed]; omega
        have hwc : IntKind.i64.wrap ((i : Int) - (j : Int)) = (i : Int) - (j : Int) := by simp [IntKind.wrap, IntKind.bits, IntKind.signed]; omega
        have hwd : IntKind.i64.wrap ((i : Int) - (j : Int) - 1) = (i : Int) - (j : Int) - 1 := by simp [IntKind.wrap, IntKind.bits, IntKind.signed]; omega
        have hge : decide (2 * (o.length : Int) - 2 < (i : Int) - (j : Int) - 1) = false := by rw [decide_eq_false_iff_not]; omega
        go_wp2_with fail
        go_quiet (fail)
        obtain ⟨w7, hrun, hC7, hg7⟩ := hput nq
        have hS7 := Sd.store (hS6.drewN nq) hg7 hbB hbq (Or.inr pb) h1b
        clear hput
        go_wp2_with fail
        go_roundg (gk - 1)
        case rel => exact ⟨i + 1, m', nn, T', s', l2, _, by omega, by go_num, HI', hS7, hC7, hnn'⟩
        case measure => omega
    · obtain rfl : i = K := by omega
      obtain ⟨hall, hsz⟩ := HI.out.end_ hK.symm
      have hlen7 := fun ty => hC.len ty
      have hlook := fun x h0 h1 => hC.look (x := x) h0 h1
      have hbe := hS.be
      have hRr := hRo.below hS.be
      have HK : Hid _ := hK
      have HK2 : Hid _ := hK2
      clear hK hK2 HI hC hS hik hI
      generalize wr = w8 at *
      go_wp2_with fail
      go_loopg [17] o.length (fun gk2 t17 wq => ∃ j : Nat, j + gk2 = o.length ∧ t17 = .int .i64 j ∧ wq = w8)
      case atStart => exact ⟨0, by omega, rfl, rfl⟩
      case round =>
        obtain ⟨j, hj, rfl, rfl⟩ := hrel
        by_cases hlt2 : (j : Int) < o.length
        · have hjl : j < o.length := by omega
          have j0 : (0 : Int) ≤ j := by omega
          obtain ⟨g8, o8, e8, c8⟩ := hRr.at j hjl
          subst e8
          have hx := List.getElem_mem hjl
          have hk1 := hlook _ (hrg _ hx).1 (hrg _ hx).2
          have hk2 := hall _ hx
          rw [hk2] at hk1
          generalize hy : o[j] = y at *
          generalize (f y).getD 0 = v at *
          have HY : Hid _ := hy
          clear hy hall hlook hk2
          by_cases hpos : 0 < i
          · rw [decide_eq_true hpos] at hk1
            have hpi : (0 : Int) < (i : Int) := by omega
            go_wp2_with fail
            go_roundg (gk - 1)
            case rel => exact ⟨j + 1, by omega, by go_num, rfl⟩
            case measure => omega
          · rw [decide_eq_false hpos] at hk1
            have hpi : ¬ (0 : Int) < (i : Int) := by omega
            go_wp2_with fail
            go_roundg (gk - 1)
            case rel => exact ⟨j + 1, by omega, by go_num, rfl⟩
            case measure => omega
        · rcases hsz with hsz | hsz
          · have hee : ((nn : Int) == (o.length : Int)) = true := by rw [hsz]; simp
            go_wp2_with fail
            go_ret
            exact ⟨rfl, hb1.trans (hbe.mono hb1.size)⟩
          · have hee : ((i : Int) == 0) = true := by rw [hsz]; rfl
            cases hne : ((nn : Int) == (o.length : Int))
            all_goals
              go_wp2_with fail
              go_ret
              exact ⟨rfl, hb1.trans (hbe.mono hb1.size)⟩
end Go.Proofs.Ytnhpkpodeojldaa
