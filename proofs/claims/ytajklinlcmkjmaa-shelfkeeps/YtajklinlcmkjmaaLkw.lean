/-
  ShelfKeeps: the walk.
-/
import Derived.Test.YtajklinlcmkjmaaLkm
import Derived.Test.YtajklinlcmkjmaaTwn
import Derived.Test.YtajklinlcmkjmaaKpt
import Derived.Deep.CutBlock
import Derived.Deep.CutRange
namespace Go.Proofs.Ytajklinlcmkjmaa
open Go.RowKit Go.Maps

/-- What stands between two rounds. -/
def Kw (p b : Nat) (w0 : World) (r : Int) (c : Int) (i : Nat) (w : World) : Prop :=
  (∃ low R f n, Kp low R f n i ∧ low ≤ c ∧ r ≤ reachR low R ∧ Sf p low R w ∧ Mm b f n w) ∧ Below w0.heap.size w0 w

/-- What a round finds, in a world that may grow. -/
structure Kj (p b : Nat) (w0 : World) (low : Int) (R : Rng) (f : Int → Option Ms) (n : Nat) (w : World) : Prop where
  s : Sf p low R w
  m : Mm b f n w
  b : Below w0.heap.size w0 w
section
variable {p b : Nat} {w0 : World} {low : Int} {R : Rng} {f : Int → Option Ms} {n : Nat} {w w' : World}
theorem Kj.below (h : Kj p b w0 low R f n w) (k : Below w.heap.size w w') : Kj p b w0 low R f n w' := ⟨h.s.below k, h.m.below k, h.b.trans (k.mono h.b.size)⟩
theorem Kj.drew (h : Kj p b w0 low R f n w) : Kj p b w0 low R f n w.drew := h.below ⟨rfl, rfl, rfl, Nat.le_refl _, fun _ _ => rfl⟩
theorem Kj.on {y : Kept (Kj p b w0 low R f n)} {w' : World} (k : Below y.at_.heap.size y.at_ w') : ∃ z : Kept (Kj p b w0 low R f n), w' = z.at_ := ⟨⟨w', y.is.below k⟩, rfl⟩
end

set_option maxRecDepth 100000 in
set_option maxHeartbeats 8000000 in
theorem keeps_core (va vb : Value) (l t : List Int) (w : World) (hR : Rn va l w) (hB : Bytes l) (hT : Rn vb t w) (hBt : Bytes t) :
    Calls Try.prog 4 #[va, vb] w fun e w' => e = .returned (.bool true) ∧ Below w.heap.size w w' := by
  obtain ⟨aa, capa, rfl, ha3⟩ := id hR
  obtain ⟨ab, capb, rfl, hb3⟩ := id hT
  by_cases hla : 150 < l.length
  · have z1 : decide ((150 : Int) < (l.length : Int)) = true := decide_eq_true (by omega)
    have z1N : decide (150 < l.length) = true := decide_eq_true hla
    go_enter Try.func4, Try.ntmps4
    go_wp2_with fail
    refine (shown_any _).mono ?_
    rintro e w1 ⟨rfl, hb⟩
    go_wp2_with fail
    go_ret
    exact ⟨rfl, hb⟩
  have z1 : decide ((150 : Int) < (l.length : Int)) = false := decide_eq_false (by omega)
  have z1N : decide (150 < l.length) = false := decide_eq_false hla
  by_cases hlb : 150 < t.length
  · have z2 : decide ((150 : Int) < (t.length : Int)) = true := decide_eq_true (by omega)
    have z2N : decide (150 < t.length) = true := decide_eq_true hlb
    go_enter Try.func4, Try.ntmps4
    go_wp2_with fail
    refine (shown_any _).mono ?_
    rintro e w1 ⟨rfl, hb⟩
    go_wp2_with fail
    go_ret
    exact ⟨rfl, hb⟩
  have z2 : decide ((150 : Int) < (t.length : Int)) = false := decide_eq_false (by omega)
  have z2N : decide (150 < t.length) = false := decide_eq_false hlb
  have hll : (l.length : Int) ≤ 150 := by omega
  have htl : (t.length : Int) ≤ 150 := by omega
  have hz := run_zero_shelf
  have hn := shelf_zero_ne
  have hS0 := fun w => Sf.new w
  have b0 := fun w => below_alloc w (.cells (shC 0 R0).toArray 32)
  generalize (shC 0 R0).toArray = A at *
  go_enter Try.func4, Try.ntmps4
  go_wp2_with fail
  refine (shown_any _).mono ?_
  rintro e w1 ⟨rfl, hb1⟩
  have hS1 := hS0 w1
  have hB1 := hb1.trans ((b0 w1).mono hb1.size)
  have hp : w.heap.size ≤ w1.heap.size := hb1.size
  have hs2 : (w1.alloc (.cells A 32)).heap.size = w1.heap.size + 1 := by simp
  have b2 := below_alloc (w1.alloc (.cells A 32)) (.map #[] 0)
  have hM2 := Mm.made (w1.alloc (.cells A 32))
  rw [hs2] at hM2
  have hS2 := hS1.below b2
  have hB2 := hB1.trans (b2.mono hB1.size)
  have hmm := @run_makeMap Try.prog 50 (w1.alloc (.cells A 32))
  go_wp2_with fail
  clear hz hn hS0 b0 b2 hmm
  go_loopg [7, 8] l.length (fun gk t7 t8 wr => ∃ i : Nat, i + gk = l.length ∧ t8 = .int .i64 i ∧ ∃ r : Int, t7 = .int .u64 r ∧ Kw w1.heap.size (w1.heap.size + 1) w r (64 * (i : Int)) i wr)
  case atStart => exact ⟨0, by omega, rfl, 0, rfl, ⟨0, R0, _, 0, Kp.zero, by omega, reachR_ge _ _, hS2, hM2⟩, hB2⟩
  case round =>
    obtain ⟨i, hi, rfl, r, rfl, ⟨low, R, f, n, hK, hlow, hr, hS, hM⟩, hB⟩ := hrel
    have i0 : (0 : Int) ≤ i := by omega
    have l0 := hK.l0
    by_cases hlt : (i : Int) < l.length
    · have hil : i < l.length := by omega
      have hll1 : low ≤ 1000000 := by omega
      rcases ha3 with ha3 | ⟨ga, offa, rfl, ha3⟩
      · omega
      have hJ : Kj w1.heap.size (w1.heap.size + 1) w low R f n wr := ⟨hS, hM, hB⟩
      have hne : Nonempty (Kept (Kj w1.heap.size (w1.heap.size + 1) w low R f n)) := ⟨⟨_, hJ⟩⟩
      have q0 : ∀ y : Kept (Kj w1.heap.size (w1.heap.size + 1) w low R f n), y.at_.cell? ⟨ga, offa + i, none⟩ = some (.int .u8 l[i]) := fun y => (hR.below y.is.b).at hil
      rename Bytes l => hBy
      have hb0 := hBy _ (List.getElem_mem hil)
      clear ha3 hBy
      generalize l[i] = x at *
      obtain ⟨X, x1, x2, hX⟩ : ∃ X : Nat, x % 80 = X ∧ x.tmod 80 = X ∧ X ≤ 79 := ⟨(x % 80).toNat, by omega, by rw [Int.tmod_eq_emod_of_nonneg hb0.1]; omega, by omega⟩
      have hX' : (X : Int) ≤ 79 := by omega
      have hX0 : 0 ≤ (X : Int) := by omega
      obtain ⟨I, j1, j2, hI⟩ : ∃ I : Nat, (i : Int) % 64 = I ∧ (i : Int).tmod 64 = I ∧ I ≤ 63 := ⟨i % 64, by omega, by rw [Int.tmod_eq_emod_of_nonneg i0]; omega, by omega⟩
      go_upto_region 9 with fail
      refine wp_region_kept (Kj w1.heap.size (w1.heap.size + 1) w low R f n) (by kernel_rfl) (by kernel_rfl) hJ.drew ?_
      repeat (go_big_quiet_step (fail))
      go_big_quiet_step ((rename_i yk; refine (slow_any _ _ _ _ yk.is.s).mono ?_; rintro e w7 ⟨rfl, rfl⟩; exact ⟨rfl, ⟨yk, rfl⟩⟩))
      repeat (go_big_quiet_step (fail))
      refine wpQuiet_nil ?_
      intro w3 h3
      clear q0 hne hJ
      -- the message, and whether it was there
      have a4 := below_alloc w3 (.cells #[.int .i64 I, .int .u64 i, .string ⟨#[]⟩] 27)
      have h4 := h3.below a4
      have hm4 : Bm w3.heap.size ⟨I, i, ⟨#[]⟩⟩ (w3.alloc (.cells #[.int .i64 I, .int .u64 i, .string ⟨#[]⟩] 27)) := Bm.new ⟨I, i, ⟨#[]⟩⟩ w3
      obtain ⟨w4, hw4⟩ : ∃ w4, Hid (w4 = w3.alloc (.cells #[.int .i64 I, .int .u64 i, .string ⟨#[]⟩] 27)) := ⟨_, rfl⟩
      rw [← hw4.out] at a4 h4 hm4
      have hlk := h4.m.look (x := low + 1 + X) (by omega) (by omega)
      go_upto_region 11 with fail
      rw [← hw4.out]
      have hth := hK.there (x := low + 1 + X) (by omega)
      rw [hth] at hlk
      generalize (f (low + 1 + X)).getD zM = gl at *
      have a5 := below_alloc w4 (.cells #[.int .i64 gl.s, .int .u64 gl.m, .string gl.x] 27)
      have h5 := h4.below a5
      have hm5 := hm4.below a5
      have m0 := hm5.c0
      have m1 := hm5.c1
      have m2 := hm5.c2
      have hput := sput_any w1.heap.size low R (low + 1 + X) ⟨I, i, ⟨#[]⟩⟩ (by omega) (by omega) l0 hll1 _ h5.s
      rw [hK.putE rfl (by omega) (by omega)] at hput
      obtain ⟨hb, HB⟩ : ∃ hb, Hid (hasR low R (low + 1 + X) = hb) := ⟨_, rfl⟩
      rw [HB.out] at hlk hput hth
      have hR1 := hK.putR (x := low + 1 + X) (g := ⟨I, i, ⟨#[]⟩⟩) rfl (by omega) (by omega)
      rw [HB.out] at hR1
      rw [hR1] at hput
      obtain ⟨E, HE⟩ : ∃ E : Int, Hid ((if hb = true then 4 else if 64 < low + 1 + (X : Int) - low then 2 else 0) = E) := ⟨_, rfl⟩
      rw [HE.out] at hput
      obtain ⟨R1, HR1⟩ : ∃ R1 : Rng, Hid ((if hb = false ∧ low + 1 + (X : Int) - low ≤ 64 then R.set ((low + 1 + (X : Int)) % 64).toNat ⟨low + 1 + X, ⟨I, i, ⟨#[]⟩⟩⟩ else R) = R1) := ⟨_, rfl⟩
      rw [HR1.out] at hput
      have hmb : w1.heap.size + 1 ≠ w1.heap.size := by omega
      have h3p : w1.heap.size < w3.heap.size := h3.s.lt
      have h3b : w1.heap.size + 1 < w3.heap.size := h3.m.lt
      clear hR1
      go_upto_block 2 with (go_at_call 9; refine hput.mono ?_; rintro e w6 ⟨rfl, hS6, hb6⟩)
      have hM6 := h5.m.but hb6 hmb
      have hB6 : Below w.heap.size w w6 := h5.b.trans ((hb6.mono (B := w.heap.size) h5.b.size).to hp)
      have hm6 := hm5.but hb6 (by omega)
      have n0 := hm6.c0
      have n1 := hm6.c1
      have n2 := hm6.c2
      clear m0 m1 m2 hm5 hm4 hlk a4 a5 h5 hb6 hput
      go_cut [] from 66 to 82 (fun wx => ∃ R' f' n', Kp low R' f' n' (i + 1) ∧ reachR low R ≤ reachR low R' ∧ Kj w1.heap.size (w1.heap.size + 1) w low R' f' n' wx)
      case first =>
        cases hb
        case true =>
          have hE : E = 4 := by rw [← HE.out]; rfl
          have hR1 : R1 = R := by rw [← HR1.out]; rfl
          subst hE
          subst hR1
          clear n0 n1 n2 HE HR1
          go_wp2_with fail
          go_meet
          exact ⟨R1, f, n, hK.skip, Int.le_refl _, ⟨hS6, hM6, hB6⟩⟩
        case false =>
          by_cases hX64 : (X : Int) < 64
          · have hE : E = 0 := by rw [← HE.out, if_neg (by simp), if_neg (by omega)]
            have hR1 : R1 = R.set ((low + 1 + (X : Int)) % 64).toNat ⟨low + 1 + X, ⟨I, i, ⟨#[]⟩⟩⟩ := by rw [← HR1.out, if_pos ⟨rfl, by omega⟩]
            subst hE
            have hfin := hK.put (x := low + 1 + X) (g := ⟨I, i, ⟨#[]⟩⟩) (by omega) (by omega) HB.out
            have hrr := put_reach hK.ri (⟨I, i, ⟨#[]⟩⟩ : Ms) (n := low + 1 + X) (by omega) (by omega) l0 HB.out
            rw [← hR1] at hfin hrr
            obtain ⟨w7, hmu, hM7, hg7⟩ := hM6.put (x := low + 1 + X) ⟨I, i, ⟨#[]⟩⟩ (by omega) (by omega) (by have := hK.n1; omega)
            rw [hth] at hM7
            have y1 : decide (low + 64 < low + 1 + (X : Int)) = false := decide_eq_false (by omega)
            have hS7 := hS6.keep (w' := w7) (hg7.block _ hS6.lt (by simp))
            have hB7 : Below w.heap.size w w7 := hB6.trans ⟨hg7.os, hg7.tape, hg7.output, hg7.size, fun k hk => hg7.block k (Nat.lt_of_lt_of_le hk hB6.size) (by simp; omega)⟩
            clear HE HR1 hR1 hth
            go_wp2_with (go_at_call 15; refine (slow_any _ _ _ _ hS6).mono ?_; rintro e w8 ⟨rfl, rfl⟩)
            go_meet
            exact ⟨R1, _, _, hfin, hrr, ⟨hS7, hM7, hB7⟩⟩
          · have hE : E = 2 := by rw [← HE.out, if_neg (by simp), if_pos (by omega)]
            have hR1 : R1 = R := by rw [← HR1.out, if_neg (fun h => by have := h.2; omega)]
            subst hE
            subst hR1
            have y1 : decide (low + 64 < low + 1 + (X : Int)) = true := decide_eq_true (by omega)
            clear n0 n1 n2 HE HR1
            go_wp2_with (go_at_call 15; refine (slow_any _ _ _ _ hS6).mono ?_; rintro e w8 ⟨rfl, rfl⟩)
            go_meet
            exact ⟨R1, f, n, hK.skip, Int.le_refl _, ⟨hS6, hM6, hB6⟩⟩
      case rest =>
      obtain ⟨R', f', n', hK', hrr, hJ'⟩ := hcut
      have hr' : r ≤ reachR low R' := Int.le_trans hr hrr
      have hr64 := reachR_le low R'
      have hrge := reachR_ge low R'
      clear n0 n1 n2 hm6 hB6 hM6 hS6 HE HR1 HB hth hK hr hrr hS hM hB h3
      go_upto_region 22 with fail
      obtain ⟨C, hC1, hC0⟩ : ∃ C : Bool, Hid (C = true → ∃ h : i < t.length, t[i] % 4 = 0) ∧ Hid (C = false → ¬ ∃ h : i < t.length, t[i] % 4 = 0) :=
        ⟨decide (∃ h : i < t.length, t[i] % 4 = 0), fun h => of_decide_eq_true h, fun h => of_decide_eq_false h⟩
      go_cut [94] from 83 to 94 (fun t94 wx => t94 = .bool C ∧ Kj w1.heap.size (w1.heap.size + 1) w low R' f' n' wx)
      case first =>
        by_cases hit : i < t.length
        · have v1 : decide ((i : Int) < (t.length : Int)) = true := decide_eq_true (by omega)
          have v1N : decide (i < t.length) = true := decide_eq_true hit
          rcases hb3 with hb3 | ⟨gb, offb, rfl, hb3⟩
          · omega
          have d0 := (hT.below hJ'.b).at hit
          have hy0 := hBt _ (List.getElem_mem hit)
          have hC1' : Hid (C = true → t[i] % 4 = 0) := fun h => (hC1.out h).2
          have hC0' : Hid (C = false → ¬ t[i] % 4 = 0) := fun h e => hC0.out h ⟨hit, e⟩
          clear hb3 hC1 hC0
          generalize t[i] = y at *
          obtain ⟨Y, p1, p2, hY⟩ : ∃ Y : Nat, y % 4 = Y ∧ y.tmod 4 = Y ∧ Y ≤ 3 := ⟨(y % 4).toNat, by omega, by rw [Int.tmod_eq_emod_of_nonneg hy0.1]; omega, by omega⟩
          by_cases hY0 : Y = 0
          · subst hY0
            have hCt : C = true := by
              cases C
              · exact absurd (by omega) (hC0'.out rfl)
              · rfl
            subst hCt
            clear hC1' hC0'
            go_wp2_with fail
            go_meet
            exact ⟨rfl, hJ'⟩
          · have hCf : C = false := by
              cases C
              · rfl
              · exact absurd (hC1'.out rfl) (by omega)
            subst hCf
            have y4 : ((Y : Int) == 0) = false := by simp; omega
            have y4N : (Y == 0) = false := by simp [hY0]
            clear hC1' hC0'
            go_wp2_with fail
            go_meet
            exact ⟨rfl, hJ'⟩
        · have v1 : decide ((i : Int) < (t.length : Int)) = false := decide_eq_false (by omega)
          have v1N : decide (i < t.length) = false := decide_eq_false hit
          have hCf : C = false := by
            cases C
            · rfl
            · exact absurd (hC1.out rfl).1 hit
          subst hCf
          clear hC1 hC0
          go_wp2_with fail
          go_meet
          exact ⟨rfl, hJ'⟩
      case rest =>
      obtain ⟨rfl, hJ3⟩ := hcut
      clear hJ'
      go_upto_if 94 with fail
      go_cut [14] from 95 to 110 (fun t14 wx => ∃ low2 R2, Kp low2 R2 f' n' (i + 1) ∧ low2 ≤ low + 64 ∧ reachR low2 R2 = reachR low R' ∧ Kj w1.heap.size (w1.heap.size + 1) w low2 R2 f' n' wx)
      case first =>
        cases C
        case false =>
          go_wp2_with fail
          go_meet
          exact ⟨low, R', hK', by omega, rfl, hJ3⟩
        case true =>
          obtain ⟨hit, hy4⟩ := hC1.out rfl
          rcases hb3 with hb3 | ⟨gb, offb, rfl, hb3⟩
          · omega
          have hy0 := hBt _ (List.getElem_mem hit)
          have hne : Nonempty (Kept (Kj w1.heap.size (w1.heap.size + 1) w low R' f' n')) := ⟨⟨_, hJ3⟩⟩
          have q0 : ∀ y : Kept (Kj w1.heap.size (w1.heap.size + 1) w low R' f' n'), y.at_.cell? ⟨gb, offb + i, none⟩ = some (.int .u8 t[i]) := fun y => (hT.below y.is.b).at hit
          clear hb3 hy4 hC1 hC0
          generalize t[i] = y at *
          obtain ⟨Z, p3, p4, hZ⟩ : ∃ Z : Nat, y % 5 = Z ∧ y.tmod 5 = Z ∧ Z ≤ 4 := ⟨(y % 5).toNat, by omega, by rw [Int.tmod_eq_emod_of_nonneg hy0.1]; omega, by omega⟩
          have hZ' : (Z : Int) ≤ 4 := by omega
          have hZ0 : 0 ≤ (Z : Int) := by omega
          have hreach := fun w' h => sreach_any w1.heap.size low R' l0 hll1 w' h
          have htrim := fun k hk w' h => strim_yes w1.heap.size low R' k l0 hll1 hK'.ri hk w' h
          have hkt := fun k hk => hK'.trim (k := k) hk
          have htr : ∀ k, k ≤ reachR low R' → reachR (max low k) (trimR R' k) = reachR low R' := fun k hk => trim_reach hK'.ri l0 hk
          generalize reachR low R' = rr at *
          have rr0 : 0 ≤ rr := by omega
          go_upto_region 23 with fail
          refine wp_region_kept (Kj w1.heap.size (w1.heap.size + 1) w low R' f' n') (by kernel_rfl) (by kernel_rfl) hJ3.drew ?_
          repeat (go_big_quiet_step (fail))
          go_big_quiet_step ((rename_i yk; refine (hreach _ yk.is.s).mono ?_; rintro e w7 ⟨rfl, hb7⟩; exact ⟨rfl, Kj.on hb7⟩))
          repeat (go_big_quiet_step (fail))
          go_big_quiet_step ((rename_i yk; refine (hreach _ yk.is.s).mono ?_; rintro e w7 ⟨rfl, hb7⟩; exact ⟨rfl, Kj.on hb7⟩))
          repeat (go_big_quiet_step (fail))
          refine wpQuiet_nil ?_
          intro w5 h5
          obtain ⟨To, hTo⟩ : ∃ To : Int, Hid (rr - (if (Z : Int) < rr then (Z : Int) else rr) = To) := ⟨_, rfl⟩
          have hTo1 : To ≤ rr ∧ 0 ≤ To := by rw [← hTo.out]; split <;> omega
          rw [hTo.out]
          obtain ⟨hTo1, hTo0⟩ := hTo1
          have ht5 := htrim To hTo1 w5 h5.s
          have hkt5 := hkt To hTo1
          have htr5 := htr To hTo1
          clear q0 hne hreach htrim hkt htr hTo
          go_wp2_with (go_at_call 13; refine ht5.mono ?_; rintro e w6 ⟨rfl, hS6, hb6⟩)
          all_goals go_meet
          all_goals exact ⟨_, _, hkt5, by omega, htr5, ⟨hS6, h5.m.but hb6 hmb, h5.b.trans ((hb6.mono (B := w.heap.size) h5.b.size).to hp)⟩⟩
      case rest =>
      obtain ⟨low2, R2, hK2, hl2, hre, hJ2⟩ := hcut
      rw [← hre] at hr'
      have hll2 : low2 ≤ 1000000 := by omega
      have l20 := hK2.l0
      have hn2 := hK2.n1
      have hreach := fun w' h => sreach_any w1.heap.size low2 R2 l20 hll2 w' h
      have hr2 : Hid (reachR low2 R2 = reachR low2 R2) := rfl
      obtain ⟨rr, HRR⟩ : ∃ rr, Hid (reachR low2 R2 = rr) := ⟨_, rfl⟩
      rw [HRR.out] at hreach hr'
      have y1 : decide (rr < r) = false := decide_eq_false (by omega)
      have yN : decide ((1000 : Int) < (n' : Int)) = false := decide_eq_false (by omega)
      have yNN : decide (1000 < n') = false := decide_eq_false (by omega)
      clear hK' hJ3 hre hr2 hr64 hrge hC1 hC0
      go_upto_region 26 with fail
      go_wp2_with fail
      refine (hreach _ hJ2.s).mono ?_
      rintro e w5 ⟨rfl, hb5⟩
      have hJ5 := hJ2.below hb5
      have hlen := hJ5.m.len
      go_wp2_with fail
      refine (hreach _ hJ5.s).mono ?_
      rintro e w6 ⟨rfl, hb6⟩
      have hJ6 := hJ5.below hb6
      obtain ⟨D, hown, hd⟩ := hJ6.m
      have hsz := hd.size
      clear hb5 hb6 hlen
      go_wp2_with (first
        | (at_range; refine wpList_range_own _ rfl _ 50 rfl 25 27 law25 Try.underlying50 _ (w1.heap.size + 1) 1000 D rfl hown ?_; intro w7 hrg0 hg0 hs0)
        | go_in)
      go_frame
      have hit6 : w.heap.size ≤ w6.heap.size := hJ6.b.size
      have hpi : w1.heap.size ≠ w6.heap.size := by have := hJ6.s.lt; omega
      have hbi : w1.heap.size + 1 ≠ w6.heap.size := by have := hJ6.m.lt; omega
      have hJ7 := hJ6.below (w' := w7) ⟨hg0.os, hg0.tape, hg0.output, hg0.size, fun k hk => hg0.block k hk (by simp)⟩
      obtain ⟨gz, hgz⟩ : ∃ gz, gz = gk - 1 := ⟨_, rfl⟩
      obtain ⟨it, hitd⟩ : ∃ it, Hid (w6.heap.size = it) := ⟨_, rfl⟩
      rw [hitd.out] at hrg0 hit6 hpi hbi ⊢
      clear hJ6 hJ5 hJ2 hown hg0 hs0
      go_loopg [15] 1000 (fun gk t15 wr => ∃ (left : Lit → Bool) (cnt : Nat), wr.ranges Try.prog 25 msgElem (w1.heap.size + 1) it 1000 D left cnt ∧ cnt ≤ gk ∧ Kj w1.heap.size (w1.heap.size + 1) w low2 R2 f' n' wr)
      case atStart => exact ⟨_, _, hrg0, by omega, hJ7⟩
      case round =>
        obtain ⟨left, cnt, hrg, hcg, hJr⟩ := hrel
        clear hrg0 hJ7
        go_wp2_with (first
          | (at_next; refine wpList_next_ranges _ rfl _ rfl 25 law25 msgElem (Value.int .u64) (fun g : Ms => Value.agg #[.int .i64 g.s, .int .u64 g.m, .string g.x]) (fun key kl hk => by obtain ⟨x, rfl, _⟩ := Maps.keyOf_int_inv Try.underlying25 hk; exact ⟨x, rfl⟩) (fun v y hv => by obtain ⟨c, rfl, _⟩ := msgElem_inv hv; exact ⟨c, rfl⟩) (w1.heap.size + 1) it 1000 _ _ _ rfl hrg ?_ ?_)
          | go_in)
        · intro hc0 hl0
          go_wp2_with fail
          go_roundg gz
          case rel => exact ⟨i + 1, by omega, by go_num, rr, rfl, ⟨low2, R2, f', n', hK2, by omega, by rw [HRR.out]; exact Int.le_refl _, hJr.s, hJr.m⟩, hJr.b⟩
          case measure => omega
        · intro x g kl yd yp w8 cnt2 hkey hlk hv hat hrg2 hlt hg2 hs2 hen
          obtain ⟨x', ex, rfl, hxw⟩ := Maps.keyOf_int_inv Try.underlying25 hkey
          cases ex
          obtain ⟨hx0, hx1⟩ := u64_of hxw
          have hfx : f' x = some g := by
            have h1 : (f' x).isSome = true := by rw [← hd.has x]; exact has_true_of_atKey hat
            obtain ⟨g2, hg2'⟩ := Option.isSome_iff_exists.1 h1
            have h2 := hd.at_ x g2 hg2' .nil
            rw [hat .nil] at h2
            have h3 : msgElem (.agg #[.int .i64 g.s, .int .u64 g.m, .string g.x]) = some (yd, yp) := hv
            rw [msgElem_mk] at h3
            cases h3
            rw [hg2', datM_inj h2]
          obtain ⟨gx1, gx2, hget⟩ := hK2.get hfx
          have hJ8 : Kj w1.heap.size (w1.heap.size + 1) w low2 R2 f' n' w8 := ⟨hJr.s.keep (hg2.block _ hJr.s.lt (by simp; omega)), hJr.m.keep (hg2.block _ hJr.m.lt (by simp; omega)), hJr.b.trans ⟨hg2.os, hg2.tape, hg2.output, hg2.size, fun k hk => hg2.block k (Nat.lt_of_lt_of_le hk hJr.b.size) (by simp; omega)⟩⟩
          clear hkey hlk hv hat hrg hg2 hs2 hJr hfx
          have a9 := below_alloc w8 (.cells #[.int .i64 g.s, .int .u64 g.m, .string g.x] 27)
          have hJ9 := hJ8.below a9
          have hm9 := Bm.new g w8
          have hrg9 := hrg2.kept (grown_of_below a9) (by simp) (by simp)
          obtain ⟨w9, hw9⟩ : ∃ w9, Hid (w9 = w8.alloc (.cells #[.int .i64 g.s, .int .u64 g.m, .string g.x] 27)) := ⟨_, rfl⟩
          rw [← hw9.out] at a9 hJ9 hm9 hrg9
          have hgt := sget_any w1.heap.size low2 R2 x hx0 w9 hJ9.s
          go_upto_region 32 with fail
          rw [← hw9.out]
          clear hen hrg2 hJ8 a9
          rcases hget with ⟨gx3, gx4⟩ | ⟨gx3, gx4, gx5⟩
          · rw [gx4] at hgt
            have v1 : decide (x ≤ low2) = true := decide_eq_true gx3
            clear gx4
            generalize getM low2 R2 x = gm at *
            go_wp2_with fail
            refine hgt.mono ?_
            rintro e w10 ⟨rfl, hb10⟩
            have hJ10 := hJ9.below hb10
            have hrg10 := hrg9.kept (grown_of_below hb10) (by simp) (by simp)
            have a11 := below_alloc w10 (.cells #[.int .i64 gm.s, .int .u64 gm.m, .string gm.x] 27)
            have hJ11 := hJ10.below a11
            have hrg11 := hrg10.kept (grown_of_below a11) (by simp) (by simp)
            clear hb10 a11 hrg9 hrg10 hJ9
            go_wp2_with fail
            refine (slow_any _ _ _ _ hJ11.s).mono ?_
            rintro e w12 ⟨rfl, rfl⟩
            go_wp2_with fail
            go_roundg (gk - 1)
            case rel => exact ⟨_, cnt2, hrg11, by omega, hJ11⟩
            case measure => omega
          · rw [gx4, gx5] at hgt
            have v1 : decide (x ≤ low2) = false := decide_eq_false (by omega)
            clear gx4 gx5
            go_wp2_with fail
            refine hgt.mono ?_
            rintro e w10 ⟨rfl, hb10⟩
            have hJ10 := hJ9.below hb10
            have hm10 := hm9.below hb10
            have hrg10 := hrg9.kept (grown_of_below hb10) (by simp) (by simp)
            have a11 := below_alloc w10 (.cells #[.int .i64 g.s, .int .u64 g.m, .string g.x] 27)
            have hJ11 := hJ10.below a11
            have hm11 := hm10.below a11
            have hm12 := Bm.new g w10
            have hrg11 := hrg10.kept (grown_of_below a11) (by simp) (by simp)
            have c0 := hm11.c0
            have c1 := hm11.c1
            have c2 := hm11.c2
            have c3 := hm12.c0
            have c4 := hm12.c1
            have c5 := hm12.c2
            have hq := run_neqM g
            clear hb10 a11 hrg9 hrg10 hJ9 hm9 hm10 hm11 hm12
            go_wp2_with fail
            refine (slow_any _ _ _ _ hJ11.s).mono ?_
            rintro e w12 ⟨rfl, rfl⟩
            go_wp2_with fail
            go_roundg (gk - 1)
            case rel => exact ⟨_, cnt2, hrg11, by omega, hJ11⟩
            case measure => omega
    · have hll1 : low ≤ 1000000 := by omega
      have hr64 := reachR_le low R
      have hrge := reachR_ge low R
      have hrc := sreach_any w1.heap.size low R l0 hll1 wr hS
      have htr := fun w' h => strim_no w1.heap.size low R (reachR low R + 1) l0 hll1 (by omega) w' h
      generalize reachR low R = rr at *
      go_wp2_with fail
      refine hrc.mono ?_
      rintro e w5 ⟨rfl, hb5⟩
      have hS5 := hS.below hb5
      have hB5 := hB.trans (hb5.mono hB.size)
      go_wp2_with fail
      refine (htr w5 hS5).mono ?_
      rintro e w6 ⟨rfl, hb6⟩
      go_wp2_with fail
      go_ret
      exact ⟨rfl, hB5.trans (hb6.mono hB5.size)⟩
theorem shelfKeeps_walk (a0 : Option Addr) (len0 cap0 : Nat) (x0 : List Int) (a1 : Option Addr) (len1 cap1 : Nat) (x1 : List Int) (w : World) (w0 : IsBytes w a0 len0 cap0 x0) (w1 : IsBytes w a1 len1 cap1 x1) :
    Calls Try.prog 4 #[.slice a0 len0 cap0, .slice a1 len1 cap1] w fun e w' => e = .returned (.bool true) ∧ Below w.heap.size w w' :=
  keeps_core _ _ x0 x1 w w0.2.1 w0.2.2 w1.2.1 w1.2.2
end Go.Proofs.Ytajklinlcmkjmaa
