/-
  Drop; the closure that reckons a doubt's end, and the reference's later.
-/
import Derived.Test.YtahiiieifdhgeaaDke
namespace Go.Proofs.Ytahiiieifdhgeaa
open Go.RowKit Go.Maps

set_option maxRecDepth 100000 in
set_option maxHeartbeats 1000000 in
theorem drop_none (p : Nat) (n : Int) (hn : (Lit.int .i64 n).wf = true) (w : World) (hQ : Du p none [] w) :
    Calls Try.prog 11 #[.pointer (some ⟨p, 0, none⟩), .int .i64 n] w fun e w' => e = .returned (.bool false) ∧ Below w.heap.size w w' := by
  have hl := look_any hQ hn
  rw [show hasD [] n = false from rfl, show getD [] n = zD from rfl] at hl
  generalize zD = x at hl
  have hc := hQ.c
  have ba := below_alloc w (dC x 55)
  have hc2 := (hQ.below ba).c
  have hd := fun w => del_nil n hn 0 w
  unfold dV at hl
  unfold dC at ba hc2
  go_enter Try.func11, Try.ntmps11
  go_wp2_with fail
  go_ret
  exact ⟨rfl, ba⟩

set_option maxHeartbeats 1000000 in
theorem drop_some (p b : Nat) (L : List Dbt) (n : Int) (hn : (Lit.int .i64 n).wf = true) (w : World) (hQ : Du p (some b) L w) :
    Calls Try.prog 11 #[.pointer (some ⟨p, 0, none⟩), .int .i64 n] w fun e w' => e = .returned (.bool (hasD L n)) ∧ Du p (some b) (lessD L n) w' ∧ Mv p (some b) (some b) w w' := by
  have hl := look_any hQ hn
  have hc := hQ.c
  have ba := below_alloc w (dC (getD L n) 55)
  have hQ2 := hQ.below ba
  have hc2 := hQ2.c
  obtain ⟨w4, hrun, h4, hg⟩ := (hQ2.some_ b rfl).del hQ.di hn 0
  have hmv : Mv p (some b) (some b) w w4 := ⟨hg.os.trans ba.os, hg.tape.trans ba.tape, hg.output.trans ba.output, Nat.le_trans ba.size hg.size, fun k hk _ hm => (hg.block k (Nat.lt_of_lt_of_le hk ba.size) hm).trans (ba.block k hk), Or.inl rfl⟩
  have hne := hQ.ne b rfl
  have hQ4 : Du p (some b) (lessD L n) w4 := ⟨hQ.di.less n, (hg.block p hQ2.lt (by simpa using Ne.symm hne)).trans hQ2.heap, (fun e => by cases e), (fun b' e => by cases e; exact h4)⟩
  clear hg h4
  unfold dV at hl
  unfold dC at ba hc2 hrun
  clear ba hQ2
  generalize hasD L n = h at *
  generalize getD L n = x at *
  go_enter Try.func11, Try.ntmps11
  go_wp2_with fail
  go_ret
  exact ⟨rfl, hQ4, hmv⟩

theorem drop_any (p : Nat) (m : Option Nat) (L : List Dbt) (n : Int) (hn : (Lit.int .i64 n).wf = true) (w : World) (hQ : Du p m L w) :
    Calls Try.prog 11 #[.pointer (some ⟨p, 0, none⟩), .int .i64 n] w fun e w' => e = .returned (.bool (hasD L n)) ∧ Du p m (lessD L n) w' ∧ Mv p m m w w' := by
  cases m with
  | none =>
    obtain rfl := hQ.none_ rfl
    exact (drop_none p n hn w hQ).mono fun e w' ⟨h1, h2⟩ => ⟨h1, hQ.below h2, Mv.of h2⟩
  | some b => exact drop_some p b L n hn w hQ

set_option maxHeartbeats 1000000 in
theorem until_any (pb pn : Nat) (base : Nat) (HB : Hid (base < 2 ^ 64)) (nodes a t : Int) (hn : -9223372036854775808 ≤ nodes ∧ nodes ≤ 9223372036854775807) (a0 : 0 ≤ a) (a1 : a ≤ 18446744073709551615) (t0 : 0 ≤ t) (t1 : t ≤ 64) (w : World)
    (cb : w.cell? ⟨pb, 0, none⟩ = some (.float .f64 base)) (cn : w.cell? ⟨pn, 0, none⟩ = some (.int .i64 nodes)) :
    Calls Try.prog 21 #[.int .u64 a, .int .u64 t, .pointer (some ⟨pb, 0, none⟩), .pointer (some ⟨pn, 0, none⟩)] w fun e w' => e = .returned (.int .u64 (untilS base nodes a t)) ∧ Below w.heap.size w w' := by
  have c0 := fun w => Re.wait_any base nodes t 3 HB hn (by omega) w
  have hW : Hid (Re.waitS (Re.cleanS base 0 Re.K1000) (Re.bitsS nodes) t 3 < 2 ^ 64) := by
    have hK : Re.K1000 < Re.infR := by decide
    have hb : Re.cleanS base 0 Re.K1000 ≤ Re.K1000 := Re.clean_pos HB.out (Nat.le_of_lt hK)
    have hk := (Re.bits_range nodes hn.2).2
    have h1 := (Re.wait_held (t := t) (m := 3) hb hk).2
    have h2 := (Re.great_lt hb hk).2
    have h3 : Re.infR < 2 ^ 64 := by decide
    exact Nat.lt_trans (Nat.lt_of_le_of_lt h1 h2) h3
  have c1 := fun w => Re.ticks_any _ w hW
  unfold untilS tkS
  generalize Re.waitS (Re.cleanS base 0 Re.K1000) (Re.bitsS nodes) t 3 = W at *
  have hk0 : (0 : Int) ≤ (Re.ticksS W : Int) := Int.natCast_nonneg _
  have hk1 : (Re.ticksS W : Int) ≤ 18446744073709551615 := by
    have : Re.ticksS W ≤ 1099511627776 := by
      unfold Re.ticksS
      split
      · omega
      · split
        · omega
        · split
          · omega
          · rename_i h
            refine Re.cei_K40 ?_
            rcases Nat.lt_or_ge W Re.S with hs | hs
            · have hr : Re.key W = W := by
                unfold Re.key Re.ng Re.rung
                rw [Nat.div_eq_of_lt hs, Nat.mod_eq_of_lt hs]
                simp
              omega
            · have := Re.pos_word hW.out (by omega)
              omega
    omega
  generalize (Re.ticksS W : Int) = k at *
  unfold laterS
  have hm0 : (0 : Int) ≤ 18446744073709551615 - a := by omega
  have hm1 : (18446744073709551615 : Int) - a ≤ 18446744073709551615 := by omega
  by_cases hlt : k ≤ 18446744073709551615 - a
  · have er : a + min k (18446744073709551615 - a) = a + k := by omega
    rw [er]
    go_enter Try.func21, Try.ntmps21
    go_wp2_with fail
    refine (c0 _).mono ?_
    rintro e w1 ⟨rfl, hb⟩
    go_wp2_with fail
    refine (c1 _).mono ?_
    rintro e w2 ⟨rfl, rfl⟩
    go_wp2_with fail
    all_goals (go_ret; exact ⟨by simp <;> omega, hb⟩)
  · have er : a + min k (18446744073709551615 - a) = 18446744073709551615 := by omega
    rw [er]
    go_enter Try.func21, Try.ntmps21
    go_wp2_with fail
    refine (c0 _).mono ?_
    rintro e w1 ⟨rfl, hb⟩
    go_wp2_with fail
    refine (c1 _).mono ?_
    rintro e w2 ⟨rfl, rfl⟩
    go_wp2_with fail
    all_goals (go_ret; exact ⟨by simp <;> omega, hb⟩)

set_option maxHeartbeats 1000000 in
theorem later_any (a k : Int) (a0 : 0 ≤ a) (a1 : a ≤ 18446744073709551615) (k0 : 0 ≤ k) (k1 : k ≤ 18446744073709551615) (w : World) :
    Calls Try.prog 30 #[.int .u64 a, .int .u64 k] w fun e w' => e = .returned (.int .u64 (laterS a k)) ∧ w' = w := by
  unfold laterS
  by_cases hlt : k ≤ 18446744073709551615 - a
  · have e : min k (18446744073709551615 - a) = k := by omega
    rw [e]
    go_enter Try.func30, Try.ntmps30
    go_wp2_with fail
    go_ret
    exact ⟨rfl, rfl⟩
  · have e : a + min k (18446744073709551615 - a) = 18446744073709551615 := by omega
    rw [e]
    go_enter Try.func30, Try.ntmps30
    go_wp2_with fail
    go_ret
    exact ⟨rfl, rfl⟩
end Go.Proofs.Ytahiiieifdhgeaa
