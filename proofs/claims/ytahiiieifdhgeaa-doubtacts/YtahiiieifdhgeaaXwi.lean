/-
  Waits walked: the closure, what makes it, Wait.
-/
import Derived.Test.YtahiiieifdhgeaaXwa
import Derived.Test.YtahiiieifdhgeaaXeq
namespace Go.Proofs.Ytahiiieifdhgeaa.Re
open Go.RowKit

set_option maxHeartbeats 1000000 in
theorem closure_any (t m : Int) (b g pg pb pm : Nat) (hb : b ≤ g) (hg : g < infR) (h0 : 0 < t) (h1 : t < m) (hm : m ≤ 9223372036854775807) (w : World)
    (cg : w.cell? ⟨pg, 0, none⟩ = some (.float .f64 g)) (cb : w.cell? ⟨pb, 0, none⟩ = some (.float .f64 b)) (cm : w.cell? ⟨pm, 0, none⟩ = some (.float .f64 (lessS g b))) :
    Calls Try.prog 51 #[.int .i64 t, .int .i64 m, .pointer (some ⟨pg, 0, none⟩), .pointer (some ⟨pb, 0, none⟩), .pointer (some ⟨pm, 0, none⟩)] w fun e w' => e = .returned (.float .f64 (midS b g t m)) ∧ w' = w := by
  obtain ⟨ep, hp⟩ := part_ok h0 h1 hm
  have f1 := floatOfInt_eq t (by omega) (by omega)
  have f2 := floatOfInt_eq m (by omega) (by omega)
  have o1 := div_ok ep
  have hl := less_le g b
  have hq := prod_le (p := partS t m) (m := lessS g b) hp
  have o2 := mul_ok (prod_ok (p := partS t m) (m := lessS g b) (Nat.lt_of_le_of_lt hp one_lt) (by omega) (by omega))
  obtain ⟨e3, h3⟩ := less_ok (b := prodS (partS t m) (lessS g b)) hg (by omega)
  have o3 := sub_ok e3
  have o4 := run_max_pos (x := b) (y := lessS g (prodS (partS t m) (lessS g b))) (by omega) (by omega)
  unfold midS
  generalize max b (lessS g (prodS (partS t m) (lessS g b))) = r at *
  generalize lessS g (prodS (partS t m) (lessS g b)) = z at *
  generalize prodS (partS t m) (lessS g b) = q at *
  generalize partS t m = p at *
  generalize lessS g b = d at *
  generalize fi t = ft at *
  generalize fi m = fm' at *
  clear hp hl hq h3 ep e3 hb hg hm
  have t0 : ¬ t ≤ 0 := by omega
  have t1 : ¬ m ≤ t := by omega
  go_enter Try.func51, Try.ntmps51
  go_wp2
  go_ret
  exact ⟨rfl, rfl⟩

theorem closure_all (t m : Int) (b g pg pb pm : Nat) (hb : b ≤ g) (hg : g < infR) (hm : m ≤ 9223372036854775807) (w : World)
    (cg : w.cell? ⟨pg, 0, none⟩ = some (.float .f64 g)) (cb : w.cell? ⟨pb, 0, none⟩ = some (.float .f64 b)) (cm : w.cell? ⟨pm, 0, none⟩ = some (.float .f64 (lessS g b))) :
    Calls Try.prog 51 #[.int .i64 t, .int .i64 m, .pointer (some ⟨pg, 0, none⟩), .pointer (some ⟨pb, 0, none⟩), .pointer (some ⟨pm, 0, none⟩)] w fun e w' => e = .returned (.float .f64 (if t ≤ 0 then g else if m ≤ t then b else midS b g t m)) ∧ w' = w := by
  by_cases h0 : t ≤ 0
  · rw [if_pos h0]
    clear cm cb
    go_enter Try.func51, Try.ntmps51
    go_wp2
    go_ret
    exact ⟨rfl, rfl⟩
  rw [if_neg h0]
  by_cases h1 : m ≤ t
  · rw [if_pos h1]
    clear cm cg
    go_enter Try.func51, Try.ntmps51
    go_wp2
    go_ret
    exact ⟨rfl, rfl⟩
  rw [if_neg h1]
  exact closure_any t m b g pg pb pm hb hg (by omega) (by omega) hm w cg cb cm

theorem cell_new (w : World) (v : Value) (t : TypeId) : (w.alloc (.cells #[v] t)).cell? ⟨w.heap.size, 0, none⟩ = some v := by
  have h : (w.alloc (.cells #[v] t)).heap[w.heap.size]? = some (.cells #[v] t) := by
    show (w.heap.push _)[w.heap.size]? = _; simp
  unfold World.cell?
  rw [h]; rfl

theorem waits_any (b g : Nat) (hb : b ≤ g) (hg : g < infR) (w : World) :
    Calls Try.prog 41 #[.float .f64 b, .float .f64 g] w fun e w' => e = .returned (.func (.func 51) #[] #[.pointer (some ⟨w.heap.size + 1, 0, none⟩), .pointer (some ⟨w.heap.size, 0, none⟩), .pointer (some ⟨w.heap.size + 2, 0, none⟩)]) ∧ Below w.heap.size w w' ∧
      w'.cell? ⟨w.heap.size + 1, 0, none⟩ = some (.float .f64 g) ∧ w'.cell? ⟨w.heap.size, 0, none⟩ = some (.float .f64 b) ∧ w'.cell? ⟨w.heap.size + 2, 0, none⟩ = some (.float .f64 (lessS g b)) := by
  obtain ⟨e1, _⟩ := less_ok hg hb
  have o1 := sub_ok e1
  clear e1 hb hg
  generalize lessS g b = d at *
  have hst := fun a x w m => run_store Try.prog w a (.float .f64 x) m rfl
  go_enter Try.func41, Try.ntmps41
  go_wp2
  go_ret
  refine ⟨rfl, (((Below.refl _ _).alloc (by simp) _).alloc (by simp) _).alloc (by simp; omega) _, ?_, ?_, ?_⟩
  · refine Go.Lib.cell?_alloc_some _ ?_
    have h := cell_new (w.alloc (Obj.cells #[Value.float FloatKind.f64 b] 35)) (Value.float FloatKind.f64 g) 35
    rw [show (w.alloc (Obj.cells #[Value.float FloatKind.f64 b] 35)).heap.size = w.heap.size + 1 by simp] at h
    exact h
  · refine Go.Lib.cell?_alloc_some _ (Go.Lib.cell?_alloc_some _ ?_)
    simp
  · have h := cell_new ((w.alloc (Obj.cells #[Value.float FloatKind.f64 b] 35)).alloc (Obj.cells #[Value.float FloatKind.f64 g] 35)) (Value.float FloatKind.f64 d) 35
    rw [show ((w.alloc (Obj.cells #[Value.float FloatKind.f64 b] 35)).alloc (Obj.cells #[Value.float FloatKind.f64 g] 35)).heap.size = w.heap.size + 2 by simp] at h
    exact h

set_option maxHeartbeats 1000000 in
theorem wait_any (base : Nat) (n t m : Int) (HB : Hid (base < 2 ^ 64)) (hn : -9223372036854775808 ≤ n ∧ n ≤ 9223372036854775807) (hm : m ≤ 9223372036854775807) (w : World) :
    Calls Try.prog 23 #[.float .f64 base, .int .i64 n, .int .i64 t, .int .i64 m] w fun e w' => e = .returned (.float .f64 (waitS (cleanS base 0 K1000) (bitsS n) t m)) ∧ Below w.heap.size w w' := by
  have hK : K1000 < infR := by decide
  have hb : cleanS base 0 K1000 ≤ K1000 := clean_pos HB.out (Nat.le_of_lt hK)
  have c0 := fun w => clean_any base 0 K1000 w
  have c1 := fun w => bits_any n w hn
  have hk : 0 ≤ bitsS n ∧ bitsS n ≤ 64 := by
    unfold bitsS
    split
    · omega
    · have := Lib.bitLen_le n.toNat 64 (by omega) (by omega)
      omega
  generalize cleanS base 0 K1000 = b at *
  generalize bitsS n = k at *
  obtain ⟨h1, h2⟩ := great_lt hb hk.2
  have h3 := great_le hb hk.2
  have f1 := floatOfInt_eq k hk.1 (by omega)
  have o1 := mul_ok (prod_ok (p := b) (m := fi k) (by omega) (Nat.lt_of_le_of_lt (fi_le k 6 (by omega)) (by decide)) (Nat.lt_of_le_of_lt h3 K64000_lt))
  have o2 := run_max_pos (x := b) (y := prodS b (fi k)) (by omega) (Nat.le_of_lt (Nat.lt_of_le_of_lt h3 K64000_lt))
  rw [show max b (prodS b (fi k)) = greatS b k from rfl] at o2
  unfold waitS
  generalize greatS b k = g at *
  generalize prodS b (fi k) = p at *
  generalize fi k = fk at *
  rw [show K1000 = 4652007308841189376 from rfl] at c0
  clear hb hk h3
  have c2 := fun w => waits_any b g h1 h2 w
  have c3 := fun pg pb pm w cg cb cm => closure_all t m b g pg pb pm h1 h2 hm w cg cb cm
  clear h1 h2 hK
  generalize (if t ≤ 0 then g else if m ≤ t then b else midS b g t m) = r at *
  go_enter Try.func23, Try.ntmps23
  go_wp2_with (first
    | (go_at_call 39; refine (c0 _).mono ?_; rintro e w' ⟨rfl, rfl⟩)
    | (go_at_call 40; refine (c1 _).mono ?_; rintro e w' ⟨rfl, rfl⟩))
  refine (c2 _).mono ?_
  rintro e w1 ⟨rfl, b1, cg, cb, cm⟩
  go_wp2_with fail
  refine (c3 _ _ _ _ cg cb cm).mono ?_
  rintro e w2 ⟨rfl, rfl⟩
  go_wp2
  go_ret
  exact ⟨rfl, b1⟩
end Go.Proofs.Ytahiiieifdhgeaa.Re
