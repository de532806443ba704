/-
  The walk of guard's Join.
-/
import Derived.Test.YtlklobapdljpkaaMat
namespace Go.Proofs.Ytlklobapdljpkaa
open Go.RowKit

theorem halve (k l : Nat) (a : B32) (h : l % 2 = 0) : stepN (k + k) (stepN 0 a) = stepN k (stepN k a) ∧ stepN ((k + k) * (l / 2)) a = stepN (k * l) a := by
  refine ⟨stepN_add k k a, ?_⟩
  congr 1
  have : l = 2 * (l / 2) := by omega
  conv => rhs; rw [this, ← Nat.mul_assoc, Nat.mul_two]
theorem halve_odd (k l : Nat) (a : B32) (h : l % 2 = 1) : stepN ((k + k) * (l / 2)) (stepN k a) = stepN (k * l) a := by
  rw [← stepN_add]
  congr 1
  have : l = 2 * (l / 2) + 1 := by omega
  conv => rhs; rw [this, Nat.mul_add, ← Nat.mul_assoc, Nat.mul_two, Nat.mul_one]
theorem mat_twice (k : Nat) : (mat fun x => stepN k (stepN k x)) = mat (stepN (k + k)) := by
  funext i; unfold mat; rw [stepN_add]

set_option maxHeartbeats 2000000 in
theorem join_neg (a b : B32) (n : Int) (w : World) (hn : n < 0) :
    Calls Try.prog 16 #[.int .u32 (u a), .int .u32 (u b), .int .i64 n] w fun e w' => e = .returned (.int .u32 (u (a ^^^ b))) ∧ Below w.heap.size w w' := by
  have hux := u_xor a b
  go_enter Try.func16, Try.ntmps16
  go_upto_region 2 with (first | (go_at_call 22; refine (bytem_any _).mono ?_; rintro e w1 ⟨rfl, hb1⟩) | (refine wpList_store_mid (by rfl) 44 (.tmp 7) (.tmp 9) (by rfl) w1.heap.size 0 (tab (mat (stepN 8)) 32 32) (by rfl) (by rfl) ((At.new _ _ _).there (by simp [tab_size])) (by rw [Try.size44]; simp [tab_size]) (tab_one _ _ _) ?_))
  have hT := (At.new (tab (mat (stepN 8)) 32 0) 44 w1).setAll (tab (mat (stepN 8)) 32 32) (by simp [tab_size])
  have hB := below_setCells (a := w) hb1.size (tab (mat (stepN 8)) 32 32).toList 0 _ (hb1.alloc hb1.size (.cells (tab (mat (stepN 8)) 32 0) 44))
  rw [zeros32 (mat (stepN 8))] at hT hB
  generalize ((w1.alloc _).setCells w1.heap.size 0 (tab (mat (stepN 8)) 32 32).toList) = w2 at hT hB
  have hz1 := hb1.size
  generalize w1.heap.size = p at hT hz1
  clear hb1
  go_wp2_with fail
  go_loopg [0, 8] 0 (fun gk t0 t8 wr => t0 = .int .u32 (u a) ∧ t8 = .int .i64 0 ∧ wr = w2)
  case atStart => exact ⟨rfl, rfl, rfl⟩
  case round =>
    obtain ⟨rfl, rfl, rfl⟩ := hrel
    go_wp2_with fail
    go_ret
    exact ⟨rfl, hB⟩

set_option maxHeartbeats 2000000 in
theorem join_pos (a b : B32) (n : Nat) (w : World) (hn : n ≤ 1000000000) :
    Calls Try.prog 16 #[.int .u32 (u a), .int .u32 (u b), .int .i64 n] w fun e w' => e = .returned (.int .u32 (u (stepN (8 * n) a ^^^ b))) ∧ Below w.heap.size w w' := by
  go_enter Try.func16, Try.ntmps16
  go_upto_region 2 with (first | (go_at_call 22; refine (bytem_any _).mono ?_; rintro e w1 ⟨rfl, hb1⟩) | (refine wpList_store_mid (by rfl) 44 (.tmp 7) (.tmp 9) (by rfl) w1.heap.size 0 (tab (mat (stepN 8)) 32 32) (by rfl) (by rfl) ((At.new _ _ _).there (by simp [tab_size])) (by rw [Try.size44]; simp [tab_size]) (tab_one _ _ _) ?_))
  have hT := (At.new (tab (mat (stepN 8)) 32 0) 44 w1).setAll (tab (mat (stepN 8)) 32 32) (by simp [tab_size])
  have hB := below_setCells (a := w) hb1.size (tab (mat (stepN 8)) 32 32).toList 0 _ (hb1.alloc hb1.size (.cells (tab (mat (stepN 8)) 32 0) 44))
  rw [zeros32 (mat (stepN 8))] at hT hB
  generalize ((w1.alloc _).setCells w1.heap.size 0 (tab (mat (stepN 8)) 32 32).toList) = w2 at hT hB
  have hz1 := hb1.size
  generalize w1.heap.size = p at hT hz1
  clear hb1
  go_wp2_with fail
  go_loopg [0, 8] n (fun gk t0 t8 wr => ∃ (k l : Nat) (x : B32), l ≤ gk ∧ l ≤ n ∧ t8 = .int .i64 l ∧ t0 = .int .u32 (u x) ∧ Hid (stepN (k * l) x = stepN (8 * n) a) ∧ At p 44 (tab (mat (stepN k)) 32 32) wr ∧ Below w.heap.size w wr)
  case atStart => exact ⟨8, n, a, Nat.le_refl _, Nat.le_refl _, rfl, rfl, by show _ = _; rfl, hT, hB⟩
  case round =>
    clear hT hB
    obtain ⟨k, l, x, hl, hln, rfl, rfl, HX, hM, hB⟩ := hrel
    by_cases hlt : (0 : Int) < l
    · rcases Nat.mod_two_eq_zero_or_one l with hp | hp
      · have hpi : (l : Int) % 2 = 0 := by omega
        have HP : Hid _ := hp
        clear hp
        have hMM := hM
        have hBB := hB
        go_upto_region 7 with fail
        apply wp_region_lit
        refine wpList_load_mid (by rfl) 44 (.tmp 7) (by rfl) p 0 (by rfl) _ _ hMM.range Try.underlying44 rfl (by rw [Try.size44]; simp [tab_size]) ?_
        go_wp2_with fail
        refine (square_any (stepN k) (Lin.steps k) _).mono ?_
        rw [mat_twice]
        rintro e w3 ⟨rfl, hb3⟩
        have hM3 := hMM.below hb3 hMM.lt
        have hB3 := hBB.trans (hb3.mono hBB.size)
        dsimp only
        go_step
        refine wpList_store_mid (by rfl) 44 (.tmp 7) (.tmp 23) (by rfl) p 0 (tab (mat (stepN (k + k))) 32 32) (by rfl) (by rfl) (hM3.there (by simp [tab_size])) (by rw [Try.size44]; simp [tab_size]) (tab_one _ _ _) ?_
        go_wp2_with fail
        go_roundg (gk - 1)
        case rel => exact ⟨k + k, l / 2, x, by omega, by omega, by simp, rfl, by show _ = _; rw [(halve k l x HP.out).2]; exact HX.out, hM3.setAll _ (by simp [tab_size]), below_setCells hz1 _ _ _ hB3⟩
        case measure => omega
      · have hpi : (l : Int) % 2 = 1 := by omega
        have HP : Hid _ := hp
        clear hp
        go_upto_region 6 with fail
        apply wp_region_lit
        refine wpList_load_mid (by rfl) 44 (.tmp 7) (by rfl) p 0 (by rfl) _ _ hM.range Try.underlying44 rfl (by rw [Try.size44]; simp [tab_size]) ?_
        go_wp2_with fail
        refine (times_any (stepN k) (Lin.steps k) x _).mono ?_
        rintro e w5 ⟨rfl, hw5⟩
        have hMM : At p 44 (tab (mat (stepN k)) 32 32) w5 := by rw [hw5]; exact hM.alloc _
        have hBB : Below w.heap.size w w5 := by rw [hw5]; exact hB.alloc hB.size _
        clear hw5
        go_upto_region 7 with fail
        apply wp_region_lit
        refine wpList_load_mid (by rfl) 44 (.tmp 7) (by rfl) p 0 (by rfl) _ _ hMM.range Try.underlying44 rfl (by rw [Try.size44]; simp [tab_size]) ?_
        go_wp2_with fail
        refine (square_any (stepN k) (Lin.steps k) _).mono ?_
        rw [mat_twice]
        rintro e w3 ⟨rfl, hb3⟩
        have hM3 := hMM.below hb3 hMM.lt
        have hB3 := hBB.trans (hb3.mono hBB.size)
        dsimp only
        go_step
        refine wpList_store_mid (by rfl) 44 (.tmp 7) (.tmp 23) (by rfl) p 0 (tab (mat (stepN (k + k))) 32 32) (by rfl) (by rfl) (hM3.there (by simp [tab_size])) (by rw [Try.size44]; simp [tab_size]) (tab_one _ _ _) ?_
        go_wp2_with fail
        go_roundg (gk - 1)
        case rel => exact ⟨k + k, l / 2, stepN k x, by omega, by omega, by simp, rfl, by show _ = _; rw [halve_odd k l x HP.out]; exact HX.out, hM3.setAll _ (by simp [tab_size]), below_setCells hz1 _ _ _ hB3⟩
        case measure => omega
    · obtain rfl : l = 0 := by omega
      have hux := u_xor x b
      have HE : Hid (x = stepN (8 * n) a) := HX.out
      go_wp2_with fail
      go_ret
      rw [HE.out]
      exact ⟨rfl, hB⟩

theorem join_any (a b : B32) (n : Int) (w : World) (hn : n ≤ 1000000000) :
    Calls Try.prog 16 #[.int .u32 (u a), .int .u32 (u b), .int .i64 n] w fun e w' => e = .returned (.int .u32 (u (stepN (8 * n.toNat) a ^^^ b))) ∧ Below w.heap.size w w' := by
  by_cases h : n < 0
  · rw [show n.toNat = 0 by omega]
    exact join_neg a b n w h
  · obtain ⟨m, rfl⟩ := Int.eq_ofNat_of_zero_le (show 0 ≤ n by omega)
    exact join_pos a b m w (by omega)
end Go.Proofs.Ytlklobapdljpkaa
