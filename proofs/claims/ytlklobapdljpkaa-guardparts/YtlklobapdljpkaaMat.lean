/-
  The walks of guard's matrix, and of Join.
-/
import Derived.Test.YtlklobapdljpkaaSea
import Derived.Deep.RegionHeld3
namespace Go.Proofs.Ytlklobapdljpkaa
open Go.RowKit

/-- What goes bit by bit. -/
structure Lin (f : B32 → B32) : Prop where
  xor : ∀ x y, f (x ^^^ y) = f x ^^^ f y
  zero : f 0#32 = 0#32
theorem Lin.steps (n : Nat) : Lin (stepN n) := ⟨stepN_xor n, stepN_zero n⟩
theorem Lin.twice {f : B32 → B32} (h : Lin f) : Lin fun x => f (f x) := ⟨fun x y => by show f (f (x ^^^ y)) = _; rw [h.xor, h.xor], by show f (f 0#32) = _; rw [h.zero, h.zero]⟩

/-- A matrix's numbers. -/
def mat (f : B32 → B32) (i : Nat) : B32 := f (1#32 <<< i)

theorem odd_split (x : B32) (i : Nat) (h : x.getLsbD 0 = true) : x <<< i = (1#32 <<< i) ^^^ ((x >>> 1) <<< (i + 1)) := by
  have e : x = 1#32 ^^^ ((x >>> 1) <<< 1) := by
    apply BitVec.eq_of_getLsbD_eq
    intro j hj
    cases j with
    | zero => simp [h]
    | succ j =>
      have : (1#32).getLsbD (j + 1) = false := by
        have : ∀ j : Fin 32, j.val ≠ 0 → (1#32).getLsbD j.val = false := by decide
        exact this ⟨j + 1, hj⟩ (by simp)
      rw [BitVec.getLsbD_xor, this, BitVec.getLsbD_shiftLeft, BitVec.getLsbD_ushiftRight]
      simp [hj, Nat.add_comm]
  conv => lhs; rw [e]
  rw [BitVec.shiftLeft_xor_distrib, ← BitVec.shiftLeft_add, Nat.add_comm]
theorem even_split (x : B32) (i : Nat) (h : x.getLsbD 0 = false) : x <<< i = (x >>> 1) <<< (i + 1) := by
  have e : x = (x >>> 1) <<< 1 := by
    apply BitVec.eq_of_getLsbD_eq
    intro j hj
    cases j with
    | zero => simpa using h
    | succ j =>
      rw [BitVec.getLsbD_shiftLeft, BitVec.getLsbD_ushiftRight]
      simp [hj, Nat.add_comm]
  conv => lhs; rw [e]
  rw [← BitVec.shiftLeft_add, Nat.add_comm]

theorem zeros32 (f : Nat → B32) : tab f 32 0 = #[.int .u32 0, .int .u32 0, .int .u32 0, .int .u32 0, .int .u32 0, .int .u32 0, .int .u32 0, .int .u32 0, .int .u32 0, .int .u32 0, .int .u32 0, .int .u32 0, .int .u32 0, .int .u32 0, .int .u32 0, .int .u32 0, .int .u32 0, .int .u32 0, .int .u32 0, .int .u32 0, .int .u32 0, .int .u32 0, .int .u32 0, .int .u32 0, .int .u32 0, .int .u32 0, .int .u32 0, .int .u32 0, .int .u32 0, .int .u32 0, .int .u32 0, .int .u32 0] := rfl

theorem u_div2 (x : B32) : u x / (2 : Int) = u (x >>> 1) := by have := u_shr x 1; rwa [Int.pow_one] at this

set_option maxHeartbeats 1000000 in
theorem times_any (f : B32 → B32) (hf : Lin f) (x0 : B32) (w : World) :
    Calls Try.prog 23 #[.agg (tab (mat f) 32 32), .int .u32 (u x0)] w fun e w' => e = .returned (.int .u32 (u (f x0))) ∧ w' = w.alloc (.cells (tab (mat f) 32 32) 44) := by
  have HF : Hid (Lin f) := hf
  clear hf
  go_enter Try.func23, Try.ntmps23
  go_wp2_with fail
  go_loopg [1, 5, 6] 33 (fun gk t1 t5 t6 wr => ∃ k : Nat, ∃ y : B32, k + gk = 33 ∧ t6 = .int .i64 k ∧ t1 = .int .u32 (u (x0 >>> k)) ∧ t5 = .int .u32 (u y) ∧ Hid (y ^^^ f ((x0 >>> k) <<< k) = f x0) ∧ wr = w.alloc (.cells (tab (mat f) 32 32) 44))
  case atStart => exact ⟨0, 0#32, by omega, rfl, by simp, rfl, by show _ = _; simp, rfl⟩
  case round =>
    obtain ⟨k, y, hk, rfl, rfl, rfl, HY, rfl⟩ := hrel
    have hx0 := u_lo (x0 >>> k)
    have hx1 := u_hi (x0 >>> k)
    have hsucc : x0 >>> (k + 1) = x0 >>> k >>> 1 := BitVec.shiftRight_add ..
    have h32 : 32 ≤ k → x0 >>> k = 0#32 := fun h => BitVec.ushiftRight_eq_zero h
    have HS : Hid _ := hsucc
    clear hsucc
    generalize x0 >>> k = x at HY hx0 hx1 HS h32
    have HD : Hid _ := u_div2 x
    by_cases hx : x = 0#32
    · have hne : (u x != 0) = false := by rw [hx]; rfl
      have HE : Hid (y = f x0) := by
        show _ = _
        rw [← HY.out, hx, BitVec.zero_shiftLeft, HF.out.zero, BitVec.xor_zero]
      clear hx h32
      go_wp2_with fail
      go_ret
      rw [HE.out]
      exact ⟨rfl, rfl⟩
    · have hk32 : k < 32 := by
        rcases Nat.lt_or_ge k 32 with h | h
        · exact h
        · exact absurd (h32 h) hx
      have hne : (u x != 0) = true := by
        rw [bne_iff_ne]; intro h; exact hx (u_inj x 0#32 h)
      have hc := (At.new (tab (mat f) 32 32) 44 w).cell k
      rw [tab_get _ _ _ _ hk32, if_pos hk32] at hc
      have hlo : (0 : Int) ≤ k := by omega
      have hhi : (k : Int) < 32 := by omega
      have hlow := u_low x
      have hux := u_xor
      clear hx h32
      cases hb : x.getLsbD 0
      · rw [hb] at hlow
        simp only [Bool.false_eq_true, ↓reduceIte] at hlow
        have HE : Hid _ := even_split x k hb
        clear hb
        go_wp2_with fail
        go_roundg (gk - 1)
        case rel => exact ⟨k + 1, y, by omega, by go_num, by rw [HS.out, HD.out], rfl, by show _ = _; rw [HS.out, ← HE.out]; exact HY.out, rfl⟩
        case measure => omega
      · rw [hb] at hlow
        simp only [↓reduceIte] at hlow
        have HE : Hid _ := odd_split x k hb
        clear hb
        go_wp2_with fail
        go_roundg (gk - 1)
        case rel => exact ⟨k + 1, y ^^^ mat f k, by omega, by go_num, by rw [HS.out, HD.out], rfl, by show _ = _; rw [HS.out, BitVec.xor_assoc]; unfold mat; rw [← HF.out.xor, ← HE.out]; exact HY.out, rfl⟩
        case measure => omega

theorem u_pow (k : Nat) : (2 : Int) ^ k % 4294967296 = u (1#32 <<< k) := by
  unfold u
  rw [BitVec.toNat_shiftLeft, Nat.shiftLeft_eq]
  simp

set_option maxHeartbeats 1000000 in
theorem bytem_any (w : World) :
    Calls Try.prog 22 #[] w fun e w' => e = .returned (.agg (tab (mat (stepN 8)) 32 32)) ∧ Below w.heap.size w w' := by
  go_enter Try.func22, Try.ntmps22
  go_wp2_with (go_at_call 25; refine (stepper_any _ _).mono ?_; rintro e w' ⟨rfl, rfl⟩)
  rw [← zeros32 (mat (stepN 8))]
  generalize hF : mat (stepN 8) = F
  have HF : Hid _ := hF
  clear hF
  go_loopg [3, 5] 32 (fun gk t3 t5 wr => ∃ k : Nat, k + gk = 32 ∧ t5 = .int .i64 k ∧ At w.heap.size 44 (tab F 32 0) wr ∧ At (w.heap.size + 1) 3 #[.int .i64 8] wr ∧ At (w.heap.size + 1 + 1) 44 (tab F 32 k) wr ∧ Below w.heap.size w wr)
  case atStart =>
    refine ⟨0, by omega, rfl, ((At.new _ _ _).alloc _).alloc _, ?_, ?_, (((Below.refl _ _).alloc (Nat.le_refl _) _).alloc (by simp) _).alloc (by simp; omega) _⟩
    · have := (At.new #[.int .i64 8] 3 (w.alloc (.cells (tab F 32 0) 44))).alloc (.cells (tab F 32 0) 44); simpa using this
    · have := At.new (tab F 32 0) 44 ((w.alloc (.cells (tab F 32 0) 44)).alloc (.cells #[.int .i64 8] 3)); simpa using this
  case round =>
    obtain ⟨k, hk, rfl, hR, hM, hT, hB⟩ := hrel
    by_cases hlt : (k : Int) < 32
    · have hlo : (0 : Int) ≤ k := by omega
      have hc := hT.cell k
      rw [tab_get _ _ _ _ (by omega)] at hc
      have hf := hT.frozen k
      have hcm : wr.cell? ⟨w.heap.size + 1, 0, none⟩ = some (.int .i64 (8 : Nat)) := hM.cell 0
      have HU : Hid _ := u_pow k
      go_wp2_with fail
      rw [HU.out]
      refine (steps_any _ 8 _ _ (by omega) hcm).mono ?_
      rintro e w' ⟨rfl, rfl⟩
      rw [← HU.out]
      go_wp2_with fail
      go_roundg (gk - 1)
      case rel =>
        refine ⟨k + 1, by omega, by go_num, hR.other (by simp; omega) _, hM.other (by simp) _, ?_, hB.setCell (by simp; omega) _⟩
        rw [← tab_set, ← HF.out]; rw [← HF.out] at hT; exact hT.set k _
      case measure => omega
    · obtain rfl : k = 32 := by omega
      go_upto_region 8 with fail
      apply wp_region_lit
      refine wpList_load_mid (by rfl) 44 (.tmp 2) (by rfl) (w.heap.size + 1 + 1) 0 (by rfl) _ _ hT.range Try.underlying44 rfl (by rw [Try.size44]; simp [tab_size]) ?_
      refine wpList_store_mid (by rfl) 44 (.tmp 0) (.tmp 15) (by rfl) w.heap.size 0 (tab F 32 32) (by rfl) (by rfl) (hR.there (by simp [tab_size])) (by rw [Try.size44]; simp [tab_size]) (tab_one _ _ _) ?_
      have hE := hR.setAll (tab F 32 32) (by simp [tab_size])
      have hld := run_loadVar_mid _ _ 0 44 _ _ hE.range Try.underlying44 rfl (by rw [Try.size44]; simp [tab_size])
      go_wp2_with fail
      refine bodyPost_ret (v := .agg (tab F 32 32)) ?_ rfl ⟨by rw [HF.out], ?_⟩
      · rw [results_cell rfl]
        simp [asAddr, Result.andThen, hld]
      · exact below_setCells (Nat.le_refl _) _ _ _ hB

theorem At.both {b : Nat} {T : TypeId} {F : Nat → B32} {w : World} {k : Nat} (h : At b T (tab F 32 32) w) (hk : k < 32) :
    w.rangeAt b 0 (tab F 32 32).toList ∧ w.cell? ⟨b, k, none⟩ = some (.int .u32 (u (F k))) := by
  refine ⟨h.range, ?_⟩
  rw [h.cell, tab_get _ _ _ _ hk, if_pos hk]

set_option maxHeartbeats 2000000 in
theorem square_any (f : B32 → B32) (hf : Lin f) (w : World) :
    Calls Try.prog 24 #[.agg (tab (mat f) 32 32)] w fun e w' => e = .returned (.agg (tab (mat fun x => f (f x)) 32 32)) ∧ Below w.heap.size w w' := by
  have HL : Hid (Lin f) := hf
  clear hf
  generalize hG : (mat fun x => f (f x)) = G
  have HG : Hid _ := hG
  clear hG
  go_enter Try.func24, Try.ntmps24
  go_wp2_with fail
  rw [← zeros32 G]
  go_loopg [4, 5] 32 (fun gk t4 t5 wr => ∃ k : Nat, k + gk = 32 ∧ t5 = .int .i64 k ∧ At w.heap.size 44 (tab (mat f) 32 32) wr ∧ At (w.heap.size + 1) 44 (tab G 32 0) wr ∧ At (w.heap.size + 1 + 1) 44 (tab G 32 k) wr ∧ Below w.heap.size w wr)
  case atStart =>
    refine ⟨0, by omega, rfl, ((At.new _ _ _).alloc _).alloc _, ?_, ?_, (((Below.refl _ _).alloc (Nat.le_refl _) _).alloc (by simp) _).alloc (by simp; omega) _⟩
    · have := (At.new (tab G 32 0) 44 (w.alloc (.cells (tab (mat f) 32 32) 44))).alloc (.cells (tab G 32 0) 44); simpa using this
    · have := At.new (tab G 32 0) 44 ((w.alloc (.cells (tab (mat f) 32 32) 44)).alloc (.cells (tab G 32 0) 44)); simpa using this
  case round =>
    obtain ⟨k, hk, rfl, hS, hR, hT, hB⟩ := hrel
    by_cases hlt : (k : Int) < 32
    · have hlo : (0 : Int) ≤ k := by omega
      have hk32 : k < 32 := by omega
      have hc := hT.cell k
      rw [tab_get _ _ _ _ (by omega)] at hc
      have hfz := hT.frozen k
      have hsc := hS.cell k
      rw [tab_get _ _ _ _ (by omega), if_pos (by omega)] at hsc
      have hsr := hS.range
      have hlen : (tab (mat f) 32 32).toList.length = 32 := by simp [tab_size]
      have hone : ∀ v ∈ (tab (mat f) 32 32).toList, v.oneCell' = true := fun v hv => (Array.all_eq_true_iff_forall_mem.1 (tab_one (mat f) 32 32)) v (by simpa using hv)
      have hu := Try.underlying44
      have hi : (Try.prog.info? 44).map (·.size) = some (tab (mat f) 32 32).toList.length := by rw [hlen]; exact Try.size44
      go_wp2_with fail
      go_region_held3 (fun w' => w'.rangeAt w.heap.size 0 (tab (mat f) 32 32).toList ∧ w'.cell? ⟨w.heap.size, k, none⟩ = some (.int .u32 (u (mat f k)))) (first | exact At.both hS hk32 | exact At.both (At.drew hS) hk32 | exact At.both hS2 hk32 | exact At.both (At.other hS2 (by simp; omega) _) hk32) ((go_at_call 23; refine (times_any f HL.out _ _).mono ?_; rintro e w2 ⟨rfl, hw2⟩; have hT2 : At (w.heap.size + 1 + 1) 44 (tab G 32 k) w2 := (by rw [hw2]; exact (At.drew hT).alloc _); have hS2 : At w.heap.size 44 (tab (mat f) 32 32) w2 := (by rw [hw2]; exact (At.drew hS).alloc _); have hR2 : At (w.heap.size + 1) 44 (tab G 32 0) w2 := (by rw [hw2]; exact (At.drew hR).alloc _); have hB2 : Below w.heap.size w w2 := (by rw [hw2]; exact hB.drew.alloc hB.size _); have hsr2 := hS2.range; have hsc2 := hS2.cell k; rw [tab_get _ _ _ _ (by omega), if_pos (by omega)] at hsc2; have hc2 := hT2.cell k; rw [tab_get _ _ _ _ (by omega)] at hc2; have hf2 := hT2.frozen k; clear hw2))
      all_goals go_wp2_with fail
      all_goals go_roundg (gk - 1)
      case rel =>
        refine ⟨k + 1, by omega, by go_num, hS2.other (by simp; omega) _, hR2.other (by simp) _, ?_, hB2.setCell (by simp; omega) _⟩
        rw [← tab_set, ← HG.out]; rw [← HG.out] at hT2; exact hT2.set k _
      case measure => omega
    · obtain rfl : k = 32 := by omega
      go_upto_region 7 with fail
      apply wp_region_lit
      refine wpList_load_mid (by rfl) 44 (.tmp 3) (by rfl) (w.heap.size + 1 + 1) 0 (by rfl) _ _ hT.range Try.underlying44 rfl (by rw [Try.size44]; simp [tab_size]) ?_
      refine wpList_store_mid (by rfl) 44 (.tmp 2) (.tmp 16) (by rfl) (w.heap.size + 1) 0 (tab G 32 32) (by rfl) (by rfl) (hR.there (by simp [tab_size])) (by rw [Try.size44]; simp [tab_size]) (tab_one _ _ _) ?_
      have hE := hR.setAll (tab G 32 32) (by simp [tab_size])
      have hld := run_loadVar_mid _ _ 0 44 _ _ hE.range Try.underlying44 rfl (by rw [Try.size44]; simp [tab_size])
      go_wp2_with fail
      refine bodyPost_ret (v := .agg (tab G 32 32)) ?_ rfl ⟨rfl, ?_⟩
      · rw [results_cell rfl]
        simp [asAddr, Result.andThen, hld]
      · exact below_setCells (by omega) _ _ _ hB
end Go.Proofs.Ytlklobapdljpkaa
