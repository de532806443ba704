/-
  The walks of the document's own answers for guard.
-/
import Derived.Test.YtlklobapdljpkaaSea
namespace Go.Proofs.Ytlklobapdljpkaa
open Go.RowKit

theorem u_and1 (x : B32) : bits .and .u32 (u x) 1 = if x.getLsbD 0 then 1 else 0 := by
  show IntKind.u32.wrap ((BitVec.ofInt 32 (u x) &&& BitVec.ofInt 32 1).toNat : Int) = _
  rw [u_ofInt, show BitVec.ofInt 32 1 = 1#32 from rfl]
  have e : (x &&& 1#32) = if x.getLsbD 0 then 1#32 else 0#32 := by
    apply BitVec.eq_of_getLsbD_eq
    intro i hi
    rw [BitVec.getLsbD_and]
    cases i with
    | zero => cases x.getLsbD 0 <;> rfl
    | succ i =>
      have : (1#32).getLsbD (i + 1) = false := by
        have : ∀ j : Fin 32, j.val ≠ 0 → (1#32).getLsbD j.val = false := by decide
        exact this ⟨i + 1, hi⟩ (by simp)
      rw [this, Bool.and_false]
      split
      · exact this.symm
      · simp
  rw [e]
  split <;> rfl
theorem u_odd (x : B32) (h : x.getLsbD 0 = true) : bits .xor .u32 (u x / 2) 2197175160 = u (step x) := by
  rw [← u_step, u_low, h]; rfl
theorem u_even (x : B32) (h : x.getLsbD 0 = false) : u x / 2 = u (step x) := by
  rw [show u x / 2 = u x / 2 ^ 1 from rfl, u_shr, step_low x h]

set_option maxHeartbeats 400000 in
theorem rstep_any (x : B32) (w : World) : Calls Try.prog 21 #[.int .u32 (u x)] w fun e w' => e = .returned (.int .u32 (u (step x))) ∧ w' = w := by
  have h0 := u_lo x
  have h1 := u_hi x
  have hb := u_and1 x
  cases h : x.getLsbD 0
  · rw [h] at hb
    have HE : Hid _ := u_even x h
    clear h
    simp only [Bool.false_eq_true, ↓reduceIte] at hb
    go_enter Try.func21, Try.ntmps21
    go_wp2
    go_ret
    rw [HE.out]
    exact ⟨rfl, rfl⟩
  · rw [h] at hb
    have HE : Hid _ := u_odd x h
    clear h
    simp only [↓reduceIte] at hb
    go_enter Try.func21, Try.ntmps21
    go_wp2
    go_ret
    rw [HE.out]
    exact ⟨rfl, rfl⟩

set_option maxHeartbeats 1000000 in
theorem rsum_any (s : ByteArray) (w : World) (hs : s.size ≤ 1000000000) :
    Calls Try.prog 13 #[.string s] w fun e w' => e = .returned (.int .u32 (u (crc s.data.toList))) ∧ w' = w := by
  go_enter Try.func13, Try.ntmps13
  go_wp2_with fail
  go_loopg [3, 4] s.size (fun gk t3 t4 wr => ∃ k : Nat, k + gk = s.size ∧ t4 = .int .i64 k ∧ t3 = .int .u32 (u (raw ones (s.data.toList.take k))) ∧ wr = w)
  case atStart => exact ⟨0, by omega, rfl, rfl, rfl⟩
  case round =>
    obtain ⟨k, hk, rfl, rfl, rfl⟩ := hrel
    by_cases hlt : (k : Int) < s.size
    · have hkn : k < s.size := by omega
      have HE : Hid (raw ones (s.data.toList.take (k + 1)) = stepN 8 (raw ones (s.data.toList.take k) ^^^ byte s[k])) := by
        show _ = _; rw [take_snoc s k hkn, raw_snoc]
      go_wp2_with fail
      generalize hY : raw ones (s.data.toList.take k) = r at HE
      have HY : Hid _ := hY
      clear hY
      go_loopg [3, 5] 8 (fun gj t3 t5 wr' => ∃ j : Nat, j + gj = 8 ∧ t5 = .int .i64 j ∧ t3 = .int .u32 (u (stepN j (r ^^^ byte s[k]))) ∧ wr' = wr)
      case atStart => exact ⟨0, by omega, rfl, by rw [u_byteC, u_xor]; rfl, rfl⟩
      case round =>
        obtain ⟨j, hj, rfl, rfl, rfl⟩ := hrel
        by_cases hjl : (j : Int) < 8
        · have hz : stepN (j + 1) (r ^^^ byte s[k]) = step (stepN j (r ^^^ byte s[k])) := rfl
          have HZ : Hid _ := hz
          clear hz
          generalize stepN j (r ^^^ byte s[k]) = z at HZ
          go_wp2_with (go_at_call 21; refine (rstep_any _ _).mono ?_; rintro e w' ⟨rfl, rfl⟩)
          go_roundg (gk - 1)
          case rel => exact ⟨j + 1, by omega, by go_num, by rw [HZ.out], rfl⟩
          case measure => omega
        · obtain rfl : j = 8 := by omega
          go_wp2_with fail
          go_roundg (s.size - k - 1)
          case rel => exact ⟨k + 1, by omega, by go_num, by rw [HE.out], rfl⟩
          case measure => omega
    · go_wp2_with fail
      go_ret
      refine ⟨?_, rfl⟩
      rw [show (4294967295 : Int) = u ones from rfl, u_xor, List.take_of_length_le (by simp; omega)]
      rfl

theorem tab4_four (x : B32) : tab4 x 4 = #[.int .u8 (u x % 256), .int .u8 (u x / 256 % 256), .int .u8 (u x / 65536 % 256), .int .u8 (u x / 16777216)] := by
  have h0 := u_lo x
  have h1 := u_hi x
  have e0 : byteAt x 0 = u x % 256 := by unfold byteAt; simp
  have e1 : byteAt x 1 = u x / 256 % 256 := rfl
  have e2 : byteAt x 2 = u x / 65536 % 256 := rfl
  have e3 : byteAt x 3 = u x / 16777216 := by
    unfold byteAt
    show u x / 16777216 % 256 = _
    omega
  rw [← e0, ← e1, ← e2, ← e3]; rfl
theorem conv4 (x : B32) (p T : Nat) (w : World) (hT : At p T (tab4 x 4) w) : (convert 34 9 (.slice (some ⟨p, 0, none⟩) 4 4)).run Try.prog w = .ok (.string (fourS x)) w := by
  rw [← fourI_str]
  refine run_convert_bytes_arg w 34 5 Try.underlying34 Try.underlying5 p 0 4 4 (fourI x) rfl (fun i hi => ?_) 9 Try.underlying9
  have := hT.cell i
  rw [tab4_get _ _ _ hi, if_pos hi] at this
  rw [Nat.zero_add, this]
  match i, hi with
  | 0, _ => rfl
  | 1, _ => rfl
  | 2, _ => rfl
  | 3, _ => rfl

set_option maxHeartbeats 1000000 in
theorem rfour_any (x : B32) (w : World) :
    Calls Try.prog 19 #[.int .u32 (u x)] w fun e w' => e = .returned (.string (fourS x)) ∧ Below w.heap.size w w' := by
  have h0 := u_lo x
  have h1 := u_hi x
  have hc := conv4 x _ 5 _ (At.new (tab4 x 4) 5 w)
  rw [tab4_four] at hc
  go_enter Try.func19, Try.ntmps19
  go_wp2_with fail
  go_ret
  exact ⟨rfl, (Below.refl _ _).alloc (Nat.le_refl _) _⟩

set_option maxHeartbeats 400000 in
theorem rseal_any (s : ByteArray) (w : World) (hs : s.size ≤ 1000000000) :
    Calls Try.prog 15 #[.string s] w fun e w' => e = .returned (.string (s ++ fourS (crc s.data.toList))) ∧ Below w.heap.size w w' := by
  generalize hX : crc s.data.toList = x
  have HX : Hid _ := hX
  clear hX
  have hz := fourS_size x
  generalize hF : fourS x = f at hz
  have HF : Hid _ := hF
  clear hF
  have hlt : ¬ 9223372036854775807 < s.size + f.size := by omega
  go_enter Try.func15, Try.ntmps15
  go_wp2_with (first | (go_at_call 13; refine (rsum_any s _ hs).mono ?_; rintro e w1 ⟨rfl, rfl⟩; rw [HX.out]) | (go_at_call 19; refine (rfour_any x _).mono ?_; rintro e w1 ⟨rfl, hb1⟩; rw [HF.out]))
  go_ret
  exact ⟨rfl, hb1⟩

set_option maxHeartbeats 400000 in
theorem ropen_short (s : ByteArray) (w : World) (hs : s.size < 4) :
    Calls Try.prog 11 #[.string s] w fun e w' => e = .returned (.tuple #[.string ByteArray.empty, .int .i64 10]) ∧ w' = w := by
  have i1 : (s.size : Int) - 4 < 0 := by omega
  go_enter Try.func11, Try.ntmps11
  go_wp2
  go_ret2
  exact ⟨rfl, rfl⟩

set_option maxHeartbeats 1000000 in
theorem ropen_good (s : ByteArray) (w : World) (h4 : 4 ≤ s.size) (hs : s.size ≤ 1000000000) (hg : goodB s = true) :
    Calls Try.prog 11 #[.string s] w fun e w' => e = .returned (.tuple #[.string (front s), .int .i64 0]) ∧ Below w.heap.size w w' := by
  have hf : (front s).size ≤ 1000000000 := by unfold front; rw [ByteArray.size_extract]; omega
  have e4 : ((s.size : Int) - 4).toNat = s.size - 4 := by omega
  have e5 : s.extract (s.size - 4) s.size = back s := rfl
  have e6 : s.extract 0 (s.size - 4) = front s := rfl
  have i1 : (0 : Int) ≤ (s.size : Int) - 4 := by omega
  have i2 : (s.size : Int) - 4 ≤ (s.size : Int) := by omega
  have hgd := (good_beq' s).trans hg
  clear hg
  go_enter Try.func11, Try.ntmps11
  go_wp2_with fail
  go_region_with (first | (go_at_call 13; refine (rsum_any (front s) _ hf).mono ?_; rintro e w1 ⟨rfl, rfl⟩) | (go_at_call 19; refine (rfour_any _ _).mono ?_; rintro e w1 ⟨rfl, hb1⟩))
  all_goals go_wp2_with fail
  all_goals go_ret2
  all_goals exact ⟨rfl, (Below.refl _ _).drew.trans hb1⟩

set_option maxHeartbeats 1000000 in
theorem ropen_bad (s : ByteArray) (w : World) (h4 : 4 ≤ s.size) (hs : s.size ≤ 1000000000) (hg : goodB s = false) :
    Calls Try.prog 11 #[.string s] w fun e w' => e = .returned (.tuple #[.string ByteArray.empty, .int .i64 20]) ∧ Below w.heap.size w w' := by
  have hf : (front s).size ≤ 1000000000 := by unfold front; rw [ByteArray.size_extract]; omega
  have e4 : ((s.size : Int) - 4).toNat = s.size - 4 := by omega
  have e5 : s.extract (s.size - 4) s.size = back s := rfl
  have e6 : s.extract 0 (s.size - 4) = front s := rfl
  have i1 : (0 : Int) ≤ (s.size : Int) - 4 := by omega
  have i2 : (s.size : Int) - 4 ≤ (s.size : Int) := by omega
  have hgd := (good_beq' s).trans hg
  clear hg
  go_enter Try.func11, Try.ntmps11
  go_wp2_with fail
  go_region_with (first | (go_at_call 13; refine (rsum_any (front s) _ hf).mono ?_; rintro e w1 ⟨rfl, rfl⟩) | (go_at_call 19; refine (rfour_any _ _).mono ?_; rintro e w1 ⟨rfl, hb1⟩))
  all_goals go_wp2_with fail
  all_goals go_ret2
  all_goals exact ⟨rfl, (Below.refl _ _).drew.trans hb1⟩

theorem ropen_any (s : ByteArray) (w : World) (hs : s.size ≤ 1000000000) :
    Calls Try.prog 11 #[.string s] w fun e w' => e = .returned (.tuple #[.string (openS s).1, .int .i64 (openS s).2]) ∧ Below w.heap.size w w' := by
  by_cases h4 : 4 ≤ s.size
  · cases hg : goodB s
    · rw [openS_bad s h4 hg]; exact ropen_bad s w h4 hs hg
    · rw [openS_good s h4 hg]; exact ropen_good s w h4 hs hg
  · rw [openS_short s (by omega)]
    refine (ropen_short s w (by omega)).mono ?_
    rintro e w' ⟨rfl, rfl⟩
    exact ⟨rfl, Below.refl _ _⟩

set_option maxHeartbeats 1000000 in
theorem rjoin_any (a b : B32) (n : Int) (w : World) (hn : n ≤ 1000000000) :
    Calls Try.prog 17 #[.int .u32 (u a), .int .u32 (u b), .int .i64 n] w fun e w' => e = .returned (.int .u32 (u (stepN (8 * n.toNat) a ^^^ b))) ∧ w' = w := by
  go_enter Try.func17, Try.ntmps17
  go_wp2_with fail
  go_loopg [0, 7] n.toNat (fun gk t0 t7 wr => ∃ k : Nat, k + gk = n.toNat ∧ t7 = .int .i64 k ∧ t0 = .int .u32 (u (stepN (8 * k) a)) ∧ wr = w)
  case atStart => exact ⟨0, by omega, rfl, rfl, rfl⟩
  case round =>
    obtain ⟨k, hk, rfl, rfl, rfl⟩ := hrel
    by_cases hlt : (k : Int) < n
    · have HE : Hid (stepN (8 * (k + 1)) a = stepN 8 (stepN (8 * k) a)) := by
        show _ = _; rw [← stepN_add]; congr 1; omega
      generalize stepN (8 * k) a = r at HE
      go_wp2_with fail
      go_loopg [0, 8] 8 (fun gj t0 t8 wr' => ∃ j : Nat, j + gj = 8 ∧ t8 = .int .i64 j ∧ t0 = .int .u32 (u (stepN j r)) ∧ wr' = wr)
      case atStart => exact ⟨0, by omega, rfl, rfl, rfl⟩
      case round =>
        obtain ⟨j, hj, rfl, rfl, rfl⟩ := hrel
        by_cases hjl : (j : Int) < 8
        · have hz : stepN (j + 1) r = step (stepN j r) := rfl
          have HZ : Hid _ := hz
          clear hz
          generalize stepN j r = z at HZ
          go_wp2_with (go_at_call 21; refine (rstep_any _ _).mono ?_; rintro e w' ⟨rfl, rfl⟩)
          go_roundg (gk - 1)
          case rel => exact ⟨j + 1, by omega, by go_num, by rw [HZ.out], rfl⟩
          case measure => omega
        · obtain rfl : j = 8 := by omega
          go_wp2_with fail
          go_roundg (n.toNat - k - 1)
          case rel => exact ⟨k + 1, by omega, by go_num, by rw [HE.out], rfl⟩
          case measure => omega
    · go_wp2_with fail
      go_ret
      refine ⟨?_, rfl⟩
      rw [u_xor, show k = n.toNat by omega]; rfl
end Go.Proofs.Ytlklobapdljpkaa
