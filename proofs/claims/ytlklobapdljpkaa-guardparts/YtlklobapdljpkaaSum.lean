/-
  The walk of guard's Sum: the table by half bytes gives the document's sum.
-/
import Derived.Test.YtlklobapdljpkaaStp
namespace Go.Proofs.Ytlklobapdljpkaa
open Go.RowKit

theorem take_snoc (s : ByteArray) (k : Nat) (h : k < s.size) : s.data.toList.take (k + 1) = s.data.toList.take k ++ [s[k]] := by
  rw [List.take_succ_eq_append_getElem (by simpa using h)]; rfl

theorem half_of (z : B32) : u (half (u z % 16).toNat) = u (stepN 4 (z &&& 15#32)) := by
  unfold half
  rw [u_mod16]
  congr 2
  unfold u
  simp

theorem u_byteC (c : UInt8) : (c.toNat : Int) % 4294967296 = u (byte c) := by rw [← u_byte]; have := c.toNat_lt; omega
theorem u_half (z : B32) : bits .xor .u32 (u z / 16) (u (stepN 4 (z &&& 15#32))) = u (stepN 4 z) := by
  rw [show u z / 16 = u z / 2 ^ 4 from rfl, u_shr, u_xor, ← step4]

set_option maxHeartbeats 1000000 in
theorem sum_any (s : ByteArray) (w : World) (hs : s.size ≤ 1000000000) :
    Calls Try.prog 12 #[.string s] w fun e w' => e = .returned (.int .u32 (u (crc s.data.toList))) ∧ Below w.heap.size w w' := by
  go_enter Try.func12, Try.ntmps12
  go_upto_region 2 with (first | (go_at_call 20; refine (half_any _).mono ?_; rintro e w1 ⟨rfl, hb1⟩) | (refine wpList_store_mid (by rfl) 39 (.tmp 3) (.tmp 6) (by rfl) w1.heap.size 0 (tab half 16 16) (by rfl) (by rfl) ((At.new _ _ _).there (by simp [tab_size])) (by rw [Try.size39]; simp [tab_size]) (tab_one _ _ _) ?_))
  have hT := (At.new (tab half 16 0) 39 w1).setAll (tab half 16 16) (by simp [tab_size])
  have hB := below_setCells (a := w) hb1.size (tab half 16 16).toList 0 _ (hb1.alloc hb1.size (.cells (tab half 16 0) 39))
  rw [zeros16 half] at hT hB
  generalize ((w1.alloc _).setCells w1.heap.size 0 (tab half 16 16).toList) = w2 at hT hB
  generalize w1.heap.size = p at hT
  clear hb1
  go_wp2_with fail
  go_loopg [4, 9] s.size (fun gk t4 t9 wr => ∃ k : Nat, k + gk = s.size ∧ t9 = .int .i64 k ∧ t4 = .int .u32 (u (raw ones (s.data.toList.take k))) ∧ wr = w2)
  case atStart => exact ⟨0, by omega, rfl, rfl, rfl⟩
  case round =>
    obtain ⟨k, hk, rfl, rfl, rfl⟩ := hrel
    by_cases hlt : (k : Int) < s.size
    · have hkn : k < s.size := by omega
      have HE : Hid (raw ones (s.data.toList.take (k + 1)) = stepN 8 (raw ones (s.data.toList.take k) ^^^ byte s[k])) := by
        show _ = _; rw [take_snoc s k hkn, raw_snoc]
      go_wp2_with fail
      generalize hY : raw ones (s.data.toList.take k) = r at HE
      have HY : Hid _ := hY
      clear hY
      go_loopg [4, 18] 2 (fun gj t4 t18 wr' => ∃ j : Nat, j + gj = 2 ∧ t18 = .int .i64 j ∧ t4 = .int .u32 (u (stepN (4 * j) (r ^^^ byte s[k]))) ∧ wr' = wr)
      case atStart => exact ⟨0, by omega, rfl, by rw [u_byteC, u_xor]; rfl, rfl⟩
      case round =>
        obtain ⟨j, hj, rfl, rfl, rfl⟩ := hrel
        by_cases hjl : (j : Int) < 2
        · have h0 := u_lo (stepN (4 * j) (r ^^^ byte s[k]))
          have h1 := u_hi (stepN (4 * j) (r ^^^ byte s[k]))
          have hz : stepN (4 * (j + 1)) (r ^^^ byte s[k]) = stepN 4 (stepN (4 * j) (r ^^^ byte s[k])) := by rw [← stepN_add]; congr 1; omega
          have HZ : Hid _ := hz
          clear hz
          generalize stepN (4 * j) (r ^^^ byte s[k]) = z at h0 h1 HZ
          have hc := hT.cell (u z % 16).toNat
          rw [tab_get _ _ _ _ (by omega), if_pos (by omega), half_of] at hc
          go_wp2_with fail
          go_roundg (gk - 1)
          case rel => exact ⟨j + 1, by omega, by go_num, by rw [u_half, HZ.out], rfl⟩
          case measure => omega
        · obtain rfl : j = 2 := by omega
          go_wp2_with fail
          go_roundg (s.size - k - 1)
          case rel => exact ⟨k + 1, by omega, by go_num, by rw [HE.out], rfl⟩
          case measure => omega
    · go_wp2_with fail
      go_ret
      refine ⟨?_, hB⟩
      rw [show (4294967295 : Int) = u ones from rfl, u_xor, List.take_of_length_le (by simp; omega)]
      rfl
end Go.Proofs.Ytlklobapdljpkaa
