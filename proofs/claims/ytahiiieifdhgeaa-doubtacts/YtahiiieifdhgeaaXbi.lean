/-
  Bits of a number: math/bits.Len64, Len, real.Bits, and the reference's Bits.
-/
import Derived.Test.YtahiiieifdhgeaaXba
import Derived.Lib.BitFns
namespace Go.Proofs.Ytahiiieifdhgeaa.Re
open Go.RowKit

theorem len_step (x k : Nat) (y : Int) (hx : x < 2 ^ 64) (hy : y = (x / 2 ^ k : Nat)) (h1 : y < 256) (hk : k = 0 ∨ 2 ^ k ≤ x) : (k : Int) + Lib.len8 (y % 256) = (Lib.bitLen x : Int) := by
  have e : (y % 256).toNat = x / 2 ^ k := by
    generalize x / 2 ^ k = z at hy
    omega
  have h0 : 0 ≤ y % 256 := by omega
  rw [Lib.len8_of _ h0 (by omega), e]
  rcases hk with h | h
  · subst h; simp
  · rw [Lib.bitLen_shift k x h hx]; omega

theorem get_tab (T : ByteArray) (i : Nat) (h : i < T.size) : (T[i]'h).toNat = ((T[i]?).getD 0).toNat := by
  rw [ByteArray.getElem?_lt' _ _ h]; rfl
theorem leaf_gen (T : ByteArray) (x : Int) (k : Nat) (K y z : Int) (h : y.toNat < T.size) (hz : z = (((T[y.toNat]?).getD 0).toNat : Nat)) (hK : K = k) (he : (k : Int) + z = (Lib.bitLen x.toNat : Int)) (hx : x.toNat < 2 ^ 64) :
    wrap64 (K + wrap64 ((T[y.toNat]'h).toNat : Int)) = (Lib.bitLen x.toNat : Int) := by
  have b := Lib.bitLen_le x.toNat 64 (by omega) hx
  rw [get_tab, ← hz, hK, ← he]
  unfold wrap64
  omega
theorem len_leaf (x : Int) (k : Nat) (K y : Int) (h : y.toNat < Lib.len8tab.size) (hK : K = k) (h0 : 0 ≤ x) (hx : x < 18446744073709551616) (hy : y = (x.toNat / 2 ^ k : Nat)) (h1 : y < 256) (h2 : k = 0 ∨ 2 ^ k ≤ x.toNat) :
    wrap64 (K + wrap64 ((Lib.len8tab[y.toNat]'h).toNat : Int)) = (Lib.bitLen x.toNat : Int) := by
  have hy0 : 0 ≤ y := by rw [hy]; exact Int.natCast_nonneg _
  have e := len_step x.toNat k y (by omega) hy h1 h2
  rw [show y % 256 = y by omega] at e
  exact leaf_gen Lib.len8tab x k K y (Lib.len8 y) h rfl hK e (by omega)

set_option maxRecDepth 100000 in
/-- The table as the program bears it. -/
theorem tab_fold : (⟨List.toArray (([0, 1, 2, 2, 3, 3, 3, 3, 4, 4, 4, 4, 4, 4, 4, 4, 5, 5, 5, 5, 5, 5, 5, 5, 5, 5, 5, 5, 5, 5, 5, 5, 6, 6, 6, 6, 6, 6, 6, 6, 6, 6, 6, 6, 6, 6, 6, 6, 6, 6, 6, 6, 6, 6, 6, 6, 6, 6, 6, 6, 6, 6, 6, 6].append [7, 7, 7, 7, 7, 7, 7, 7, 7, 7, 7, 7, 7, 7, 7, 7, 7, 7, 7, 7, 7, 7, 7, 7, 7, 7, 7, 7, 7, 7, 7, 7, 7, 7, 7, 7, 7, 7, 7, 7, 7, 7, 7, 7, 7, 7, 7, 7, 7, 7, 7, 7, 7, 7, 7, 7, 7, 7, 7, 7, 7, 7, 7, 7]).append ([8, 8, 8, 8, 8, 8, 8, 8, 8, 8, 8, 8, 8, 8, 8, 8, 8, 8, 8, 8, 8, 8, 8, 8, 8, 8, 8, 8, 8, 8, 8, 8, 8, 8, 8, 8, 8, 8, 8, 8, 8, 8, 8, 8, 8, 8, 8, 8, 8, 8, 8, 8, 8, 8, 8, 8, 8, 8, 8, 8, 8, 8, 8, 8].append [8, 8, 8, 8, 8, 8, 8, 8, 8, 8, 8, 8, 8, 8, 8, 8, 8, 8, 8, 8, 8, 8, 8, 8, 8, 8, 8, 8, 8, 8, 8, 8, 8, 8, 8, 8, 8, 8, 8, 8, 8, 8, 8, 8, 8, 8, 8, 8, 8, 8, 8, 8, 8, 8, 8, 8, 8, 8, 8, 8, 8, 8, 8, 8]))⟩ : ByteArray) = Lib.len8tab := by decide +kernel

set_option maxHeartbeats 4000000 in
set_option maxRecDepth 100000 in
theorem len64_any (x : Int) (w : World) (h0 : 0 ≤ x) (hx : x ≤ 18446744073709551615) : Calls Try.prog 57 #[.int .u64 x] w fun e w' => e = .returned (.int .i64 (Lib.bitLen x.toNat)) ∧ w' = w := by
  have hs : (Lib.len8tab.size : Int) = 256 := by rw [Lib.len8tab_size]; rfl
  refine calls_of_wp Try.func57 rfl ?_
  rw [tab_fold]
  simp only [Try.ntmps57, List.size_toArray, List.length_cons, List.length_nil, Nat.reduceAdd, Nat.reduceSub, Array.replicate_succ,
     Array.replicate_zero, List.push_toArray, List.append_toArray, List.nil_append, List.cons_append]
  go_wp2
  all_goals (go_ret; refine ⟨congrArg Ending.returned (congrArg (Value.int IntKind.i64) ?_), rfl⟩)
  all_goals first
    | exact len_leaf x 56 56 _ _ rfl h0 (by omega) (by omega) (by omega) (by omega)
    | exact len_leaf x 48 48 _ _ rfl h0 (by omega) (by omega) (by omega) (by omega)
    | exact len_leaf x 40 40 _ _ rfl h0 (by omega) (by omega) (by omega) (by omega)
    | exact len_leaf x 32 32 _ _ rfl h0 (by omega) (by omega) (by omega) (by omega)
    | exact len_leaf x 24 24 _ _ rfl h0 (by omega) (by omega) (by omega) (by omega)
    | exact len_leaf x 16 16 _ _ rfl h0 (by omega) (by omega) (by omega) (by omega)
    | exact len_leaf x 8 8 _ _ rfl h0 (by omega) (by omega) (by omega) (by omega)
    | (refine Eq.trans (congrArg wrap64 (Int.zero_add _).symm) ?_
       exact len_leaf x 0 0 x _ rfl h0 (by omega) (by omega) (by omega) (by omega))

theorem len_any (x : Int) (w : World) (h0 : 0 ≤ x) (hx : x ≤ 18446744073709551615) : Calls Try.prog 50 #[.int .u64 x] w fun e w' => e = .returned (.int .i64 (Lib.bitLen x.toNat)) ∧ w' = w := by
  go_enter Try.func50, Try.ntmps50
  go_wp2_with (go_at_call 57; refine (len64_any _ _ h0 hx).mono ?_; rintro e w' ⟨rfl, rfl⟩)
  go_ret
  exact ⟨rfl, rfl⟩

def bitsS (n : Int) : Int := if n < 0 then 0 else (Lib.bitLen n.toNat : Int)
theorem bits_any (n : Int) (w : World) (h : -9223372036854775808 ≤ n ∧ n ≤ 9223372036854775807) : Calls Try.prog 40 #[.int .i64 n] w fun e w' => e = .returned (.int .i64 (bitsS n)) ∧ w' = w := by
  unfold bitsS
  by_cases hn : n < 0
  · rw [if_pos hn]
    go_enter Try.func40, Try.ntmps40
    go_wp2
    go_ret
    exact ⟨rfl, rfl⟩
  · rw [if_neg hn]
    have hn' : 0 ≤ n := by omega
    have hm : n ≤ 18446744073709551615 := by omega
    go_enter Try.func40, Try.ntmps40
    go_wp2_with (go_at_call 50; refine (len_any _ _ hn' hm).mono ?_; rintro e w' ⟨rfl, rfl⟩)
    go_ret
    exact ⟨rfl, rfl⟩
end Go.Proofs.Ytahiiieifdhgeaa.Re
