/-
  The walks of guard's tail, Seal, and of what is shown.
-/
import Derived.Test.YtlklobapdljpkaaSum
import Derived.Laws.BytesArg
import Derived.Deep.RegionWith
namespace Go.Proofs.Ytlklobapdljpkaa
open Go.RowKit

/-- The first k of four cells are the bytes of x, the lowest one first; the others are 0. -/
def byteAt (x : B32) (i : Nat) : Int := u x / 2 ^ (8 * i) % 256
def tab4 (x : B32) (k : Nat) : Array Value := ((List.range 4).map fun i => Value.int .u8 (if i < k then byteAt x i else 0)).toArray
theorem tab4_size (x : B32) (k : Nat) : (tab4 x k).size = 4 := by simp [tab4]
theorem tab4_get (x : B32) (k i : Nat) (h : i < 4) : (tab4 x k)[i]? = some (.int .u8 (if i < k then byteAt x i else 0)) := by simp [tab4, h]
theorem tab4_set (x : B32) (k : Nat) : (tab4 x k).setIfInBounds k (.int .u8 (byteAt x k)) = tab4 x (k + 1) := by
  apply Array.ext_getElem?
  intro i
  rw [Array.getElem?_setIfInBounds, tab4_size]
  by_cases hi : i < 4
  · rw [tab4_get _ _ _ hi, tab4_get _ _ _ hi]
    by_cases e : k = i
    · subst e; simp [hi]
    · rw [if_neg e]
      congr 2
      by_cases h : i < k
      · rw [if_pos h, if_pos (by omega)]
      · rw [if_neg h, if_neg (by omega)]
  · rw [Array.getElem?_eq_none (by rw [tab4_size]; omega), Array.getElem?_eq_none (by rw [tab4_size]; omega)]
    by_cases e : k = i
    · subst e; simp [hi]
    · rw [if_neg e]
def fourI (x : B32) : List Int := [byteAt x 0, byteAt x 1, byteAt x 2, byteAt x 3]
def fourS (x : B32) : ByteArray := ⟨(four x).toArray⟩
theorem fourS_size (x : B32) : (fourS x).size = 4 := rfl
theorem ofNat_mod (n : Nat) : UInt8.ofNat (n % 256) = UInt8.ofNat n := by
  apply UInt8.toNat_inj.1; simp
theorem byteAt_of (x : B32) (i : Nat) : UInt8.ofNat (byteAt x i).toNat = UInt8.ofNat (x.toNat / 2 ^ (8 * i)) := by
  unfold byteAt u
  rw [← ofNat_mod (x.toNat / 2 ^ (8 * i))]
  congr 1
theorem fourI_str (x : B32) : strOfNums (fourI x) = fourS x := by
  simp only [strOfNums, fourI, List.map_cons, List.map_nil, byteAt_of, fourS, four]
  simp
theorem tab4_zero (x : B32) : tab4 x 0 = #[.int .u8 0, .int .u8 0, .int .u8 0, .int .u8 0] := rfl

set_option maxHeartbeats 1000000 in
theorem tail_any (s : ByteArray) (w : World) (hs : s.size ≤ 1000000000) :
    Calls Try.prog 18 #[.string s] w fun e w' => e = .returned (.string (fourS (crc s.data.toList))) ∧ Below w.heap.size w w' := by
  generalize hX : crc s.data.toList = x
  have HX : Hid _ := hX
  clear hX
  have h0 := u_lo x
  have h1 := u_hi x
  go_enter Try.func18, Try.ntmps18
  go_wp2_with (go_at_call 12; refine (sum_any s _ hs).mono ?_; rintro e w1 ⟨rfl, hb1⟩; rw [HX.out])
  rw [← tab4_zero x]
  have hz := hb1.size
  go_loopg [8] 4 (fun gk t8 wr => ∃ k : Nat, k + gk = 4 ∧ t8 = .int .i64 k ∧ At w1.heap.size 46 (tab4 x k) wr ∧ Below w.heap.size w wr)
  case atStart => exact ⟨0, by omega, rfl, At.new _ _ _, hb1.alloc hz _⟩
  case round =>
    obtain ⟨k, hk, rfl, hT, hB⟩ := hrel
    by_cases hlt : (k : Int) < 4
    · have hlo : (0 : Int) ≤ k := by omega
      have hc := hT.cell k
      rw [tab4_get _ _ _ (by omega)] at hc
      have hf := hT.frozen k
      go_wp2_with fail
      go_roundg (gk - 1)
      case rel =>
        refine ⟨k + 1, by omega, by go_num, ?_, hB.setCell hz _⟩
        rw [← tab4_set]; exact hT.set k _
      case measure => omega
    · obtain rfl : k = 4 := by omega
      have hc : (convert 34 9 (.slice (some ⟨w1.heap.size, 0, none⟩) 4 4)).run Try.prog wr = .ok (.string (fourS x)) wr := by
        rw [← fourI_str]
        refine run_convert_bytes_arg wr 34 5 Try.underlying34 Try.underlying5 w1.heap.size 0 4 4 (fourI x) rfl (fun i hi => ?_) 9 Try.underlying9
        have := hT.cell i
        rw [tab4_get _ _ _ hi, if_pos hi] at this
        rw [Nat.zero_add, this]
        match i, hi with
        | 0, _ => rfl
        | 1, _ => rfl
        | 2, _ => rfl
        | 3, _ => rfl
      go_wp2_with fail
      go_ret
      exact ⟨rfl, hB⟩

set_option maxHeartbeats 400000 in
theorem seal_any (s : ByteArray) (w : World) (hs : s.size ≤ 1000000000) :
    Calls Try.prog 14 #[.string s] w fun e w' => e = .returned (.string (s ++ fourS (crc s.data.toList))) ∧ Below w.heap.size w w' := by
  have hz := fourS_size (crc s.data.toList)
  generalize hX : fourS (crc s.data.toList) = x at hz
  have HX : Hid _ := hX
  clear hX
  have hlt : ¬ 9223372036854775807 < s.size + x.size := by omega
  go_enter Try.func14, Try.ntmps14
  go_wp2_with (go_at_call 18; refine (tail_any s _ hs).mono ?_; rintro e w1 ⟨rfl, hb1⟩; rw [HX.out])
  go_ret
  exact ⟨rfl, hb1⟩

def nine : ByteArray := ⟨#[49, 50, 51, 52, 53, 54, 55, 56, 57]⟩
theorem crc_nine : u (crc nine.data.toList) = 3808858755 := by decide +kernel

set_option maxHeartbeats 400000 in
theorem shown_any (w : World) : Calls Try.prog 9 #[] w fun e w' => e = .returned (.bool true) ∧ Below w.heap.size w w' := by
  go_enter Try.func9, Try.ntmps9
  go_wp2_with (go_at_call 12; refine (sum_any nine _ (by decide)).mono ?_; rw [crc_nine]; rintro e w1 ⟨rfl, hb1⟩)
  go_ret
  exact ⟨rfl, hb1⟩

/-- What a text is opened to. -/
def front (s : ByteArray) : ByteArray := s.extract 0 (s.size - 4)
def back (s : ByteArray) : ByteArray := s.extract (s.size - 4) s.size
def goodB (s : ByteArray) : Bool := decide (back s = fourS (crc (front s).data.toList))
def openS (s : ByteArray) : ByteArray × Int := if s.size < 4 then (ByteArray.empty, 10) else if goodB s then (front s, 0) else (ByteArray.empty, 20)

set_option maxHeartbeats 400000 in
theorem open_short (s : ByteArray) (w : World) (hs : s.size < 4) :
    Calls Try.prog 10 #[.string s] w fun e w' => e = .returned (.tuple #[.string ByteArray.empty, .int .i64 10]) ∧ w' = w := by
  go_enter Try.func10, Try.ntmps10
  go_wp2
  go_ret2
  exact ⟨rfl, rfl⟩

theorem toList_beq (a b : ByteArray) : (a.toList == b.toList) = decide (a = b) := by
  by_cases h : a = b
  · subst h; simp
  · have : ¬ a.toList = b.toList := fun e => h (by
      rw [ByteArray.toList_eq, ByteArray.toList_eq] at e
      exact ByteArray.ext (Array.toList_inj.1 e))
    rw [decide_eq_false h, beq_eq_false_iff_ne.2 this]
theorem good_beq (s : ByteArray) : ((back s).toList == (fourS (crc (front s).data.toList)).toList) = goodB s := toList_beq _ _
theorem good_beq' (s : ByteArray) : ((fourS (crc (front s).data.toList)).toList == (back s).toList) = goodB s := by
  rw [toList_beq]; unfold goodB; rw [decide_eq_decide]; exact eq_comm
theorem openS_good (s : ByteArray) (h4 : 4 ≤ s.size) (h : goodB s = true) : openS s = (front s, 0) := by
  unfold openS; rw [if_neg (by omega), if_pos h]
theorem openS_bad (s : ByteArray) (h4 : 4 ≤ s.size) (h : goodB s = false) : openS s = (ByteArray.empty, 20) := by
  unfold openS; rw [if_neg (by omega), if_neg (by simp [h])]
theorem openS_short (s : ByteArray) (h4 : s.size < 4) : openS s = (ByteArray.empty, 10) := by
  unfold openS; rw [if_pos h4]

set_option maxHeartbeats 1000000 in
theorem open_good (s : ByteArray) (w : World) (h4 : 4 ≤ s.size) (hs : s.size ≤ 1000000000) (hg : goodB s = true) :
    Calls Try.prog 10 #[.string s] w fun e w' => e = .returned (.tuple #[.string (front s), .int .i64 0]) ∧ Below w.heap.size w w' := by
  have hf : (front s).size ≤ 1000000000 := by unfold front; rw [ByteArray.size_extract]; omega
  have e4 : ((s.size : Int) - 4).toNat = s.size - 4 := by omega
  have e5 : s.extract (s.size - 4) s.size = back s := rfl
  have e6 : s.extract 0 (s.size - 4) = front s := rfl
  have i1 : (0 : Int) ≤ (s.size : Int) - 4 := by omega
  have i2 : (s.size : Int) - 4 ≤ (s.size : Int) := by omega
  have hgd := (good_beq s).trans hg
  clear hg
  go_enter Try.func10, Try.ntmps10
  go_wp2_with fail
  go_region_with (go_at_call 18; refine (tail_any (front s) _ hf).mono ?_; rintro e w1 ⟨rfl, hb1⟩)
  all_goals go_wp2_with fail
  all_goals go_ret2
  all_goals exact ⟨rfl, (Below.refl _ _).drew.trans hb1⟩

set_option maxHeartbeats 1000000 in
theorem open_bad (s : ByteArray) (w : World) (h4 : 4 ≤ s.size) (hs : s.size ≤ 1000000000) (hg : goodB s = false) :
    Calls Try.prog 10 #[.string s] w fun e w' => e = .returned (.tuple #[.string ByteArray.empty, .int .i64 20]) ∧ Below w.heap.size w w' := by
  have hf : (front s).size ≤ 1000000000 := by unfold front; rw [ByteArray.size_extract]; omega
  have e4 : ((s.size : Int) - 4).toNat = s.size - 4 := by omega
  have e5 : s.extract (s.size - 4) s.size = back s := rfl
  have e6 : s.extract 0 (s.size - 4) = front s := rfl
  have i1 : (0 : Int) ≤ (s.size : Int) - 4 := by omega
  have i2 : (s.size : Int) - 4 ≤ (s.size : Int) := by omega
  have hgd := (good_beq s).trans hg
  clear hg
  go_enter Try.func10, Try.ntmps10
  go_wp2_with fail
  go_region_with (go_at_call 18; refine (tail_any (front s) _ hf).mono ?_; rintro e w1 ⟨rfl, hb1⟩)
  all_goals go_wp2_with fail
  all_goals go_ret2
  all_goals exact ⟨rfl, (Below.refl _ _).drew.trans hb1⟩

theorem open_any (s : ByteArray) (w : World) (hs : s.size ≤ 1000000000) :
    Calls Try.prog 10 #[.string s] w fun e w' => e = .returned (.tuple #[.string (openS s).1, .int .i64 (openS s).2]) ∧ Below w.heap.size w w' := by
  by_cases h4 : 4 ≤ s.size
  · cases hg : goodB s
    · rw [openS_bad s h4 hg]; exact open_bad s w h4 hs hg
    · rw [openS_good s h4 hg]; exact open_good s w h4 hs hg
  · rw [openS_short s (by omega)]
    refine (open_short s w (by omega)).mono ?_
    rintro e w' ⟨rfl, rfl⟩
    exact ⟨rfl, Below.refl _ _⟩
end Go.Proofs.Ytlklobapdljpkaa
