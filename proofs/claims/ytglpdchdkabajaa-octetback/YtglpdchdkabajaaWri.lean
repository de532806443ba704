/-
  The walks of octet's Writer: what each call writes, or its error.
-/
import Derived.Test.YtglpdchdkabajaaProg
import Derived.Test.YtglpdchdkabajaaMath
import Derived.WalkLawsBesides
import Derived.Deep.LoopGhost
namespace Go.Proofs.Ytglpdchdkabajaa
open Go.RowKit

theorem Try.info5 : (Try.prog.info? 5).map (fun i => (i.zero, i.size, i.bytes)) = some (some (.int .u8 0), 1, 1) := by kernel_rfl

abbrev W27 := Wr 27 5

set_option maxHeartbeats 400000 in
theorem wnum_any (B p : Nat) (v : Value) (l : List Int) (n width : Int) (w : World) (hw1 : 1 ≤ width) (hw2 : width ≤ 8) (hn : n / 2 ^ (8 * width).toNat = 0) (hW : W27 B p v l w) (hl : l.length ≤ 1000000000) :
    Calls Try.prog 10 #[.pointer (some ⟨p, 0, none⟩), .int .u64 n, .int .i64 width] w fun e w' => e = .returned (.int .i64 0) ∧
      (∃ v', W27 B p v' (l ++ le width.toNat n) w') ∧ But B p w w' := by
  obtain ⟨i0, hi, hz0, hz1, hz2⟩ := info_parts Try.info5
  go_enter Try.func10, Try.ntmps10
  go_wp2
  go_loopg [1, 18] width.toNat (fun gk m i wr => ∃ k : Nat, k + gk = width.toNat ∧ i = .int .i64 k ∧ m = .int .u64 (n / 256 ^ k) ∧ (∃ v', W27 B p v' (l ++ le k n) wr) ∧ But B p w wr)
  case atStart => exact ⟨0, by omega, rfl, by simp, ⟨v, by simpa [le] using hW⟩, But.refl _ _ _⟩
  case round =>
    obtain ⟨k, hk, rfl, rfl, ⟨v', hWr⟩, hBr⟩ := hrel
    by_cases hlt : (k : Int) < width
    · have hll : (l ++ le k n).length ≤ 1000000008 := by simp [le_length]; omega
      generalize hL : l ++ le k n = L at hWr hll
      have HL : Hid (l ++ le k n = L) := hL; clear hL
      have hcell := hWr.cell
      have hfz := hWr.frozen
      have hps := hWr.size
      go_wp2_with (at_builtin; refine wpList_append_own _ rfl (.tmp 24) (.tmp 27) 25 rfl B 5 i0 (.int .u8 0) 1 1 Try.underlying25 hi hz0 hz1 hz2 rfl (by decide) _ _ _ rfl (hWr.own.alloc _) ⟨wr.heap.size, 0, none⟩ 1 1 [.int .u8 (n / 256 ^ k % 256)] rfl rfl ?c1 ?c2 ?c3 ?c4 ?c5 ?_)
      case c1 => exact cell_one_new _ _ _
      case c2 => intro u hu; simp at hu; subst hu; rfl
      case c3 => unfold maxLen; omega
      case c4 => omega
      case c5 => have := hWr.le; simp; omega
      intro v1 w1 hown hgrow _
      obtain ⟨g, M, cap, rfl⟩ := ownsRow_shape hown (by omega)
      obtain ⟨R1, R2, R3, R4, R5⟩ := hWr.grow _ w1 hown hgrow
      clear hown hgrow hcell hfz hps
      go_wp2
      go_roundg (gk - 1)
      case rel =>
        refine ⟨k + 1, by omega, by go_num, ?_, ⟨.slice (some ⟨g, 0, none⟩) M cap, ?_⟩, hBr.trans R2⟩
        · rw [Int.pow_succ, ← Int.ediv_ediv_of_nonneg (by exact Int.pow_nonneg (by decide))]
        · rw [le, ← List.append_assoc, HL.out]; exact R1
      case measure => omega
    · go_wp2
      go_ret
      have e : k = width.toNat := by omega
      subst e
      exact ⟨rfl, ⟨v', hWr⟩, hBr⟩
set_option maxHeartbeats 400000 in
theorem wnum_width (p : Value) (n width : Int) (w : World) (h : width < 1 ∨ 8 < width) :
    Calls Try.prog 10 #[p, .int .u64 n, .int .i64 width] w fun e w' => e = .returned (.int .i64 1) ∧ w' = w := by
  rcases h with h | h
  all_goals
    go_enter Try.func10, Try.ntmps10
    go_wp2
    go_ret
    exact ⟨rfl, rfl⟩

set_option maxHeartbeats 400000 in
theorem wnum_great (p : Value) (n width : Int) (w : World) (hw1 : 1 ≤ width) (hw2 : width ≤ 8) (hn : (n / 2 ^ (8 * width).toNat != 0) = true) :
    Calls Try.prog 10 #[p, .int .u64 n, .int .i64 width] w fun e w' => e = .returned (.int .i64 1) ∧ w' = w := by
  go_enter Try.func10, Try.ntmps10
  go_wp2
  go_ret
  exact ⟨rfl, rfl⟩

/-- What is no number. -/
def nan (b : Nat) : Bool := (FloatKind.f64.format.order b b != some Ordering.eq)
def bitsOf (b : Nat) : Nat := if nan b then 9221120237041090561 else b

theorem f35 (b : Nat) (w : World) : (callFunc 35 #[.float .f64 b]).run Try.prog w = .ok (.value (.int .u64 b)) w :=
  run_callFunc_extern Try.func35 (by kernel_rfl) (by kernel_rfl) (by kernel_rfl) (e := Extern.MathFloatBits.float64bits) (by kernel_rfl) _ _
theorem f29 (n : Int) (w : World) : (callFunc 29 #[.int .u64 n]).run Try.prog w = .ok (.value (.float .f64 n.toNat)) w :=
  run_callFunc_extern Try.func29 (by kernel_rfl) (by kernel_rfl) (by kernel_rfl) (e := Extern.MathFloatBits.float64frombits) (by kernel_rfl) _ _

set_option maxHeartbeats 400000 in
theorem bits_any (b : Nat) (w : World) : Calls Try.prog 31 #[.float .f64 b] w fun e w' => e = .returned (.int .u64 (bitsOf b)) ∧ w' = w := by
  have h35 := f35
  have hb : bitsOf b = if (FloatKind.f64.format.order b b != some Ordering.eq) = true then 9221120237041090561 else b := rfl
  have HB : Hid _ := hb
  clear hb
  cases hn : (FloatKind.f64.format.order b b != some Ordering.eq) <;> rw [hn] at HB
  all_goals
    go_enter Try.func31, Try.ntmps31
    go_wp2
    go_ret
    rw [HB.out]
    exact ⟨rfl, rfl⟩

set_option maxHeartbeats 400000 in
theorem bytes_any (B p : Nat) (v : Value) (l : List Int) (w : World) (hW : W27 B p v l w) :
    Calls Try.prog 16 #[.pointer (some ⟨p, 0, none⟩)] w fun e w' => e = .returned (.string (strOfNums l)) ∧ w' = w := by
  have hcell := hW.cell
  have hc : (convert 25 9 v).run Try.prog w = .ok (.string (strOfNums l)) w := by
    rcases hW.own.2 with ⟨hv, hn⟩ | ⟨g, cap, cur, hv, _⟩
    · have : l = [] := List.length_eq_zero_iff.1 hn
      subst this; subst hv
      exact run_convert_bytes_nil w 25 5 Try.underlying25 Try.underlying5 0 0 9 Try.underlying9
    · subst hv
      have hcl := hW.own.cells (g := g) rfl
      refine run_convert_bytes_arg w 25 5 Try.underlying25 Try.underlying5 g 0 l.length cap l rfl (fun i hi => ?_) 9 Try.underlying9
      have := hcl i (.int .u8 (l.getD i 0)) (by simp [List.getElem?_eq_getElem hi])
      rw [← this]; unfold Addr.add; split <;> simp_all
  go_enter Try.func16, Try.ntmps16
  go_wp2
  go_ret
  exact ⟨rfl, rfl⟩

theorem bitsOf_lt (b : Nat) (h : b < 2 ^ 64) : bitsOf b < 2 ^ 64 := by
  unfold bitsOf; split
  · decide
  · exact h
theorem bits_div (b : Nat) (h : b < 2 ^ 64) : ((bitsOf b : Nat) : Int) / 2 ^ (8 * (8 : Int)).toNat = 0 := by
  refine small_div _ (Int.natCast_nonneg _) _ ?_
  have := bitsOf_lt b h
  show ((bitsOf b : Nat) : Int) < 2 ^ 64
  exact_mod_cast this

set_option maxHeartbeats 400000 in
theorem wreal_any (B p : Nat) (v : Value) (l : List Int) (b : Nat) (w : World) (hb : Hid (b < 2 ^ 64)) (hW : W27 B p v l w) (hl : l.length ≤ 1000000000) :
    Calls Try.prog 12 #[.pointer (some ⟨p, 0, none⟩), .float .f64 b] w fun e w' => e = .returned (.tuple #[]) ∧
      (∃ v', W27 B p v' (l ++ le 8 (bitsOf b)) w') ∧ But B p w w' := by
  go_enter Try.func12, Try.ntmps12
  go_wp2_with (first
    | (go_at_call 31; refine (bits_any _ _).mono ?_; rintro e w' ⟨rfl, rfl⟩)
    | (go_at_call 10; refine (wnum_any B p v l _ 8 _ (by decide) (by decide) (bits_div b hb.out) hW hl).mono ?_; rintro e w' ⟨rfl, ⟨v', h1⟩, h2⟩))
  go_end0
  exact ⟨rfl, ⟨v', h1⟩, h2⟩

set_option maxHeartbeats 400000 in
theorem wtext_any (B p : Nat) (v : Value) (l : List Int) (s : ByteArray) (w : World) (hs : s.size ≤ 65535) (hW : W27 B p v l w) (hl : l.length ≤ 1000000000) :
    Calls Try.prog 14 #[.pointer (some ⟨p, 0, none⟩), .string s] w fun e w' => e = .returned (.int .i64 0) ∧
      (∃ v', W27 B p v' (l ++ (le 2 s.size ++ ints s)) w') ∧ But B p w w' := by
  obtain ⟨i0, hi, hz0, hz1, hz2⟩ := info_parts Try.info5
  go_enter Try.func14, Try.ntmps14
  go_wp2_with (first
    | (go_at_call 10; refine (wnum_any B p v l _ 2 _ (by decide) (by decide) (len_div _ hs) hW hl).mono ?_; rintro e w1 ⟨rfl, ⟨v1, h1⟩, h2⟩; have hc := h1.cell; have hf := h1.frozen; have hz := h1.size; have hll : (l ++ le (Int.toNat 2) ↑s.size).length ≤ 1000000002 := (by rw [List.length_append, le_length]; omega); have hle := h1.le)
    | (at_builtin; refine Lib.wpList_append_own_string _ rfl (.tmp 17) (.tmp 18) 25 9 rfl B 5 i0 Try.underlying25 Try.underlying9 hi hz0 hz1 hz2 _ _ _ rfl h1.own s rfl (by unfold maxLen; omega) (by omega) hle ?_))
  intro v2 w2 hown hgrow _
  have hown' : w2.ownsRow B 5 1 v2 ((l ++ le 2 s.size).length + (ints s).length) ((l ++ le 2 s.size).map (Value.int .u8) ++ (ints s).map (Value.int .u8)) := by
    rw [ints_length, ints_cells]; simpa using hown
  clear hown
  obtain ⟨g, M, cap, rfl⟩ := ownsRow_shape hown' (by simp [le_length]; omega)
  obtain ⟨R1, R2, R3, R4, R5⟩ := h1.growText (ints s) w2 hown' hgrow
  clear hown' hgrow hc hf hz
  go_wp2
  go_ret
  refine ⟨rfl, ⟨.slice (some ⟨g, 0, none⟩) M cap, ?_⟩, h2.trans R2⟩
  rw [← List.append_assoc]; exact R1

set_option maxHeartbeats 400000 in
theorem wtext_wide (p : Value) (s : ByteArray) (w : World) (hs : 65535 < s.size) :
    Calls Try.prog 14 #[p, .string s] w fun e w' => e = .returned (.int .i64 12) ∧ w' = w := by
  go_enter Try.func14, Try.ntmps14
  go_wp2
  go_ret
  exact ⟨rfl, rfl⟩
end Go.Proofs.Ytglpdchdkabajaa
