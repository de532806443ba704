/-
  BandNext, walked: it tells true of any band and any byte.
-/
import Derived.Test.YtclhmocdeiebbaaDoorRef
import Derived.Test.YtclhmocdeiebbaaDoorMta
namespace Go.Proofs.YtclhmocdeiebbaaDoor
open Go.RowKit

set_option maxRecDepth 100000 in
set_option maxHeartbeats 2000000 in
theorem bnext_zero (n : Int) (hn0 : 0 ≤ n) (hn1 : n ≤ 255) (w : World) (hT : Tab w) :
    Calls Tryd.prog 7 #[.int .u64 0, .int .u8 n] w fun e w' => e = .returned (.bool true) ∧ Below w.heap.size w w' := by
  have h0 := hT.lt
  have hx := next_any 0 (by decide) (n % 64) w hT
  rw [next_zero] at hx
  go_enter Tryd.func7, Tryd.ntmps7
  go_wp2_with fail
  refine hx.mono ?_
  rintro e w1 ⟨rfl, hB⟩
  go_wp2_with fail
  refine (shown_any _ (hT.below h0 hB)).mono ?_
  rintro e w2 ⟨rfl, hB2⟩
  go_wp2_with fail
  go_ret
  exact ⟨rfl, hB.trans (hB2.mono hB.size)⟩

set_option maxRecDepth 100000 in
set_option maxHeartbeats 2000000 in
theorem bnext_any (b : Nat) (hb : b < lim) (hb0 : b ≠ 0) (n : Int) (hn0 : 0 ≤ n) (hn1 : n ≤ 255) (w : World) (hT : Tab w) :
    Calls Tryd.prog 7 #[.int .u64 b, .int .u8 n] w fun e w' => e = .returned (.bool true) ∧ Below w.heap.size w w' := by
  have h0 := hT.lt
  have hbz : ((b : Int) == 0) = false := by simp; omega
  obtain ⟨k, hk, hk64⟩ : ∃ k : Nat, n % 64 = (k : Int) ∧ k < 64 := ⟨(n % 64).toNat, by omega, by omega⟩
  have hx := next_any b hb (k : Int) w hT
  have hfound := fun (i : Int) (h1 : hasS b i = true) h2 h3 => next_found (b := b) (k := (k : Int)) (i := i) h1 h2 h3
  have hlast := fun h => next_last (b := b) (k := (k : Int)) h
  obtain ⟨hf1, hf2⟩ := first_has hb hb0
  have hfi := fun w hT => first_any b hb w hT
  generalize nextS b (k : Int) = r at *
  obtain ⟨x, is⟩ := r
  generalize firstS b = f at *
  obtain ⟨y, has⟩ := f
  dsimp only at hx hf1 hf2 hfi
  subst hf1
  go_enter Tryd.func7, Tryd.ntmps7
  go_wp2_with fail
  refine hx.mono ?_
  rintro e w1 ⟨rfl, hB⟩
  have T1 := hT.below h0 hB
  go_wp2_with fail
  go_loopg [8] (63 - k) (fun gk t8 wr => ∃ i : Nat, i + gk = 64 ∧ k < i ∧ t8 = .int .i64 i ∧ (∀ j : Int, (k : Int) < j → j < i → hasS b j = false) ∧ wr = w1)
  case atStart => exact ⟨k + 1, by omega, by omega, by go_num, fun j h1 h2 => by omega, rfl⟩
  case round =>
    obtain ⟨i, hi, hki, rfl, hno, rfl⟩ := hrel
    by_cases hlt : (i : Int) < 64
    · have hh := rhas_any b hb (i : Int) wr
      cases h : hasS b (i : Int)
      · rw [h] at hh
        go_wp2_with fail
        refine hh.mono ?_
        rintro e w2 ⟨rfl, hw2⟩
        subst hw2
        go_wp2_with fail
        go_roundg (gk - 1)
        case rel =>
          refine ⟨i + 1, by omega, by omega, by go_num, fun j h1 h2 => ?_, rfl⟩
          by_cases e : j = (i : Int)
          · rw [e]; exact h
          · exact hno j h1 (by omega)
        case measure => omega
      · rw [h] at hh
        have hr := hfound (i : Int) h (by omega) hno
        obtain ⟨rfl, rfl⟩ : x = (i : Int) ∧ is = true := by simpa using hr
        clear hfound hlast hr
        go_wp2_with fail
        refine hh.mono ?_
        rintro e w2 ⟨rfl, hw2⟩
        subst hw2
        go_wp2_with fail
        refine (shown_any _ T1).mono ?_
        rintro e w2 ⟨rfl, hB2⟩
        go_wp2_with fail
        go_ret
        exact ⟨rfl, hB.trans (hB2.mono hB.size)⟩
    · obtain rfl : i = 64 := by omega
      have hr := hlast hno
      obtain ⟨rfl, rfl⟩ : x = y ∧ is = true := by simpa using hr
      have hfi := hfi wr T1
      have hh := fun w => rhas_any b hb x w
      rw [hf2] at hh
      clear hfound hlast hr
      go_wp2_with fail
      refine hfi.mono ?_
      rintro e w2 ⟨rfl, hB2⟩
      have hB2' := hB.trans (hB2.mono hB.size)
      have T2 := hT.below h0 hB2'
      go_wp2_with fail
      refine (hh _).mono ?_
      rintro e w3 ⟨rfl, hw3⟩
      subst hw3
      go_wp2_with fail
      refine (shown_any _ T2).mono ?_
      rintro e w3 ⟨rfl, hB3⟩
      go_wp2_with fail
      go_ret
      exact ⟨rfl, hB2'.trans (hB3.mono hB2'.size)⟩

end Go.Proofs.YtclhmocdeiebbaaDoor
