/-
  The walks of octet's Reader: what each call reads, or its error.
-/
import Derived.Test.YtglpdchdkabajaaWri
import Derived.Defers
import Derived.Recover
import Derived.Deep.QuietTactic
import Derived.BigQuiet
namespace Go.Proofs.Ytglpdchdkabajaa
open Go.RowKit

/-- The reader at block p: of the text s, at place k. -/
def Rd (T : TypeId) (p : Nat) (s : ByteArray) (k : Nat) (w : World) : Prop := w.heap[p]? = some (.cells #[.string s, .int .i64 k] T (0, 0))

theorem Rd.cell0 {T : TypeId} {p : Nat} {s : ByteArray} {k : Nat} {w : World} (h : Rd T p s k w) : w.cell? ⟨p, 0, none⟩ = some (.string s) := by unfold Rd at h; simp [World.cell?, h]
theorem Rd.cell1 {T : TypeId} {p : Nat} {s : ByteArray} {k : Nat} {w : World} (h : Rd T p s k w) : w.cell? ⟨p, 1, none⟩ = some (.int .i64 k) := by unfold Rd at h; simp [World.cell?, h]
theorem Rd.frozen {T : TypeId} {p : Nat} {s : ByteArray} {k : Nat} {w : World} (h : Rd T p s k w) (o : Nat) : w.frozen? ⟨p, o, none⟩ = false := by unfold Rd at h; simp [World.frozen?, h]
theorem Rd.lt {T : TypeId} {p : Nat} {s : ByteArray} {k : Nat} {w : World} (h : Rd T p s k w) : p < w.heap.size := by
  unfold Rd at h; exact (Array.getElem?_eq_some_iff.1 h).1
theorem Rd.set {T : TypeId} {p : Nat} {s : ByteArray} {k : Nat} {w : World} (h : Rd T p s k w) (k' : Nat) : Rd T p s k' (w.setCell ⟨p, 1, none⟩ (.int .i64 k')) := by
  unfold Rd at *; simp [World.setCell, Array.getElem?_modify, h]

set_option maxHeartbeats 400000 in
theorem left_any (p : Nat) (s : ByteArray) (k : Nat) (w : World) (h : Rd 63 p s k w) (hk : k ≤ s.size) (hs : s.size ≤ 1000000000) :
    Calls Try.prog 25 #[.pointer (some ⟨p, 0, none⟩)] w fun e w' => e = .returned (.int .i64 (s.size - k)) ∧ w' = w.drew := by
  have h0 := h.cell0
  have h1 := h.cell1
  go_enter Try.func25, Try.ntmps25
  go_wp2
  go_region
  all_goals go_wp2
  all_goals go_ret
  all_goals exact ⟨rfl, rfl⟩

set_option maxHeartbeats 400000 in
theorem undo_ok (a b c q : Nat) (u : FrameMode) (w : World) (ha : w.cell? ⟨a, 0, none⟩ = some (.pointer (some ⟨q, 0, none⟩))) (hq : w.cell? ⟨q, 0, none⟩ = some (.int .i64 0)) :
    CallsD Try.prog 37 #[.pointer (some ⟨a, 0, none⟩), .pointer (some ⟨b, 0, none⟩), .pointer (some ⟨c, 0, none⟩)] u w fun e u' w' => u' = u ∧ (e = .returned (.tuple #[]) ∧ w' = w) := by
  go_enter_d Try.func37, Try.ntmps37
  go_wp2
  go_end0
  exact ⟨rfl, rfl⟩

set_option maxHeartbeats 400000 in
theorem undo_back (a b c q p : Nat) (e k : Int) (s : ByteArray) (m : Nat) (u : FrameMode) (w : World) (he : (e != 0) = true) (ha : w.cell? ⟨a, 0, none⟩ = some (.pointer (some ⟨q, 0, none⟩))) (hq : w.cell? ⟨q, 0, none⟩ = some (.int .i64 e))
    (hb : w.cell? ⟨b, 0, none⟩ = some (.int .i64 k)) (hc : w.cell? ⟨c, 0, none⟩ = some (.pointer (some ⟨p, 0, none⟩))) (h : Rd 63 p s m w) :
    CallsD Try.prog 37 #[.pointer (some ⟨a, 0, none⟩), .pointer (some ⟨b, 0, none⟩), .pointer (some ⟨c, 0, none⟩)] u w fun e u' w' => u' = u ∧ (e = .returned (.tuple #[]) ∧ w' = w.setCell ⟨p, 1, none⟩ (.int .i64 k)) := by
  have h0 := h.cell0
  have h1 := h.cell1
  have hf := h.frozen
  go_enter_d Try.func37, Try.ntmps37
  go_wp2
  go_end0
  exact ⟨rfl, rfl⟩

set_option maxHeartbeats 400000 in
theorem back_any (p q : Nat) (s : ByteArray) (k : Nat) (w : World) (h : Rd 63 p s k w) :
    Calls Try.prog 33 #[.pointer (some ⟨p, 0, none⟩), .pointer (some ⟨q, 0, none⟩)] w fun e w' => e = .returned (.func (.func 37) #[] #[.pointer (some ⟨w.heap.size + 1, 0, none⟩), .pointer (some ⟨w.heap.size + 2, 0, none⟩), .pointer (some ⟨w.heap.size, 0, none⟩)]) ∧
      w' = ((w.alloc (.cells #[.pointer (some ⟨p, 0, none⟩)] 42)).alloc (.cells #[.pointer (some ⟨q, 0, none⟩)] 65)).alloc (.cells #[.int .i64 k] 3) := by
  have h0 := h.cell0
  have h1 := h.cell1
  have hp := h.lt
  have hmf : ∀ (fn : Fn) (first cap : Array Value) (w : World), (Instr.makeFunc fn first cap).run Try.prog w = .ok (.func fn first cap) w := fun _ _ _ _ => rfl
  go_enter Try.func33, Try.ntmps33
  go_wp2
  go_ret
  exact ⟨rfl, rfl⟩

/-- What a read lays: its error, and what goes back. -/
structure Un (x : Int) (N p : Nat) (k : Int) (w : World) : Prop where
  e : w.heap[N]? = some (.cells #[.int .i64 x] 32 (0, 0))
  r : w.heap[N + 1]? = some (.cells #[.pointer (some ⟨p, 0, none⟩)] 42 (0, 0))
  a : w.heap[N + 2]? = some (.cells #[.pointer (some ⟨N, 0, none⟩)] 65 (0, 0))
  b : w.heap[N + 3]? = some (.cells #[.int .i64 k] 3 (0, 0))

theorem Un.new (w : World) (p : Nat) (k : Int) : Un 0 w.heap.size p k ((((w.alloc (.cells #[.int .i64 0] 32)).alloc (.cells #[.pointer (some ⟨p, 0, none⟩)] 42)).alloc (.cells #[.pointer (some ⟨w.heap.size, 0, none⟩)] 65)).alloc (.cells #[.int .i64 k] 3)) := by
  refine ⟨?_, ?_, ?_, ?_⟩
  all_goals (show ((((w.heap.push _).push _).push _).push _)[_]? = _; simp only [Array.getElem?_push, Array.size_push])
  · rw [if_neg (by omega), if_neg (by omega), if_neg (by omega), if_pos trivial]
  · rw [if_neg (by omega), if_neg (by omega), if_pos trivial]
  · rw [if_neg (by omega), if_pos trivial]
  · rw [if_pos trivial]
theorem Un.setCell {x : Int} {N p : Nat} {k : Int} {w : World} (h : Un x N p k w) {q : Addr} (hq : q.block < N) (v : Value) : Un x N p k (w.setCell q v) :=
  ⟨(Below.heap_setCell _ _ _ _ (by omega)).trans h.e, (Below.heap_setCell _ _ _ _ (by omega)).trans h.r, (Below.heap_setCell _ _ _ _ (by omega)).trans h.a, (Below.heap_setCell _ _ _ _ (by omega)).trans h.b⟩
theorem Un.drewN {x : Int} {N p : Nat} {k : Int} {w : World} (h : Un x N p k w) (n : Nat) : Un x N p k (w.drewN n) := ⟨h.e, h.r, h.a, h.b⟩
theorem cell_at {w : World} {N : Nat} {v : Value} {T : TypeId} (h : w.heap[N]? = some (.cells #[v] T (0, 0))) : w.cell? ⟨N, 0, none⟩ = some v := by simp [World.cell?, h]
theorem frozen_at {w : World} {N : Nat} {v : Value} {T : TypeId} (h : w.heap[N]? = some (.cells #[v] T (0, 0))) : w.frozen? ⟨N, 0, none⟩ = false := by simp [World.frozen?, h]

theorem Un.put {x : Int} {N p : Nat} {k : Int} {w : World} (h : Un x N p k w) (y : Int) : Un y N p k (w.setCell ⟨N, 0, none⟩ (.int .i64 y)) := by
  have he : (w.setCell ⟨N, 0, none⟩ (.int .i64 y)).heap[N]? = some (.cells #[.int .i64 y] 32 (0, 0)) := by simp [World.setCell, Array.getElem?_modify, h.e]
  exact ⟨he, (Below.heap_setCell _ _ _ _ (by simp)).trans h.r, (Below.heap_setCell _ _ _ _ (by simp)).trans h.a, (Below.heap_setCell _ _ _ _ (by simp)).trans h.b⟩
theorem Un.drew {x : Int} {N p : Nat} {k : Int} {w : World} (h : Un x N p k w) : Un x N p k w.drew := ⟨h.e, h.r, h.a, h.b⟩
theorem Un.cells {x : Int} {N p : Nat} {k : Int} {w : World} (h : Un x N p k w) :
    w.cell? ⟨N, 0, none⟩ = some (.int .i64 x) ∧ w.cell? ⟨N + 1, 0, none⟩ = some (.pointer (some ⟨p, 0, none⟩)) ∧ w.cell? ⟨N + 2, 0, none⟩ = some (.pointer (some ⟨N, 0, none⟩)) ∧ w.cell? ⟨N + 3, 0, none⟩ = some (.int .i64 k) :=
  ⟨cell_at h.e, cell_at h.r, cell_at h.a, cell_at h.b⟩
theorem Rd.setOther {T : TypeId} {p : Nat} {s : ByteArray} {k : Nat} {w : World} (h : Rd T p s k w) {q : Addr} (hq : p ≠ q.block) (v : Value) : Rd T p s k (w.setCell q v) :=
  (Below.heap_setCell _ _ _ _ hq).trans h

set_option maxHeartbeats 1000000 in
theorem rnum_ok (p : Nat) (s : ByteArray) (k : Nat) (width : Int) (w : World) (h : Rd 63 p s k w) (hw1 : 1 ≤ width) (hw2 : width ≤ 8) (hk : k + width.toNat ≤ s.size) (hs : s.size ≤ 1000000000) :
    Calls Try.prog 18 #[.pointer (some ⟨p, 0, none⟩), .int .i64 width] w fun e w' => e = .returned (.tuple #[.int .u64 (ofLE (((ints s).drop k).take width.toNat)), .int .i64 0]) ∧ Rd 63 p s (k + width.toNat) w' ∧ But w.heap.size p w w' := by
  have hp := h.lt
  go_enter_defers Try.func18, Try.ntmps18
  go_wp2_with (first
    | (go_at_call 30; go_in)
    | (go_at_call 33; refine (back_any p w.heap.size s k _ ?hb).mono ?_; rotate_right; rintro e w' ⟨rfl, rfl⟩))
  case hb => exact (Below.heap_alloc _ _ _ hp).trans h
  go_loopg [4, 13] width.toNat (fun gk n i wr => ∃ j : Nat, j + gk = width.toNat ∧ i = .int .i64 j ∧ n = .int .u64 (ofLE (((ints s).drop k).take j)) ∧ Rd 63 p s (k + j) wr ∧ Un 0 w.heap.size p k wr ∧ But w.heap.size p w wr)
  case atStart =>
    refine ⟨0, by omega, rfl, rfl, ?_, Un.new w p k, ?_⟩
    · exact (Below.heap_alloc _ _ _ (by simp; omega)).trans ((Below.heap_alloc _ _ _ (by simp; omega)).trans ((Below.heap_alloc _ _ _ (by simp; omega)).trans ((Below.heap_alloc _ _ _ hp).trans h)))
    · exact (((((But.refl _ _ _).alloc (Nat.le_refl _) _).alloc (by simp) _).alloc (by simp; omega) _).alloc (by simp; omega) _)
  case round =>
    obtain ⟨j, hj, rfl, rfl, hR, hU, hB⟩ := hrel
    by_cases hlt : (j : Int) < width
    · obtain ⟨m, hm⟩ : ∃ m, m = k + j := ⟨_, rfl⟩
      rw [← hm] at hR
      have hms : (m : Int) < s.size := by omega
      have HM : Hid _ := hm
      clear hm
      have h0 := hR.cell0
      have h1 := hR.cell1
      have hf := hR.frozen
      have hpr := hR.lt
      have hz : (((s.size : Int) - (m : Int)) == 0) = false := beq_eq_false_iff_ne.2 (by omega)
      generalize hN : ofLE (((ints s).drop k).take j) = nn
      have HN : Hid _ := hN
      clear hN
      go_wp2_with (go_at_call 25; refine (left_any p s m _ hR (by omega) hs).mono ?_; rintro e w' ⟨rfl, rfl⟩)
      go_quiet (fail)
      go_wp2
      go_roundg (gk - 1)
      case measure => omega
      case rel =>
        have hm := HM.out
        have hN := HN.out
        subst hm
        refine ⟨j + 1, by omega, by go_num, ?_, ?_, ?_, ?_⟩
        · rw [← num_step s k j (by omega) (by omega), hN]
        · exact hR.set (k + j + 1)
        · exact (hU.drewN _).setCell (q := ⟨p, 1, none⟩) hp _
        · exact (hB.drewN _).setCell (q := ⟨p, 1, none⟩) (Or.inl rfl) _
    · have hce := cell_at hU.e
      have hfe := frozen_at hU.e
      have e : j = width.toNat := by omega
      subst e
      go_wp2
      refine leaves_cons (f := 37) (args := #[.pointer (some ⟨w.heap.size + 2, 0, none⟩), .pointer (some ⟨w.heap.size + 3, 0, none⟩), .pointer (some ⟨w.heap.size + 1, 0, none⟩)]) (by simp) (by simp [go_sem]) ?_
      refine (undo_ok _ _ _ w.heap.size _ _ ?_ ?_).mono ?_
      · exact (hU.put _).cells.2.2.1
      · exact (hU.put _).cells.1
      · rintro e u' w'' ⟨rfl, rfl, rfl⟩
        have hE := (hU.put 0).cells.1
        simp [Leaves, settle, results, Try.results18, go_sem, hE]
        exact ⟨hR.setOther (q := ⟨w.heap.size, 0, none⟩) (Nat.ne_of_lt hp) _, hB.setCell (q := ⟨w.heap.size, 0, none⟩) (Or.inr (Nat.le_refl _)) _⟩

set_option maxHeartbeats 1000000 in
theorem rnum_short (p : Nat) (s : ByteArray) (k : Nat) (width : Int) (w : World) (h : Rd 63 p s k w) (hw1 : 1 ≤ width) (hw2 : width ≤ 8) (hk0 : k ≤ s.size) (hk : s.size < k + width.toNat) (hs : s.size ≤ 1000000000) :
    Calls Try.prog 18 #[.pointer (some ⟨p, 0, none⟩), .int .i64 width] w fun e w' => e = .returned (.tuple #[.int .u64 0, .int .i64 10]) ∧ Rd 63 p s k w' ∧ But w.heap.size p w w' := by
  have hp := h.lt
  go_enter_defers Try.func18, Try.ntmps18
  go_wp2_with (first
    | (go_at_call 30; go_in)
    | (go_at_call 33; refine (back_any p w.heap.size s k _ ?hb).mono ?_; rotate_right; rintro e w' ⟨rfl, rfl⟩))
  case hb => exact (Below.heap_alloc _ _ _ hp).trans h
  go_loopg [4, 13] (s.size - k) (fun gk n i wr => ∃ j : Nat, j + gk = s.size - k ∧ i = .int .i64 j ∧ (∃ m, n = .int .u64 m) ∧ Rd 63 p s (k + j) wr ∧ Un 0 w.heap.size p k wr ∧ But w.heap.size p w wr)
  case atStart =>
    refine ⟨0, by omega, rfl, ⟨0, rfl⟩, ?_, Un.new w p k, ?_⟩
    · exact (Below.heap_alloc _ _ _ (by simp; omega)).trans ((Below.heap_alloc _ _ _ (by simp; omega)).trans ((Below.heap_alloc _ _ _ (by simp; omega)).trans ((Below.heap_alloc _ _ _ hp).trans h)))
    · exact (((((But.refl _ _ _).alloc (Nat.le_refl _) _).alloc (by simp) _).alloc (by simp; omega) _).alloc (by simp; omega) _)
  case round =>
    obtain ⟨j, hj, rfl, ⟨nn, rfl⟩, hR, hU, hB⟩ := hrel
    obtain ⟨m, hm⟩ : ∃ m, m = k + j := ⟨_, rfl⟩
    rw [← hm] at hR
    have hms : (m : Int) ≤ s.size := by omega
    have hlt : (j : Int) < width := by omega
    have h0 := hR.cell0
    have h1 := hR.cell1
    have hf := hR.frozen
    have hpr := hR.lt
    have hce := cell_at hU.e
    have hfe := frozen_at hU.e
    by_cases hl : m < s.size
    · have hz : (((s.size : Int) - (m : Int)) == 0) = false := beq_eq_false_iff_ne.2 (by omega)
      have hms : (m : Int) < s.size := by omega
      have HM : Hid _ := hm
      clear hm
      go_wp2_with (go_at_call 25; refine (left_any p s m _ hR (by omega) hs).mono ?_; rintro e w' ⟨rfl, rfl⟩)
      go_quiet (fail)
      go_wp2
      go_roundg (gk - 1)
      case measure => have hm := HM.out; omega
      case rel =>
        have hm := HM.out
        subst hm
        refine ⟨j + 1, by omega, by go_num, ⟨_, rfl⟩, ?_, ?_, ?_⟩
        · exact hR.set (k + j + 1)
        · exact (hU.drewN _).setCell (q := ⟨p, 1, none⟩) hp _
        · exact (hB.drewN _).setCell (q := ⟨p, 1, none⟩) (Or.inl rfl) _
    · have hz : (((s.size : Int) - (m : Int)) == 0) = true := beq_iff_eq.2 (by omega)
      have HM : Hid _ := hm
      clear hm
      go_wp2_with (go_at_call 25; refine (left_any p s m _ hR (by omega) hs).mono ?_; rintro e w' ⟨rfl, rfl⟩)
      refine leaves_cons (f := 37) (args := #[.pointer (some ⟨w.heap.size + 2, 0, none⟩), .pointer (some ⟨w.heap.size + 3, 0, none⟩), .pointer (some ⟨w.heap.size + 1, 0, none⟩)]) (by simp) (by simp [go_sem]) ?_
      refine (undo_back _ _ _ w.heap.size p 10 k s m _ _ (by decide) ?_ ?_ ?_ ?_ ?_).mono ?_
      · exact (hU.put _).cells.2.2.1
      · exact (hU.put _).cells.1
      · exact (hU.put _).cells.2.2.2
      · exact (hU.put _).cells.2.1
      · exact hR.setOther (q := ⟨w.heap.size, 0, none⟩) (Nat.ne_of_lt hp) _
      · rintro e u' w'' ⟨rfl, rfl, rfl⟩
        have hE := (hU.put 10).cells.1
        have hE' : ((wr.setCell ⟨w.heap.size, 0, none⟩ (.int .i64 10)).setCell ⟨p, 1, none⟩ (.int .i64 k)).cell? ⟨w.heap.size, 0, none⟩ = some (.int .i64 10) := by
          rw [World.cell?_of_block (Below.heap_setCell _ _ _ _ (Nat.ne_of_gt hp))]; exact hE
        simp [Leaves, settle, results, Try.results18, go_sem, hE']
        exact ⟨(hR.setOther (q := ⟨w.heap.size, 0, none⟩) (Nat.ne_of_lt hp) _).set k, ((hB.setCell (q := ⟨w.heap.size, 0, none⟩) (Or.inr (Nat.le_refl _)) _).setCell (q := ⟨p, 1, none⟩) (Or.inl rfl) _).drew⟩

theorem width_no (width : Int) (w : World) (hw : width < 1 ∨ 8 < width) : Calls Try.prog 30 #[.int .i64 width] w fun e w' => e = .returned (.bool false) ∧ w' = w := by
  rcases hw with hw | hw
  · go_enter Try.func30, Try.ntmps30
    go_wp2
    go_ret
    exact ⟨rfl, rfl⟩
  · have h1 : 1 ≤ width := by omega
    have h8 : decide (width ≤ 8) = false := by simp; omega
    go_enter Try.func30, Try.ntmps30
    go_wp2
    go_ret
    exact ⟨rfl, rfl⟩

set_option maxHeartbeats 1000000 in
theorem rnum_width (p : Nat) (s : ByteArray) (k : Nat) (width : Int) (w : World) (h : Rd 63 p s k w) (hw : width < 1 ∨ 8 < width) :
    Calls Try.prog 18 #[.pointer (some ⟨p, 0, none⟩), .int .i64 width] w fun e w' => e = .returned (.tuple #[.int .u64 0, .int .i64 1]) ∧ Rd 63 p s k w' ∧ But w.heap.size p w w' := by
  have hp := h.lt
  have HW : Hid (width < 1 ∨ 8 < width) := hw
  clear hw
  go_enter_defers Try.func18, Try.ntmps18
  go_wp2_with (go_at_call 30; refine (width_no _ _ HW.out).mono ?_; rintro e w' ⟨rfl, rfl⟩)
  simp [bodyPostD, Leaves, results, Try.results18, go_sem]
  exact ⟨(Below.heap_alloc _ _ _ hp).trans h, (But.refl _ _ _).alloc (Nat.le_refl _) _⟩

set_option maxHeartbeats 400000 in
theorem new_any (s : ByteArray) (w : World) : Calls Try.prog 17 #[.string s] w fun e w' => e = .returned (.pointer (some ⟨w.heap.size, 0, none⟩)) ∧ w' = w.alloc (.cells #[.string s, .int .i64 0] 63) := by
  go_enter Try.func17, Try.ntmps17
  go_wp2
  go_ret
  exact ⟨rfl, rfl⟩
theorem Rd.new (T : TypeId) (s : ByteArray) (w : World) : Rd T w.heap.size s 0 (w.alloc (.cells #[.string s, .int .i64 0] T)) := by
  show (w.heap.push _)[w.heap.size]? = _; simp

set_option maxHeartbeats 400000 in
theorem end_any (p : Nat) (s : ByteArray) (k : Nat) (w : World) (h : Rd 63 p s k w) (hk : k ≤ s.size) (hs : s.size ≤ 1000000000) :
    Calls Try.prog 27 #[.pointer (some ⟨p, 0, none⟩)] w fun e w' => e = .returned (.int .i64 (if k < s.size then 11 else 0)) ∧ w' = w.drew := by
  by_cases hl : k < s.size
  · rw [if_pos hl]
    have hl' : (0 : Int) < (s.size : Int) - k := by omega
    go_enter Try.func27, Try.ntmps27
    go_wp2_with (go_at_call 25; refine (left_any p s k _ h hk hs).mono ?_; rintro e w' ⟨rfl, rfl⟩)
    go_ret
    exact ⟨rfl, rfl⟩
  · rw [if_neg hl]
    have hl' : ¬ (0 : Int) < (s.size : Int) - k := by omega
    go_enter Try.func27, Try.ntmps27
    go_wp2_with (go_at_call 25; refine (left_any p s k _ h hk hs).mono ?_; rintro e w' ⟨rfl, rfl⟩)
    go_ret
    exact ⟨rfl, rfl⟩

set_option maxHeartbeats 400000 in
theorem rreal_ok (p : Nat) (s : ByteArray) (k : Nat) (w : World) (h : Rd 63 p s k w) (hk : k + 8 ≤ s.size) (hs : s.size ≤ 1000000000) :
    Calls Try.prog 20 #[.pointer (some ⟨p, 0, none⟩)] w fun e w' => e = .returned (.tuple #[.float .f64 (bitsOf (ofLE (((ints s).drop k).take 8)).toNat), .int .i64 0]) ∧ Rd 63 p s (k + 8) w' ∧ But w.heap.size p w w' := by
  have h29 := f29
  generalize hN : ofLE (((ints s).drop k).take 8) = nn
  have HN : Hid _ := hN
  clear hN
  go_enter Try.func20, Try.ntmps20
  go_wp2_with (first
    | (go_at_call 18; refine (rnum_ok p s k 8 _ h (by decide) (by decide) hk hs).mono ?_; rintro e w' ⟨rfl, h1, h2⟩; rw [show Int.toNat 8 = 8 from rfl, HN.out])
    | (go_at_call 31; refine (bits_any _ _).mono ?_; rintro e w' ⟨rfl, rfl⟩))
  go_ret2
  exact ⟨rfl, h1, h2⟩

set_option maxHeartbeats 400000 in
theorem rreal_short (p : Nat) (s : ByteArray) (k : Nat) (w : World) (h : Rd 63 p s k w) (hk0 : k ≤ s.size) (hk : s.size < k + 8) (hs : s.size ≤ 1000000000) :
    Calls Try.prog 20 #[.pointer (some ⟨p, 0, none⟩)] w fun e w' => e = .returned (.tuple #[.float .f64 0, .int .i64 10]) ∧ Rd 63 p s k w' ∧ But w.heap.size p w w' := by
  go_enter Try.func20, Try.ntmps20
  go_wp2_with (go_at_call 18; refine (rnum_short p s k 8 _ h (by decide) (by decide) hk0 hk hs).mono ?_; rintro e w' ⟨rfl, h1, h2⟩)
  go_ret2
  exact ⟨rfl, h1, h2⟩
end Go.Proofs.Ytglpdchdkabajaa
