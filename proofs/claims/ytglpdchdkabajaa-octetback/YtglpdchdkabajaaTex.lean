/-
  The walks of octet's Reader.Text.
-/
import Derived.Test.YtglpdchdkabajaaRea
namespace Go.Proofs.Ytglpdchdkabajaa
open Go.RowKit

theorem Un.kept {x : Int} {N p : Nat} {k : Int} {w w' : World} {B : Nat} (h : Un x N p k w) (hb : But B p w w') (hB : N + 4 ≤ B) (hp : p < N) : Un x N p k w' :=
  ⟨(hb.block _ (by omega) (by omega)).trans h.e, (hb.block _ (by omega) (by omega)).trans h.r, (hb.block _ (by omega) (by omega)).trans h.a, (hb.block _ (by omega) (by omega)).trans h.b⟩

/-- The world behind what a read lays. -/
def laid (w : World) (p : Nat) (k : Int) : World := ((((w.alloc (.cells #[.int .i64 0] 32)).alloc (.cells #[.pointer (some ⟨p, 0, none⟩)] 42)).alloc (.cells #[.pointer (some ⟨w.heap.size, 0, none⟩)] 65)).alloc (.cells #[.int .i64 k] 3))
theorem laid_size (w : World) (p : Nat) (k : Int) : (laid w p k).heap.size = w.heap.size + 4 := by simp [laid]
theorem laid_but (w : World) (p : Nat) (k : Int) : But w.heap.size p w (laid w p k) := (((((But.refl _ _ _).alloc (Nat.le_refl _) _).alloc (by simp) _).alloc (by simp; omega) _).alloc (by simp; omega) _)
theorem laid_rd {T : TypeId} {p : Nat} {s : ByteArray} {k : Nat} {w : World} (h : Rd T p s k w) (i : Int) : Rd T p s k (laid w p i) :=
  (Below.heap_alloc _ _ _ (by have := h.lt; simp; omega)).trans ((Below.heap_alloc _ _ _ (by have := h.lt; simp; omega)).trans ((Below.heap_alloc _ _ _ (by have := h.lt; simp; omega)).trans ((Below.heap_alloc _ _ _ h.lt).trans h)))

theorem door_back (x : Int) (N p k m : Nat) (s : ByteArray) (u : FrameMode) (w : World) (hU : Un x N p k w) (hR : Rd 63 p s m w) (hx : (x != 0) = true) (hp : p < N) :
    CallsD Try.prog 37 #[.pointer (some ⟨N + 2, 0, none⟩), .pointer (some ⟨N + 3, 0, none⟩), .pointer (some ⟨N + 1, 0, none⟩)] u w fun e u' w' => u' = u ∧ (e = .returned (.tuple #[]) ∧ w'.cell? ⟨N, 0, none⟩ = some (.int .i64 x) ∧ Rd 63 p s k w' ∧ But N p w w') := by
  refine (undo_back _ _ _ N p x k s m _ _ hx hU.cells.2.2.1 hU.cells.1 hU.cells.2.2.2 hU.cells.2.1 hR).mono ?_
  rintro e u' w' ⟨rfl, rfl, rfl⟩
  exact ⟨rfl, rfl, (hU.setCell (q := ⟨p, 1, none⟩) hp _).cells.1, hR.set k, (But.refl _ _ _).setCell (q := ⟨p, 1, none⟩) (Or.inl rfl) _⟩
theorem door_ok (N p k m : Nat) (s : ByteArray) (u : FrameMode) (w : World) (hU : Un 0 N p k w) (hR : Rd 63 p s m w) :
    CallsD Try.prog 37 #[.pointer (some ⟨N + 2, 0, none⟩), .pointer (some ⟨N + 3, 0, none⟩), .pointer (some ⟨N + 1, 0, none⟩)] u w fun e u' w' => u' = u ∧ (e = .returned (.tuple #[]) ∧ w'.cell? ⟨N, 0, none⟩ = some (.int .i64 0) ∧ Rd 63 p s m w' ∧ But N p w w') := by
  refine (undo_ok _ _ _ N _ _ hU.cells.2.2.1 hU.cells.1).mono ?_
  rintro e u' w' ⟨rfl, rfl, rfl⟩
  exact ⟨rfl, rfl, hU.cells.1, hR, But.refl _ _ _⟩
theorem laidE (w : World) (p : Nat) (k : Int) : ((((w.alloc (.cells #[.int .i64 0] 32)).alloc (.cells #[.pointer (some ⟨p, 0, none⟩)] 42)).alloc (.cells #[.pointer (some ⟨w.heap.size, 0, none⟩)] 65)).alloc (.cells #[.int .i64 k] 3)) = laid w p k := rfl
theorem But.setOwn {B p : Nat} {a w : World} (h : But B p a w) (v : Value) : But B p a (w.setCell ⟨B, 0, none⟩ v) := h.setCell (q := ⟨B, 0, none⟩) (Or.inr (Nat.le_refl _)) v

set_option maxHeartbeats 1000000 in
theorem rtext_short (p : Nat) (s : ByteArray) (k : Nat) (most : Int) (w : World) (h : Rd 63 p s k w) (hk0 : k ≤ s.size) (hk : s.size < k + 2) (hs : s.size ≤ 1000000000) :
    Calls Try.prog 23 #[.pointer (some ⟨p, 0, none⟩), .int .i64 most] w fun e w' => e = .returned (.tuple #[.string ByteArray.empty, .int .i64 10]) ∧ Rd 63 p s k w' ∧ But w.heap.size p w w' := by
  have hp := h.lt
  go_enter_defers Try.func23, Try.ntmps23
  go_wp2_with (first
    | (go_at_call 33; refine (back_any p w.heap.size s k _ (by exact (Below.heap_alloc _ _ _ hp).trans h)).mono ?_; rintro e w' ⟨rfl, rfl⟩; rw [laidE])
    | (go_at_call 18; refine (rnum_short p s k 2 _ (laid_rd h k) (by decide) (by decide) hk0 hk hs).mono ?_; rintro e w2 ⟨rfl, h1, h2⟩; have hU := (Un.new w p k).kept h2 (by rw [laid_size]; omega) hp; have hce := cell_at hU.e; have hfe := frozen_at hU.e))
  go_region
  go_wp2
  refine leaves_cons (f := 37) (args := #[.pointer (some ⟨w.heap.size + 2, 0, none⟩), .pointer (some ⟨w.heap.size + 3, 0, none⟩), .pointer (some ⟨w.heap.size + 1, 0, none⟩)]) (by simp) (by simp [go_sem]) ?_
  refine (door_back 10 w.heap.size p k k s _ _ ?_ ?_ (by decide) hp).mono ?_
  · exact ((hU.put 10).put 10).drew
  · exact (h1.setOther (q := ⟨w.heap.size, 0, none⟩) (Nat.ne_of_lt hp) _).setOther (q := ⟨w.heap.size, 0, none⟩) (Nat.ne_of_lt hp) _
  · rintro e u' w'' ⟨rfl, rfl, hE, hR, hB⟩
    simp [Leaves, settle, results, Try.results23, go_sem, hE]
    exact ⟨rfl, hR, (((((laid_but w p k).trans (h2.mono (by rw [laid_size]; omega))).setOwn _).setOwn _).drew).trans hB⟩

set_option maxHeartbeats 1000000 in
theorem rtext_wide (p : Nat) (s : ByteArray) (k : Nat) (most : Int) (w : World) (h : Rd 63 p s k w) (hk : k + 2 ≤ s.size) (hs : s.size ≤ 1000000000) (hm : most < ofLE (((ints s).drop k).take 2)) :
    Calls Try.prog 23 #[.pointer (some ⟨p, 0, none⟩), .int .i64 most] w fun e w' => e = .returned (.tuple #[.string ByteArray.empty, .int .i64 12]) ∧ Rd 63 p s k w' ∧ But w.heap.size p w w' := by
  have hp := h.lt
  have hnb := ofLE_bd (((ints s).drop k).take 2) (((ints_bytes s).drop k).take 2)
  have hnl : (((ints s).drop k).take 2).length = 2 := by simp [ints_length]; omega
  rw [hnl] at hnb
  generalize hN : ofLE (((ints s).drop k).take 2) = nn at hm hnb
  have hn0 : 0 ≤ nn := hnb.1
  have hn1 : nn < 65536 := hnb.2
  have HN : Hid _ := hN
  clear hN hnb hnl
  go_enter_defers Try.func23, Try.ntmps23
  go_wp2_with (first
    | (go_at_call 33; refine (back_any p w.heap.size s k _ (by exact (Below.heap_alloc _ _ _ hp).trans h)).mono ?_; rintro e w' ⟨rfl, rfl⟩; rw [laidE])
    | (go_at_call 18; refine (rnum_ok p s k 2 _ (laid_rd h k) (by decide) (by decide) hk hs).mono ?_; rintro e w2 ⟨rfl, h1, h2⟩; rw [show Int.toNat 2 = 2 from rfl, HN.out]; have hU := (Un.new w p k).kept h2 (by rw [laid_size]; omega) hp; have hce := cell_at hU.e; have hfe := frozen_at hU.e))
  refine leaves_cons (f := 37) (args := #[.pointer (some ⟨w.heap.size + 2, 0, none⟩), .pointer (some ⟨w.heap.size + 3, 0, none⟩), .pointer (some ⟨w.heap.size + 1, 0, none⟩)]) (by simp) (by simp [go_sem]) ?_
  refine (door_back 12 w.heap.size p k (k + 2) s _ _ ?_ ?_ (by decide) hp).mono ?_
  · exact ((hU.put 0).put 12)
  · exact (h1.setOther (q := ⟨w.heap.size, 0, none⟩) (Nat.ne_of_lt hp) _).setOther (q := ⟨w.heap.size, 0, none⟩) (Nat.ne_of_lt hp) _
  · rintro e u' w'' ⟨rfl, rfl, hE, hR, hB⟩
    simp [Leaves, settle, results, Try.results23, go_sem, hE]
    exact ⟨rfl, hR, (((((laid_but w p k).trans (h2.mono (by rw [laid_size]; omega))).setOwn _).setOwn _)).trans hB⟩

set_option maxHeartbeats 1000000 in
theorem rtext_lack (p : Nat) (s : ByteArray) (k : Nat) (most : Int) (w : World) (h : Rd 63 p s k w) (hk : k + 2 ≤ s.size) (hs : s.size ≤ 1000000000) (hm : ofLE (((ints s).drop k).take 2) ≤ most) (hl : s.size < k + 2 + ofLE (((ints s).drop k).take 2)) :
    Calls Try.prog 23 #[.pointer (some ⟨p, 0, none⟩), .int .i64 most] w fun e w' => e = .returned (.tuple #[.string ByteArray.empty, .int .i64 10]) ∧ Rd 63 p s k w' ∧ But w.heap.size p w w' := by
  have hp := h.lt
  have hnb := ofLE_bd (((ints s).drop k).take 2) (((ints_bytes s).drop k).take 2)
  have hnl : (((ints s).drop k).take 2).length = 2 := by simp [ints_length]; omega
  rw [hnl] at hnb
  generalize hN : ofLE (((ints s).drop k).take 2) = nn at hm hnb hl
  obtain ⟨n, rfl⟩ := Int.eq_ofNat_of_zero_le hnb.1
  have hn1 : n < 65536 := by have := hnb.2; omega
  have HN : Hid _ := hN
  clear hN hnb hnl
  obtain ⟨k2, hk2⟩ : ∃ k2, k2 = k + 2 := ⟨_, rfl⟩
  have hk3 : k2 ≤ s.size := by omega
  have hl' : (s.size : Int) - k2 < n := by omega
  have HK : Hid _ := hk2
  clear hk2 hl
  go_enter_defers Try.func23, Try.ntmps23
  go_wp2_with (first
    | (go_at_call 33; refine (back_any p w.heap.size s k _ (by exact (Below.heap_alloc _ _ _ hp).trans h)).mono ?_; rintro e w' ⟨rfl, rfl⟩; rw [laidE])
    | (go_at_call 18; refine (rnum_ok p s k 2 _ (laid_rd h k) (by decide) (by decide) hk hs).mono ?_; rintro e w2 ⟨rfl, h1, h2⟩; rw [show Int.toNat 2 = 2 from rfl] at h1; rw [show Int.toNat 2 = 2 from rfl, HN.out]; rw [← HK.out] at h1; have hU := (Un.new w p k).kept h2 (by rw [laid_size]; omega) hp; have hce := cell_at hU.e; have hfe := frozen_at hU.e; have g0 := h1.cell0; have g1 := h1.cell1; have gf := h1.frozen; have gl := h1.lt)
    | (go_at_call 25; refine (left_any p s k2 _ (by exact h1.setOther (q := ⟨w.heap.size, 0, none⟩) (Nat.ne_of_lt hp) _) hk3 hs).mono ?_; rintro e w' ⟨rfl, rfl⟩))
  refine leaves_cons (f := 37) (args := #[.pointer (some ⟨w.heap.size + 2, 0, none⟩), .pointer (some ⟨w.heap.size + 3, 0, none⟩), .pointer (some ⟨w.heap.size + 1, 0, none⟩)]) (by simp) (by simp [go_sem]) ?_
  refine (door_back 10 w.heap.size p k k2 s _ _ ?_ ?_ (by decide) hp).mono ?_
  · exact ((hU.put 0).put 10).drew
  · exact (h1.setOther (q := ⟨w.heap.size, 0, none⟩) (Nat.ne_of_lt hp) _).setOther (q := ⟨w.heap.size, 0, none⟩) (Nat.ne_of_lt hp) _
  · rintro e u' w'' ⟨rfl, rfl, hE, hR, hB⟩
    simp [Leaves, settle, results, Try.results23, go_sem, hE]
    exact ⟨rfl, hR, (((((laid_but w p k).trans (h2.mono (by rw [laid_size]; omega))).setOwn _).setOwn _).drew).trans hB⟩

set_option maxHeartbeats 1000000 in
theorem rtext_ok (p : Nat) (s : ByteArray) (k : Nat) (most : Int) (w : World) (h : Rd 63 p s k w) (hk : k + 2 ≤ s.size) (hs : s.size ≤ 1000000000) (hm : ofLE (((ints s).drop k).take 2) ≤ most) (hl : k + 2 + ofLE (((ints s).drop k).take 2) ≤ s.size) :
    Calls Try.prog 23 #[.pointer (some ⟨p, 0, none⟩), .int .i64 most] w fun e w' => e = .returned (.tuple #[.string (s.extract (k + 2) (k + 2 + (ofLE (((ints s).drop k).take 2)).toNat)), .int .i64 0]) ∧ Rd 63 p s (k + 2 + (ofLE (((ints s).drop k).take 2)).toNat) w' ∧ But w.heap.size p w w' := by
  have hp := h.lt
  have hnb := ofLE_bd (((ints s).drop k).take 2) (((ints_bytes s).drop k).take 2)
  have hnl : (((ints s).drop k).take 2).length = 2 := by simp [ints_length]; omega
  rw [hnl] at hnb
  generalize hN : ofLE (((ints s).drop k).take 2) = nn at hm hnb hl
  obtain ⟨n, rfl⟩ := Int.eq_ofNat_of_zero_le hnb.1
  have hn1 : n < 65536 := by have := hnb.2; omega
  have HN : Hid _ := hN
  clear hN hnb hnl
  obtain ⟨k2, hk2⟩ : ∃ k2, k2 = k + 2 := ⟨_, rfl⟩
  have hk3 : k2 ≤ s.size := by omega
  have hl' : ¬ (s.size : Int) - k2 < n := by omega
  have hl3 : k2 + n ≤ s.size := by omega
  rw [← hk2]
  have HK : Hid _ := hk2
  clear hk2 hl
  go_enter_defers Try.func23, Try.ntmps23
  go_wp2_with (first
    | (go_at_call 33; refine (back_any p w.heap.size s k _ (by exact (Below.heap_alloc _ _ _ hp).trans h)).mono ?_; rintro e w' ⟨rfl, rfl⟩; rw [laidE])
    | (go_at_call 18; refine (rnum_ok p s k 2 _ (laid_rd h k) (by decide) (by decide) hk hs).mono ?_; rintro e w2 ⟨rfl, h1, h2⟩; rw [show Int.toNat 2 = 2 from rfl] at h1; rw [show Int.toNat 2 = 2 from rfl, HN.out]; rw [← HK.out] at h1; have hU := (Un.new w p k).kept h2 (by rw [laid_size]; omega) hp; have hce := cell_at hU.e; have hfe := frozen_at hU.e; have g0 := h1.cell0; have g1 := h1.cell1; have gf := h1.frozen; have gl := h1.lt)
    | (go_at_call 25; refine (left_any p s k2 _ (by exact h1.setOther (q := ⟨w.heap.size, 0, none⟩) (Nat.ne_of_lt hp) _) hk3 hs).mono ?_; rintro e w' ⟨rfl, rfl⟩))
  go_region
  go_wp2
  refine leaves_cons (f := 37) (args := #[.pointer (some ⟨w.heap.size + 2, 0, none⟩), .pointer (some ⟨w.heap.size + 3, 0, none⟩), .pointer (some ⟨w.heap.size + 1, 0, none⟩)]) (by simp) (by simp [go_sem]) ?_
  refine (door_ok w.heap.size p k (k2 + n) s _ _ ?_ ?_).mono ?_
  · exact (((hU.put 0).setCell (q := ⟨p, 1, none⟩) hp _).put 0).drew.drew
  · exact ((h1.setOther (q := ⟨w.heap.size, 0, none⟩) (Nat.ne_of_lt hp) _).set (k2 + n)).setOther (q := ⟨w.heap.size, 0, none⟩) (Nat.ne_of_lt hp) _
  · rintro e u' w'' ⟨rfl, rfl, hE, hR, hB⟩
    simp [Leaves, settle, results, Try.results23, go_sem, hE]
    exact ⟨hR, (((((laid_but w p k).trans (h2.mono (by rw [laid_size]; omega))).setOwn _).setCell (q := ⟨p, 1, none⟩) (Or.inl rfl) _).setOwn _).drew.drew.trans hB⟩
end Go.Proofs.Ytglpdchdkabajaa
