/-
  The walk of GuardTurned.
-/
import Derived.Test.YtlklobapdljpkaaSho
import Derived.Test.YtlklobapdljpkaaLin
import Derived.Test.YtlklobapdljpkaaRef
import Derived.Laws.IdiomStrings
namespace Go.Proofs.Ytlklobapdljpkaa
open Go.RowKit

theorem open_sealed_any (s : ByteArray) (t : ByteArray) (w : World) (hs : s.size ≤ 1000) (ht : t = s ++ fourS (crc s.data.toList)) : Calls Try.prog 10 #[.string t] w fun e w' => e = .returned (.tuple #[.string s, .int .i64 0]) ∧ Below w.heap.size w w' := by
  have h := open_any t w (by rw [ht, ByteArray.size_append, fourS_size]; omega)
  rw [ht, open_seal s, ← ht] at h
  exact h

/-- Block g holds the bytes l, and they may be written. -/
structure Bts (g : Nat) (l : List UInt8) (w : World) : Prop where
  cell : ∀ j (hj : j < l.length), w.cell? ⟨g, j, none⟩ = some (.int .u8 (l[j].toNat : Int))
  free : ∀ j, j < l.length → w.frozen? ⟨g, j, none⟩ = false
theorem Bts.set {g : Nat} {l : List UInt8} {w : World} (h : Bts g l w) (j : Nat) (hj : j < l.length) (x : UInt8) : Bts g (l.set j x) (w.setCell ⟨g, j, none⟩ (.int .u8 (x.toNat : Int))) := by
  refine ⟨fun i hi => ?_, fun i hi => ?_⟩
  · rw [List.length_set] at hi
    by_cases e : j = i
    · subst e
      rw [World.cell?_setCell_same _ _ _ (h.cell j hj)]
      simp
    · rw [World.cell?_setCell_other _ _ _ _ (by intro c; exact e (congrArg Addr.off c)), h.cell i hi]
      simp [List.getElem_set_ne e]
  · rw [List.length_set] at hi
    rw [World.frozen?_setCell]; exact h.free i hi
theorem Bts.drew {g : Nat} {l : List UInt8} {w : World} (h : Bts g l w) : Bts g l w.drew := ⟨fun j hj => by have := h.cell j hj; simpa using this, fun j hj => by have := h.free j hj; simpa using this⟩
theorem Bts.new (s : ByteArray) (cap : Nat) (w : World) : Bts w.heap.size s.data.toList (w.drew.alloc (.cells (bytesRow s cap) 5 ((bytesRow s cap).size, (bytesRow s cap).size + 1))) := by
  have hb : (w.drew.alloc (.cells (bytesRow s cap) 5 ((bytesRow s cap).size, (bytesRow s cap).size + 1))).heap[w.heap.size]? = some (.cells (bytesRow s cap) 5 ((bytesRow s cap).size, (bytesRow s cap).size + 1)) := by
    show (w.heap.push _)[w.heap.size]? = _
    simp
  have hsz : (bytesRow s cap).size = s.data.size + (cap - s.size) := by simp [bytesRow]
  refine ⟨fun j hj => ?_, fun j hj => ?_⟩
  · have hj' : j < s.data.size := by simpa using hj
    unfold World.cell?
    rw [hb]
    have hjs : j < s.size := hj'
    simp [bytesRow, Array.getElem?_append, hjs]
  · have hj' : j < s.data.size := by simpa using hj
    unfold World.frozen?
    rw [hb]
    simp
    omega
theorem Bts.str {g : Nat} {l : List UInt8} {w : World} (h : Bts g l w) (cap : Nat) : (convert 34 9 (.slice (some ⟨g, 0, none⟩) l.length cap)).run Try.prog w = .ok (.string ⟨l.toArray⟩) w := by
  refine run_convert_bytes_back w 34 9 5 ⟨g, 0, none⟩ cap l Try.underlying34 Try.underlying5 Try.underlying9 (fun j hj => ?_)
  rw [Addr.add_mid, Nat.zero_add]; exact h.cell j hj

/-- What opens well has the sum of what is sealed. -/
theorem good_raw (d : ByteArray) (h : goodB d = true) : raw ones d.data.toList = stepN 32 ones := by
  have hb : back d = fourS (crc (front d).data.toList) := of_decide_eq_true h
  have e : d.data.toList = (front d).data.toList ++ (back d).data.toList := by
    unfold front back
    rw [ByteArray.data_extract, ByteArray.data_extract, Array.toList_extract, Array.toList_extract]
    simp
    have : (d.data.toList.drop (d.size - 4)).take (d.size - (d.size - 4)) = d.data.toList.drop (d.size - 4) := List.take_of_length_le (by simp)
    rw [this]
    simp
  rw [e, hb]
  exact raw_sealed _
theorem bad_of_raw (l : List UInt8) (h4 : 4 ≤ l.length) (h : raw ones l ≠ stepN 32 ones) : openS ⟨l.toArray⟩ = (ByteArray.empty, 20) := by
  have hz : (⟨l.toArray⟩ : ByteArray).size = l.length := rfl
  refine openS_bad _ (by omega) ?_
  cases hg : goodB ⟨l.toArray⟩
  · rfl
  · exact absurd (good_raw _ hg) h

/-- So far i bits were turned: those of x. -/
structure Turn (t : ByteArray) (p i : Nat) (l : List UInt8) (x : B32) : Prop where
  len : l.length = t.size
  above : ∀ j, i ≤ j → x.getLsbD j = false
  sum : raw ones l = raw ones t.data.toList ^^^ stepN (8 * t.size - p) x
  none : x = 0#32 → l = t.data.toList
theorem Turn.new (t : ByteArray) (p : Nat) : Turn t p 0 t.data.toList 0#32 :=
  ⟨rfl, fun j _ => by simp, by rw [stepN_zero, BitVec.xor_zero], fun _ => rfl⟩
theorem Turn.pass {t : ByteArray} {p i : Nat} {l : List UInt8} {x : B32} (h : Turn t p i l x) : Turn t p (i + 1) l x := ⟨h.len, fun j hj => h.above j (by omega), h.sum, h.none⟩
theorem Turn.ne {t : ByteArray} {p i : Nat} {l : List UInt8} {x : B32} (h : Turn t p i l x) (hi : i < 32) : (x ^^^ (1#32 <<< i) != 0#32) = true := by
  rw [bne_iff_ne]
  intro e
  have := congrArg (fun v => v.getLsbD i) e
  rw [BitVec.getLsbD_xor, h.above i (Nat.le_refl _)] at this
  simp [hi] at this
theorem Turn.turn {t : ByteArray} {p i q r : Nat} {l : List UInt8} {x : B32} (h : Turn t p i l x) (hi : i < 32) (hk : 8 * q + r = p + i) (hr : r < 8) (hq : q < l.length) :
    Turn t p (i + 1) (l.set q (l[q] ^^^ UInt8.ofNat (2 ^ r))) (x ^^^ (1#32 <<< i)) := by
  have hlen := h.len
  refine ⟨by rw [List.length_set]; exact h.len, fun j hj => ?_, ?_, fun e => ?_⟩
  · rw [BitVec.getLsbD_xor, h.above j (by omega)]
    simp
    omega
  · rw [raw_bit ones l q r hq hr, h.sum, hk, hlen, one_back _ _ _ hi (by omega), stepN_xor, BitVec.xor_assoc]
  · have := h.ne hi
    rw [e] at this
    simp at this
theorem Turn.bad {t : ByteArray} {p i : Nat} {l : List UInt8} {x : B32} {s : ByteArray} (h : Turn t p i l x) (ht : t = s ++ fourS (crc s.data.toList)) (hx : x ≠ 0#32) : openS ⟨l.toArray⟩ = (ByteArray.empty, 20) := by
  have hz : t.size = s.size + 4 := by rw [ht, ByteArray.size_append, fourS_size]
  refine bad_of_raw l (by have := h.len; omega) ?_
  rw [h.sum]
  have e : raw ones t.data.toList = stepN 32 ones := by
    rw [ht, ByteArray.data_append, Array.toList_append]
    exact raw_sealed _
  rw [e]
  intro c
  refine hx (stepN_ne (8 * t.size - p) x ?_)
  have := congrArg (fun v => stepN 32 ones ^^^ v) c
  simp only [← BitVec.xor_assoc, BitVec.xor_self, BitVec.zero_xor] at this
  exact this
theorem u_bit (B : B32) (i : Nat) : bits .and .u32 (u B / 2 ^ i) 1 = if B.getLsbD i then 1 else 0 := by
  rw [u_shr, u_and1]; simp
theorem turn_byte (c : UInt8) (r : Nat) (hr : r < 8) : bits .xor .u8 (c.toNat : Int) (2 ^ r % 256) = ((c ^^^ UInt8.ofNat (2 ^ r)).toNat : Int) := by
  have e : (2 : Int) ^ r % 256 = ((UInt8.ofNat (2 ^ r)).toNat : Int) := by
    have : ∀ r : Fin 8, (2 : Int) ^ r.val % 256 = ((UInt8.ofNat (2 ^ r.val)).toNat : Int) := by decide
    exact this ⟨r, hr⟩
  rw [e, u8_xor]

set_option maxHeartbeats 2000000 in
set_option maxRecDepth 100000 in
theorem turned_walk (s : ByteArray) (at_ bs : Int) (_ws : s.size ≤ maxLen) (wa : (Lit.int .u16 at_).wf = true) (wb : (Lit.int .u32 bs).wf = true) (w : World) :
    Calls Try.prog 5 #[.string s, .int .u16 at_, .int .u32 bs] w fun e w' => e = .returned (.bool true) ∧ Below w.heap.size w w' := by
  clear _ws
  obtain ⟨ha0, ha1⟩ := bounds_u16 wa
  obtain ⟨hb0, hb1⟩ := bounds_u32 wb
  obtain ⟨B, rfl⟩ := u_of bs hb0 hb1
  clear wa wb
  by_cases hl : (500 : Int) < s.size
  · go_enter Try.func5, Try.ntmps5
    go_wp2_with (go_at_call 9; refine (shown_any _).mono ?_; rintro e w1 ⟨rfl, hb1⟩)
    go_ret
    exact ⟨rfl, hb1⟩
  · have hs : s.size ≤ 1000 := by omega
    obtain ⟨t, ht⟩ : ∃ t, t = s ++ fourS (crc s.data.toList) := ⟨_, rfl⟩
    have hts : (t.size : Int) = s.size + 4 := by rw [ht, ByteArray.size_append, fourS_size]; omega
    have htn : t.size = s.size + 4 := by omega
    have HT : Hid _ := ht
    clear ht htn
    go_enter Try.func5, Try.ntmps5
    go_wp2_with (first
      | (go_at_call 9; refine (shown_any _).mono ?_; rintro e w1 ⟨rfl, hb1⟩)
      | (go_at_call 14; refine (seal_any s _ (by omega)).mono ?_; rw [← HT.out]; rintro e w2 ⟨rfl, hb2⟩)
      | (go_at_call 10; refine (open_sealed_any s t _ hs HT.out).mono ?_; rintro e w3 ⟨rfl, hb3⟩))
    have hz1 := hb1.size
    have hz2 := hb2.size
    have hz3 := hb3.size
    have hB3 : Below w.heap.size w w3 := (hb1.trans (hb2.mono hz1)).trans (hb3.mono (by omega))
    rw [run_bytes_of_string (P := Try.prog) w3 9 34 5 t Try.underlying9 Try.underlying34 Try.underlying5]
    have hbts := Bts.new t (grownCap w3 t.size 0 5) w3
    have hB4 := (hB3.drew).alloc (show w.heap.size ≤ w3.heap.size by omega) (.cells (bytesRow t (grownCap w3 t.size 0 5)) 5 ((bytesRow t (grownCap w3 t.size 0 5)).size, (bytesRow t (grownCap w3 t.size 0 5)).size + 1))
    generalize w3.drew.alloc _ = w4 at hbts hB4
    generalize grownCap w3 t.size 0 5 = cap
    have hgz : w.heap.size ≤ w3.heap.size := by omega
    generalize w3.heap.size = g at hbts hgz
    clear hb1 hb2 hb3 hz1 hz2 hz3 hB3
    have ht4 : (4 : Int) ≤ t.size := by omega
    have ht5 : (t.size : Int) ≤ 504 := by omega
    clear hts
    obtain ⟨p, hp⟩ : ∃ p : Nat, at_ % (8 * (t.size : Int)) = p := ⟨(at_ % (8 * (t.size : Int))).toNat, by have := Int.emod_nonneg at_ (show (8 * (t.size : Int)) ≠ 0 by omega); omega⟩
    have hpm : (p : Int) < 8 * t.size := by rw [← hp]; exact Int.emod_lt_of_pos _ (by omega)
    go_wp2_with fail
    go_loopg [12, 13] 32 (fun gk t12 t13 wr => ∃ (i : Nat) (l : List UInt8) (x : B32), i + gk = 32 ∧ t13 = .int .i64 i ∧ t12 = .bool (x != 0#32) ∧ Turn t p i l x ∧ Bts g l wr ∧ Below w.heap.size w wr)
    case atStart => exact ⟨0, t.data.toList, 0#32, by omega, rfl, rfl, Turn.new t p, hbts, hB4⟩
    case round =>
      clear hbts hB4
      obtain ⟨i, l, x, hi, rfl, rfl, hT, hC, hB⟩ := hrel
      have hlen := hT.len
      have HLEN : Hid _ := hlen
      have hl4 : 4 ≤ l.length := by omega
      clear hlen
      by_cases hlt : (i : Int) < 32
      · have hi0 : (0 : Int) ≤ i := by omega
        by_cases hin : (p : Int) + i < 8 * t.size
        · have hbit := u_bit B i
          cases hbb : B.getLsbD i
          · rw [hbb] at hbit
            simp only [Bool.false_eq_true, ↓reduceIte] at hbit
            go_wp2_with fail
            go_roundg (gk - 1)
            case rel => exact ⟨i + 1, l, x, by omega, by go_num, rfl, hT.pass, hC, hB⟩
            case measure => omega
          · rw [hbb] at hbit
            simp only [↓reduceIte] at hbit
            obtain ⟨q, hq⟩ : ∃ q, q = (p + i) / 8 := ⟨_, rfl⟩
            obtain ⟨r, hr⟩ : ∃ r, r = (p + i) % 8 := ⟨_, rfl⟩
            have eq1 : ((p : Int) + i) / 8 = q := by omega
            have er1 : ((p : Int) + i) % 8 = r := by omega
            have HQR : Hid (8 * q + r = p + i) := by show _ = _; omega
            have hr8 : (r : Int) < 8 := by omega
            have hr0 : (0 : Int) ≤ r := by omega
            have hq0 : (0 : Int) ≤ q := by omega
            have hqt : (q : Int) < t.size := by omega
            have hql : q < l.length := by rw [HLEN.out]; omega
            clear hq hr
            have hcell := hC.cell q hql
            have hfree := hC.free q hql
            have hby := turn_byte l[q] r (by omega)
            have HTT := hT.turn (by omega) HQR.out (by omega) hql
            have HNE := hT.ne (i := i) (by omega)
            have HST := hC.set q hql (l[q] ^^^ UInt8.ofNat (2 ^ r))
            generalize l[q] ^^^ UInt8.ofNat (2 ^ r) = c at hby HTT HST
            have HS1 : Hid _ := HTT
            have HS2 : Hid _ := HNE
            have HS3 : Hid _ := HST
            clear HTT HNE HST
            go_wp2_with fail
            go_region
            all_goals go_wp2_with fail
            all_goals go_roundg (gk - 1)
            case rel => exact ⟨i + 1, l.set q c, x ^^^ (1#32 <<< i), by omega, by go_num, by rw [HS2.out], HS1.out, HS3.out.drew, (hB.setCell hgz _).drew⟩
            case measure => omega
        · go_wp2_with fail
          go_roundg (gk - 1)
          case rel => exact ⟨i + 1, l, x, by omega, by go_num, rfl, hT.pass, hC, hB⟩
          case measure => omega
      · obtain rfl : i = 32 := by omega
        have hcv := hC.str cap
        rw [HLEN.out] at hcv
        have hsz : (⟨l.toArray⟩ : ByteArray).size ≤ 1000000000 := by show l.length ≤ _; rw [HLEN.out]; omega
        by_cases hx : x = 0#32
        · have hb : (x != 0#32) = false := by rw [hx]; rfl
          have HO : Hid (openS ⟨l.toArray⟩ = (s, 0)) := by
            show _ = _
            rw [hT.none hx]
            show openS t = _
            rw [HT.out, open_seal]
          clear hx
          generalize (⟨l.toArray⟩ : ByteArray) = d at hcv hsz HO
          go_wp2_with fail
          refine (open_any d _ hsz).mono ?_
          rw [HO.out]
          rintro e w5 ⟨rfl, hb5⟩
          go_wp2_with fail
          go_ret
          exact ⟨rfl, hB.trans (hb5.mono hB.size)⟩
        · have hb : (x != 0#32) = true := by rw [bne_iff_ne]; exact hx
          have HO : Hid (openS ⟨l.toArray⟩ = (ByteArray.empty, 20)) := hT.bad HT.out hx
          clear hx
          generalize (⟨l.toArray⟩ : ByteArray) = d at hcv hsz HO
          go_wp2_with fail
          refine (open_any d _ hsz).mono ?_
          rw [HO.out]
          rintro e w5 ⟨rfl, hb5⟩
          go_wp2_with fail
          go_ret
          exact ⟨rfl, hB.trans (hb5.mono hB.size)⟩
end Go.Proofs.Ytlklobapdljpkaa
