/-
  filled: a shelf with messages of some numbers, trimmed, and the reference's beside it.
-/
import Derived.Test.YtlbeincgknmijaaTwn
import Derived.BigRegion
namespace Go.Proofs.Ytlbeincgknmijaa
open Go.RowKit

/-- No message is too long. -/
def Tx (R : Rng) : Prop := ∀ j, ((R j).g.x.size : Int) ≤ 64
theorem Tx.zero : Tx R0 := fun _ => (by decide : ((0 : Nat) : Int) ≤ 64)
theorem Tx.set {R : Rng} (h : Tx R) (k : Nat) {u : Pl} (hu : (u.g.x.size : Int) ≤ 64) : Tx (R.set k u) := by
  intro j
  unfold Rng.set
  split
  · exact hu
  · exact h j
theorem Tx.put {R : Rng} (h : Tx R) (low n : Int) (g : Ms) : Tx (putR low R n g) := by
  unfold putR
  split
  · rename_i e
    refine h.set _ ?_
    unfold putE at e
    by_cases q : n = 0 ∨ n = 18446744073709551615 ∨ 64 < (g.x.size : Int)
    · rw [if_pos q] at e; cases e
    · show (g.x.size : Int) ≤ 64
      omega
  · exact h
theorem Tx.trim {R : Rng} (h : Tx R) (k : Int) : Tx (trimR R k) := by
  intro j
  unfold trimR
  split
  · decide
  · exact h j
theorem Tx.trims {R : Rng} (h : Tx R) (low n : Int) : Tx (tR low R n) := by
  unfold tR
  split
  · exact h
  · exact h.trim n

/-- A shelf behind p, the reference's behind q, the same of both. -/
structure Two (p q B : Nat) (low : Int) (R : Rng) (L : List Pl) (w : World) : Prop where
  cp : Cp low R L
  tx : Tx R
  sf : Sf p low R w
  rf : Rf B q low L w
  le : B ≤ w.heap.size
  pB : p < B
  ne : p ≠ q
section
variable {p q B : Nat} {low : Int} {R : Rng} {L : List Pl} {w w' : World}
theorem Two.below (h : Two p q B low R L w) (b : Below w.heap.size w w') : Two p q B low R L w' := ⟨h.cp, h.tx, h.sf.below b, h.rf.below b, Nat.le_trans h.le b.size, h.pB, h.ne⟩
theorem Two.drew (h : Two p q B low R L w) : Two p q B low R L w.drew := ⟨h.cp, h.tx, h.sf.drew, h.rf.keep fun _ _ _ => rfl, h.le, h.pB, h.ne⟩
end
set_option maxRecDepth 100000 in
set_option maxHeartbeats 4000000 in
theorem filled_any (v : Value) (l : List Int) (trim : Int) (hB : Bytes l) (hl : l.length ≤ 150) (t0 : 0 ≤ trim) (t1 : trim ≤ 255) (w : World) (hR : Rn v l w) :
    Calls Try.prog 8 #[v, .int .u8 trim] w fun e w' => (∃ low R L, e = .returned (.tuple #[.pointer (some ⟨w.heap.size, 0, none⟩), .pointer (some ⟨w.heap.size + 1, 0, none⟩)]) ∧ Two w.heap.size (w.heap.size + 1) (w.heap.size + 2) low R L w' ∧ low ≤ 64 ∧ L.length ≤ 150 ∧ (trim = 0 → low = 0)) ∧ Below w.heap.size w w' := by
  obtain ⟨aa, cap, rfl, h3⟩ := id hR
  have hz := run_zero_shelf
  have hn := shelf_zero_ne
  have hS0 := Sf.new w
  have b0 := below_alloc w (.cells (shC 0 R0).toArray 61)
  have hS1 := hS0.below (below_alloc _ (.cells #[.slice none 0 0, .int .u64 0] 63))
  have hF1 := Rf.new (w.alloc (.cells (shC 0 R0).toArray 61)) (B := w.heap.size + 2) (by simp)
  have hB1 := b0.trans ((below_alloc (w.alloc (.cells (shC 0 R0).toArray 61)) (.cells #[.slice none 0 0, .int .u64 0] 63)).mono b0.size)
  rw [World.size_alloc] at hF1
  have hT1 : Two w.heap.size (w.heap.size + 1) (w.heap.size + 2) 0 R0 [] ((w.alloc (.cells (shC 0 R0).toArray 61)).alloc (.cells #[.slice none 0 0, .int .u64 0] 63)) := ⟨Cp.zero, Tx.zero, hS1, hF1, by simp, by omega, by omega⟩
  clear hS0 b0 hS1 hF1
  generalize (shC 0 R0).toArray = A at *
  go_enter Try.func8, Try.ntmps8
  go_wp2_with fail
  go_loopg [8] l.length (fun gk t8 wr => ∃ i : Nat, i + gk = l.length ∧ t8 = .int .i64 i ∧ (∃ (R : Rng) (L : List Pl), Two w.heap.size (w.heap.size + 1) (w.heap.size + 2) 0 R L wr ∧ L.length ≤ i) ∧ Below w.heap.size w wr)
  case atStart => exact ⟨0, by omega, rfl, ⟨R0, [], hT1, Nat.le_refl _⟩, hB1⟩
  case round =>
    obtain ⟨i, hi, rfl, ⟨R, L, hT, hLi⟩, hBr⟩ := hrel
    clear hT1 hB1 hz hn
    have i0 : (0 : Int) ≤ i := by omega
    by_cases hlt : (i : Int) < l.length
    · have hil : i < l.length := by omega
      rcases h3 with h3 | ⟨ga, offa, rfl, h3⟩
      · omega
      clear h3
      have cR := fun w' (b : Below w.heap.size w w') => (hR.below b).at hil
      have hx := hB _ (List.getElem_mem hil)
      generalize l[i] = x at *
      have c0 := cR _ hBr
      have bz := below_alloc wr (.cells #[.int .i64 0, .int .u64 0, .string ⟨#[]⟩] 28)
      have c1 := cR _ (hBr.trans (bz.mono hBr.size))
      have hwx : IntKind.u64.wrap x = x := by rw [IntKind.wrap_u64]; omega
      have hwi : IntKind.i64.wrap x = x := by rw [IntKind.wrap_i64]; omega
      go_wp2_with fail
      go_region
      clear c0 c1
      have hm0 : 0 ≤ x % 7 := by omega
      obtain ⟨g, hg⟩ : ∃ g : Ms, Hid (g = ⟨x % 7, x, ⟨#[]⟩⟩) := ⟨_, rfl⟩
      have hM : Bm wr.heap.size g (wr.alloc (.cells #[.int .i64 (x % 7), .int .u64 x, .string ⟨#[]⟩] 28)).drew := by rw [hg.out]; exact (Bm.new ⟨x % 7, x, ⟨#[]⟩⟩ wr).keep rfl
      have hTV := (hT.below (below_alloc wr (.cells #[.int .i64 (x % 7), .int .u64 x, .string ⟨#[]⟩] 28))).drew
      have hBV : Below w.heap.size w (wr.alloc (.cells #[.int .i64 (x % 7), .int .u64 x, .string ⟨#[]⟩] 28)).drew := (hBr.trans ((below_alloc wr (.cells #[.int .i64 (x % 7), .int .u64 x, .string ⟨#[]⟩] 28)).mono hBr.size)).drew
      have hmb : w.heap.size + 2 ≤ wr.heap.size := hT.le
      have hC' := hT.cp.put x g
      have hX' := hT.tx.put 0 x g
      have hL' := putL_len 0 L x g
      clear bz hT
      generalize (wr.alloc (.cells #[.int .i64 (x % 7), .int .u64 x, .string ⟨#[]⟩] 28)).drew = V at *
      generalize wr.heap.size = bm at *
      have c0 := cR _ hBV
      have h0 : V.cell? ⟨ga, offa + i, none⟩ = some (.int .u8 x) ∧ V.cell? ⟨bm, 0, none⟩ = some (.int .i64 g.s) ∧ V.cell? ⟨bm, 1, none⟩ = some (.int .u64 g.m) ∧ V.cell? ⟨bm, 2, none⟩ = some (.string g.x) := ⟨c0, hM.c0, hM.c1, hM.c2⟩
      have h1 : V.drew.cell? ⟨ga, offa + i, none⟩ = some (.int .u8 x) ∧ V.drew.cell? ⟨bm, 0, none⟩ = some (.int .i64 g.s) ∧ V.drew.cell? ⟨bm, 1, none⟩ = some (.int .u64 g.m) ∧ V.drew.cell? ⟨bm, 2, none⟩ = some (.string g.x) := h0
      have hput := sput_any w.heap.size 0 R x g (by omega) (by omega) (by decide) (by decide) V.drew hTV.drew.sf
      have hput2 := fun w' hz h => fput_all (w.heap.size + 2) (w.heap.size + 1) 0 R L x g hTV.cp (by omega) (by omega) (by omega) (by decide) w' hz h
      go_wp2_with fail
      go_region_held3 (fun W => W.cell? ⟨ga, offa + i, none⟩ = some (.int .u8 x) ∧ W.cell? ⟨bm, 0, none⟩ = some (.int .i64 g.s) ∧ W.cell? ⟨bm, 1, none⟩ = some (.int .u64 g.m) ∧ W.cell? ⟨bm, 2, none⟩ = some (.string g.x)) (first | exact h1 | exact h0 | exact h2 | fail) ((first
        | (go_at_call 26; refine hput.mono ?_; rintro e w2 ⟨rfl, hS2, hb2⟩; have hF2 := hTV.drew.rf.but hb2 (by omega) (by omega); have hle2 := Nat.le_trans hTV.drew.le hb2.size; have hB2 : Below w.heap.size w w2 := hBV.drew.trans ((hb2.mono (B := w.heap.size) hBV.drew.size).to (Nat.le_refl _)); have hM2 : Bm bm g w2 := (hM.keep (w' := V.drew) rfl).but hb2 (by omega); have h2 : w2.cell? ⟨ga, offa + i, none⟩ = some (.int .u8 x) ∧ w2.cell? ⟨bm, 0, none⟩ = some (.int .i64 g.s) ∧ w2.cell? ⟨bm, 1, none⟩ = some (.int .u64 g.m) ∧ w2.cell? ⟨bm, 2, none⟩ = some (.string g.x) := ⟨cR _ hB2, hM2.c0, hM2.c1, hM2.c2⟩)))
      have hS3 := hS2.drew
      have hF3 : Rf (w.heap.size + 2) (w.heap.size + 1) 0 L w2.drew := hF2.keep fun _ _ _ => rfl
      have hB3 := hB2.drew
      have h3 : w2.drew.cell? ⟨ga, offa + i, none⟩ = some (.int .u8 x) ∧ w2.drew.cell? ⟨bm, 0, none⟩ = some (.int .i64 g.s) ∧ w2.drew.cell? ⟨bm, 1, none⟩ = some (.int .u64 g.m) ∧ w2.drew.cell? ⟨bm, 2, none⟩ = some (.string g.x) := h2
      have hle3 : w.heap.size + 2 ≤ w2.drew.heap.size := hle2
      have hput3 := hput2 _ hle3 hF3
      clear h0 h1 hM hTV hput hput2 hS2 hb2 hF2 hM2 c0
      obtain ⟨k0, k1, k2, k3⟩ := id h3
      go_wp2_with fail
      go_region_with (go_at_call 27; refine hput3.mono ?_; rintro e w4 ⟨rfl, hF4, hb4⟩; have hS4 := hS3.butB hb4 (by omega) (by omega); have hle4 := Nat.le_trans hle3 hb4.size; have hB4 : Below w.heap.size w w4 := hB3.trans ((hb4.mono (B := w.heap.size) (by omega)).to (by omega)))
      all_goals
        clear h2 h3 hS3 hF3 hput3
        go_wp2_with fail
        go_roundg (gk - 1)
        case rel => exact ⟨i + 1, by omega, by go_num, ⟨_, _, ⟨hC', hX', hS4, hF4, hle4, by omega, by omega⟩, by omega⟩, hB4⟩
        case measure => omega
    · clear h3 hR
      have ht1 := strim_all w.heap.size 0 R trim (by decide) (by decide) hT.cp.ri wr hT.sf
      have ht2 := fun w' hz h => ftrim_all (w.heap.size + 2) (w.heap.size + 1) 0 R L trim hT.cp (by omega) (by decide) w' hz h
      have hwt : IntKind.u64.wrap trim = trim := by rw [IntKind.wrap_u64]; omega
      have hC' := hT.cp.trims trim
      have hX' := hT.tx.trims 0 trim
      have hL' := tL_len 0 R L trim
      have hlow := tLow_le 0 R trim
      have hz0 : trim = 0 → tLow 0 R trim = 0 := by
        rintro rfl
        unfold tLow
        have := reachR_ge 0 R
        rw [if_neg (by omega)]
        rfl
      go_wp2_with fail
      refine ht1.mono ?_
      rintro e w2 ⟨rfl, hS2, hb2⟩
      have hF2 := hT.rf.but hb2 hT.pB hT.ne
      have hle2 := Nat.le_trans hT.le hb2.size
      have hB2 : Below w.heap.size w w2 := hBr.trans ((hb2.mono (B := w.heap.size) hBr.size).to (Nat.le_refl _))
      have ht2 := ht2 _ hle2 hF2
      clear ht1
      go_wp2_with fail
      refine ht2.mono ?_
      rintro e w3 ⟨rfl, hF3, hb3⟩
      have hS3 := hS2.butB hb3 (by omega) (by omega)
      go_wp2_with fail
      refine bodyPost_ret (results_tmp2 rfl _ _ _) rfl ?_
      exact ⟨⟨_, _, _, rfl, ⟨hC', hX', hS3, hF3, Nat.le_trans hle2 hb3.size, by omega, by omega⟩, by omega, by omega, hz0⟩, hB2.trans ((hb3.mono (B := w.heap.size) (by omega)).to (by omega))⟩
end Go.Proofs.Ytlbeincgknmijaa
