/-
  The reference's shelf: find, Put, Get.
-/
import Derived.Test.YtlbeincgknmijaaGrw
import Derived.Test.YtlbeincgknmijaaGet
import Derived.Test.YtlbeincgknmijaaRch
namespace Go.Proofs.Ytlbeincgknmijaa
open Go.RowKit

def EI : Enc Pl where
  sz := 4
  enc := plC
  len := plC_length
  one := fun x v hv => by
    simp only [plC, List.mem_cons, List.not_mem_nil, or_false] at hv
    rcases hv with rfl | rfl | rfl | rfl <;> rfl
  pos := by decide
/-- Block q is the reference's shelf of und and L, whose row lies from block B on. -/
structure Rf (B q : Nat) (und : Int) (L : List Pl) (w : World) : Prop where
  lt_ : q < B
  is : ∃ v, w.heap[q]? = some (.cells #[v, .int .u64 und] 63 (0, 0)) ∧ OwE EI 67 B v L w
section
variable {B q : Nat} {und : Int} {L : List Pl} {w w' : World}
theorem Rf.lt (h : Rf B q und L w) : q < w.heap.size := by
  obtain ⟨v, h1, _⟩ := h.is
  exact (Array.getElem?_eq_some_iff.1 h1).1
theorem Rf.keep (h : Rf B q und L w) (hw : ∀ g, g < w.heap.size → (g = q ∨ B ≤ g) → w'.heap[g]? = w.heap[g]?) : Rf B q und L w' := by
  obtain ⟨v, h1, h2⟩ := h.is
  exact ⟨h.lt_, v, (hw q h.lt (Or.inl rfl)).trans h1, h2.keep fun g hg hlt => hw g hlt (Or.inr (h2.lt g hg).1)⟩
theorem Rf.below (h : Rf B q und L w) (k : Below w.heap.size w w') : Rf B q und L w' := h.keep fun g hg _ => k.block g hg
theorem Rf.but {p : Nat} (h : Rf B q und L w) (k : But w.heap.size p w w') (hp : p < B) (hq : p ≠ q) : Rf B q und L w' := h.keep fun g hg hh => k.block g hg (by rcases hh with rfl | hh <;> omega)
theorem Rf.new (w : World) {B : Nat} (hB : w.heap.size < B) : Rf B w.heap.size 0 [] (w.alloc (.cells #[.slice none 0 0, .int .u64 0] 63)) :=
  ⟨hB, _, heap_alloc_new w _, OwE.nil _ _ _ _⟩
/-- What its cells hold. -/
theorem Rf.cells (h : Rf B q und L w) : ∃ a cap, w.cell? ⟨q, 0, none⟩ = some (.slice a L.length cap) ∧ w.cell? ⟨q, 1, none⟩ = some (.int .u64 und) ∧ (∀ j, w.frozen? ⟨q, j, none⟩ = false) ∧ L.length ≤ cap ∧ cap ≤ maxLen ∧
    (a = none ∧ L = [] ∨ ∃ g, a = some ⟨g, 0, none⟩ ∧ B ≤ g ∧ g < w.heap.size) ∧ OwE EI 67 B (.slice a L.length cap) L w ∧
    (∀ j (hj : j < L.length), ∃ g, a = some ⟨g, 0, none⟩ ∧ w.cell? ⟨g, j * 4, none⟩ = some (.int .u64 L[j].n) ∧ w.cell? ⟨g, j * 4 + 1, none⟩ = some (.int .i64 L[j].g.s) ∧ w.cell? ⟨g, j * 4 + 2, none⟩ = some (.int .u64 L[j].g.m) ∧ w.cell? ⟨g, j * 4 + 3, none⟩ = some (.string L[j].g.x)) := by
  obtain ⟨v, h1, h2⟩ := h.is
  obtain ⟨a, cap, rfl, hc1, hc2⟩ := h2.len
  have hsh : a = none ∧ L = [] ∨ ∃ g, a = some ⟨g, 0, none⟩ ∧ B ≤ g ∧ g < w.heap.size := by
    rcases h2.2 with ⟨e, h0⟩ | ⟨g, c, cur, e, hb, hg, _⟩
    · injection e with e1 _ _; exact Or.inl ⟨e1, List.length_eq_zero_iff.1 h0⟩
    · injection e with e1 _ _; exact Or.inr ⟨g, e1, hb, (Array.getElem?_eq_some_iff.1 hg).1⟩
  refine ⟨a, cap, by simp [World.cell?, h1], by simp [World.cell?, h1], fun j => by simp [World.frozen?, h1], hc1, hc2, hsh, h2, fun j hj => ?_⟩
  obtain ⟨_, _, e, _, _, h3⟩ := h2.rd
  cases e
  rcases h3 with h3 | ⟨g, off, rfl, h3⟩
  · omega
  · rcases hsh with ⟨e, _⟩ | ⟨g', e, _⟩
    · cases e
    · cases e
      refine ⟨g, rfl, ?_⟩
      have k := fun c hc => h3 j c hj hc
      have k0 := k 0 (by decide)
      have k1 := k 1 (by decide)
      have k2 := k 2 (by decide)
      have k3 := k 3 (by decide)
      simp only [Nat.zero_add] at k0 k1 k2 k3
      exact ⟨k0, k1, k2, k3⟩
end

def hasL (L : List Pl) (n : Int) : Bool := L.any fun x => decide (x.n = n)
theorem hasL_iff {L : List Pl} {n : Int} : hasL L n = true ↔ ∃ x ∈ L, x.n = n := by simp [hasL]

set_option maxRecDepth 100000 in
set_option maxHeartbeats 4000000 in
theorem find_any (B q : Nat) (und : Int) (L : List Pl) (n : Int) (hL : L.length ≤ 1000) (w : World) (hR : Rf B q und L w) :
    Calls Try.prog 42 #[.pointer (some ⟨q, 0, none⟩), .int .u64 n] w fun e w' => ((∃ k : Nat, ∃ h : k < L.length, e = .returned (.int .i64 k) ∧ L[k].n = n) ∨ (e = .returned (.int .i64 (-1)) ∧ hasL L n = false)) ∧ w' = w := by
  obtain ⟨a, cap, c0, c1, hfz, hcap, hcm, hsh, hO, hcell⟩ := hR.cells
  have hlen : (L.length : Int) ≤ 1000 := by omega
  go_enter Try.func42, Try.ntmps42
  go_wp2_with fail
  go_loopg [5] L.length (fun gk t5 wr => ∃ k : Nat, k + gk = L.length ∧ t5 = .int .i64 k ∧ (∀ j (h : j < L.length), j < k → L[j].n ≠ n) ∧ wr = w)
  case atStart => exact ⟨0, by omega, rfl, fun j _ h => by omega, rfl⟩
  case round =>
    obtain ⟨k, hk, rfl, hno, rfl⟩ := hrel
    have k0 : (0 : Int) ≤ k := by omega
    by_cases hlt : (k : Int) < L.length
    · have hkl : k < L.length := by omega
      obtain ⟨g, rfl, d0, d1, d2, d3⟩ := hcell k hkl
      have hI : Hid ((∀ j (h : j < L.length), j < k → L[j].n ≠ n)) := hno
      clear hno hcell hsh hO d1 d2 d3
      by_cases e : L[k].n = n
      · have hK : Hid (L[k].n = n) := e
        have z : (L[k].n == n) = true := by simp [e]
        clear e
        go_wp2_with fail
        go_ret
        exact ⟨Or.inl ⟨k, hkl, rfl, hK.out⟩, rfl⟩
      · have hn : ∀ j (h : j < L.length), j < k + 1 → L[j].n ≠ n := fun j h hj => by
          by_cases ej : j = k
          · subst ej; exact e
          · exact hI.out j h (by omega)
        have hn : Hid (∀ j (h : j < L.length), j < k + 1 → L[j].n ≠ n) := hn
        have z : (L[k].n == n) = false := by simp [e]
        clear e hI
        go_wp2_with fail
        go_roundg (gk - 1)
        case rel => exact ⟨k + 1, by omega, by go_num, hn.out, rfl⟩
        case measure => omega
    · have hkl : k = L.length := by omega
      have hf : Hid (hasL L n = false) := by
        show hasL L n = false
        cases h : hasL L n
        · rfl
        · obtain ⟨x, hx, e⟩ := hasL_iff.1 h
          obtain ⟨j, hj, rfl⟩ := List.mem_iff_getElem.1 hx
          exact absurd e (hno j hj (by omega))
      clear hno hcell
      go_wp2_with fail
      go_ret
      exact ⟨Or.inr ⟨rfl, hf.out⟩, rfl⟩

theorem Try.undI : Try.prog.underlying 38 = some (.slice 67) := Try.underlying38
theorem Try.infoI : (Try.prog.info? 67).map (fun i => (i.zero, i.size, i.bytes)) = some (some (.agg #[.int .u64 0, .int .i64 0, .int .u64 0, .string ⟨#[]⟩]), EI.sz, 40) := by kernel_rfl
def putL (und : Int) (L : List Pl) (n : Int) (g : Ms) : List Pl := if putE und (hasL L n) n g = 0 then L ++ [⟨n, g⟩] else L

/-- Block g holds an item alone. -/
theorem RdE.one {b : Nat} {u : Pl} {w : World} (h : w.heap[b]? = some (.cells #[.int .u64 u.n, .int .i64 u.g.s, .int .u64 u.g.m, .string u.g.x] 67 (0, 0))) : RdE EI (.slice (some ⟨b, 0, none⟩) 1 1) [u] w :=
  ⟨_, 1, rfl, Nat.le_refl _, by unfold maxLen; omega, Or.inr ⟨b, 0, rfl, fun j c hj hc => by
    have hj' : j = 0 := by simpa using hj
    subst hj'
    have hc' : c < 4 := hc
    rw [show 0 + (0 * EI.sz + c) = c by omega]
    show _ = (plC u)[c]?
    simp only [World.cell?, h]
    have : c = 0 ∨ c = 1 ∨ c = 2 ∨ c = 3 := by omega
    rcases this with rfl | rfl | rfl | rfl <;> rfl⟩⟩

set_option maxRecDepth 100000 in
set_option maxHeartbeats 4000000 in
theorem fput_any (B q : Nat) (und : Int) (L : List Pl) (n : Int) (g : Ms) (hL : L.length ≤ 1000) (n0 : 0 ≤ n) (n1 : n ≤ 18446744073709551615) (u0 : 0 ≤ und) (u1 : und ≤ 1000000) (w : World) (hB : B ≤ w.heap.size) (hR : Rf B q und L w) :
    Calls Try.prog 27 #[.pointer (some ⟨q, 0, none⟩), .int .u64 n, .agg #[.int .i64 g.s, .int .u64 g.m, .string g.x]] w fun e w' =>
      e = .returned (.int .i64 (putE und (hasL L n) n g)) ∧ Rf B q und (putL und L n g) w' ∧ But B q w w' := by
  have hM := Bm.new g w
  have b1 := below_alloc w (.cells #[.int .i64 g.s, .int .u64 g.m, .string g.x] 28)
  have hR1 := hR.below b1
  obtain ⟨a, cap, c0, c1, hfz, hcap, hcm, hsh, hO, _⟩ := hR1.cells
  have m0 := hM.c0
  have m1 := hM.c1
  have m2 := hM.c2
  have bb1 := But.of (p := q) (b1.mono hB)
  have hh := find_any B q und L n hL _ hR1
  have hh : Calls Try.prog 42 #[.pointer (some ⟨q, 0, none⟩), .int .u64 n] (w.alloc (.cells #[.int .i64 g.s, .int .u64 g.m, .string g.x] 28)) fun e w' => (∃ k : Int, e = .returned (.int .i64 k) ∧ decide (0 ≤ k) = hasL L n) ∧ w' = w.alloc (.cells #[.int .i64 g.s, .int .u64 g.m, .string g.x] 28) := by
    refine hh.mono ?_
    rintro e w' ⟨⟨k, hk, rfl, he⟩ | ⟨rfl, he⟩, rfl⟩
    · exact ⟨⟨k, rfl, by rw [decide_eq_true (by omega)]; exact (hasL_iff.2 ⟨_, List.getElem_mem hk, he⟩).symm⟩, rfl⟩
    · exact ⟨⟨-1, rfl, by rw [he]; rfl⟩, rfl⟩
  by_cases h1 : n = 0 ∨ n = 18446744073709551615 ∨ 64 < (g.x.size : Int)
  · have e : putE und (hasL L n) n g = 1 := by unfold putE; rw [if_pos h1]
    have hend : Rf B q und (putL und L n g) (w.alloc (.cells #[.int .i64 g.s, .int .u64 g.m, .string g.x] 28)) := by unfold putL; rw [e, if_neg (by decide)]; exact hR1
    rw [e]
    clear e hh
    by_cases q1 : n = 0
    · have z1 : (n == 0) = true := by simp [q1]
      clear h1 q1
      go_enter Try.func27, Try.ntmps27
      go_wp2_with fail
      go_ret
      exact ⟨rfl, hend, bb1⟩
    · have z1 : (n == 0) = false := by simp [q1]
      by_cases q2 : n = 18446744073709551615
      · have z2 : (n == 18446744073709551615) = true := by simp [q2]
        clear h1 q1 q2
        go_enter Try.func27, Try.ntmps27
        go_wp2_with fail
        go_ret
        exact ⟨rfl, hend, bb1⟩
      · have z2 : (n == 18446744073709551615) = false := by simp [q2]
        have z3 : decide (64 < (g.x.size : Int)) = true := decide_eq_true (by omega)
        clear h1 q1 q2
        go_enter Try.func27, Try.ntmps27
        go_wp2_with fail
        go_ret
        exact ⟨rfl, hend, bb1⟩
  · have z1 : (n == 0) = false := by simp; omega
    have z2 : (n == 18446744073709551615) = false := by simp; omega
    have z3 : decide (64 < (g.x.size : Int)) = false := decide_eq_false (by omega)
    by_cases h2 : n ≤ und
    · have z4 : decide (n ≤ und) = true := decide_eq_true h2
      have e : putE und (hasL L n) n g = 70 := by unfold putE; rw [if_neg h1, if_pos h2]
      have hend : Rf B q und (putL und L n g) (w.alloc (.cells #[.int .i64 g.s, .int .u64 g.m, .string g.x] 28)) := by unfold putL; rw [e, if_neg (by decide)]; exact hR1
      rw [e]
      clear e hh h1
      go_enter Try.func27, Try.ntmps27
      go_wp2_with fail
      go_ret
      exact ⟨rfl, hend, bb1⟩
    · have z4 : decide (n ≤ und) = false := decide_eq_false h2
      cases h3 : hasL L n
      case true =>
        have e : putE und true n g = 4 := by unfold putE; rw [if_neg h1, if_neg h2]; rfl
        have hend : Rf B q und (putL und L n g) (w.alloc (.cells #[.int .i64 g.s, .int .u64 g.m, .string g.x] 28)) := by unfold putL; rw [h3, e, if_neg (by decide)]; exact hR1
        rw [e]
        rw [h3] at hh
        clear e h1 h3
        go_enter Try.func27, Try.ntmps27
        go_wp2_with fail
        refine hh.mono ?_
        rintro e w2 ⟨⟨k, rfl, hk⟩, rfl⟩
        go_wp2_with fail
        go_ret
        exact ⟨rfl, hend, bb1⟩
      case false =>
        rw [h3] at hh
        by_cases h4 : 64 < n - und
        · have z5 : decide (64 < n - und) = true := decide_eq_true h4
          have e : putE und false n g = 2 := by unfold putE; rw [if_neg h1, if_neg h2, if_neg (by simp), if_pos h4]
          have hend : Rf B q und (putL und L n g) (w.alloc (.cells #[.int .i64 g.s, .int .u64 g.m, .string g.x] 28)) := by unfold putL; rw [h3, e, if_neg (by decide)]; exact hR1
          rw [e]
          clear e h1 h3
          go_enter Try.func27, Try.ntmps27
          go_wp2_with fail
          refine hh.mono ?_
          rintro e w2 ⟨⟨k, rfl, hk⟩, rfl⟩
          go_wp2_with fail
          go_ret
          exact ⟨rfl, hend, bb1⟩
        · have z5 : decide (64 < n - und) = false := decide_eq_false h4
          have e : putE und false n g = 0 := by unfold putE; rw [if_neg h1, if_neg h2, if_neg (by simp), if_neg h4]
          have hpl : putL und L n g = L ++ [⟨n, g⟩] := by unfold putL; rw [h3, e, if_pos rfl]
          rw [e, hpl]
          clear e h1 h3 hpl
          go_enter Try.func27, Try.ntmps27
          go_wp2_with fail
          refine hh.mono ?_
          rintro e w2 ⟨⟨k, rfl, hk⟩, rfl⟩
          go_wp2_with fail
          have hBW0 : B ≤ (w.alloc (.cells #[.int .i64 g.s, .int .u64 g.m, .string g.x] 28)).heap.size := Nat.le_trans hB bb1.size
          have hgl := hM.lt
          generalize hWe : w.alloc (.cells #[.int .i64 g.s, .int .u64 g.m, .string g.x] 28) = W at *
          have bd0 := below_alloc W (.cells #[.int .u64 n, .int .i64 g.s, .int .u64 g.m, .string g.x] 67)
          have c0a := cell_below c0 bd0
          have m0a := cell_below m0 bd0
          have m1a := cell_below m1 bd0
          have m2a := cell_below m2 bd0
          have bd : Below W.heap.size W (W.alloc (.cells #[.int .u64 n, .int .i64 g.s, .int .u64 g.m, .string g.x] 67)).drew := bd0.drew
          have hO2 := hO.below bd
          have hY : RdE EI (.slice (some ⟨W.heap.size, 0, none⟩) 1 1) [⟨n, g⟩] (W.alloc (.cells #[.int .u64 n, .int .i64 g.s, .int .u64 g.m, .string g.x] 67)).drew := RdE.one (heap_alloc_new W _)
          obtain ⟨vq, hq1, _⟩ := hR1.is
          have hBW : B ≤ W.heap.size := hBW0
          have hB2 := Nat.le_trans hBW bd.size
          have hqlt := hR1.lt
          have hq2 := (bd.block q hqlt).trans hq1
          have bb2 := bb1.trans (But.of (p := q) (bd.mono hBW))
          have hqB := hR1.lt_
          have hfin : ∀ v7 w7, OwE EI 67 B v7 (L ++ [⟨n, g⟩]) w7 → World.grownBy (W.alloc (.cells #[.int .u64 n, .int .i64 g.s, .int .u64 g.m, .string g.x] 67)).drew w7 (Value.slice a L.length cap).ownBlock →
              (∃ x, w7.cell? ⟨q, 0, none⟩ = some x) ∧ w7.frozen? ⟨q, 0, none⟩ = false ∧ Rf B q und (L ++ [⟨n, g⟩]) (w7.setCell ⟨q, 0, none⟩ v7) ∧ But B q w (w7.setCell ⟨q, 0, none⟩ v7) := by
            intro v7 w7 h7 hg7
            have hne : ∀ k, k < B → (Value.slice a L.length cap).ownBlock ≠ some k := fun k hk e => by have := (hO2.lt k e).1; omega
            have hq7 : w7.heap[q]? = some (.cells #[vq, .int .u64 und] 63 (0, 0)) := (hg7.block q (by omega) (fun e => hne q hqB e.symm)).trans hq2
            have hb7 : But B q w w7 := bb2.trans ⟨hg7.os, hg7.tape, hg7.output, hg7.size, fun k hk _ => hg7.block k (by omega) (fun e => hne k hk e.symm)⟩
            refine ⟨⟨vq, by simp [World.cell?, hq7]⟩, by simp [World.frozen?, hq7], ⟨hqB, v7, by simp [World.setCell, Array.getElem?_modify, hq7], h7.keep fun b hb _ => Below.heap_setCell _ _ _ _ ?_⟩, hb7.setCell (r := ⟨q, 0, none⟩) (Or.inl rfl) _⟩
            have := (h7.lt b hb).1
            simp
            omega
          clear bd hq1 hq2 bb2 hqlt hO hR1
          go_region_law (refine step_appE Try.undI Try.infoI (by decide) (by decide) _ (by rfl) (.tmp 40) (.tmp 44) (by rfl) B (.slice a L.length cap) L (by rfl) hO2 hB2 W.heap.size 0 1 [⟨n, g⟩] 1 rfl (by rfl) hY (by simp; omega) ?_
                         intro v7 w7 hO7 hg7 hn7
                         obtain ⟨⟨x7, k0⟩, k1, k2, k3⟩ := hfin v7 w7 hO7 hg7
                         obtain ⟨a7, c7, rfl, _, _⟩ := hO7.len)
          all_goals
            clear hfin hO2 hY hg7 hn7 hO7
            simp only [List.length_append, List.length_cons, List.length_nil, Nat.zero_add] at k2 k3
            go_wp2_with fail
            go_ret
            exact ⟨rfl, k2, k3⟩
end Go.Proofs.Ytlbeincgknmijaa
