/-
  Reach, Have, Trim.
-/
import Derived.Test.YtlbeincgknmijaaEac
import Derived.Test.YtlbeincgknmijaaSmt
import Derived.Test.YtlbeincgknmijaaDad
namespace Go.Proofs.Ytlbeincgknmijaa
open Go.RowKit

/-- Block b is a box of type T with v in it. -/
structure Bv (T : TypeId) (b : Nat) (v : Value) (w : World) : Prop where
  heap : w.heap[b]? = some (.cells #[v] T (0, 0))
section
variable {T : TypeId} {b : Nat} {v : Value} {w w' : World}
theorem Bv.new (T : TypeId) (v : Value) (w : World) : Bv T w.heap.size v (w.alloc (.cells #[v] T)) := ⟨heap_alloc_new w _⟩
theorem Bv.c (h : Bv T b v w) : w.cell? ⟨b, 0, none⟩ = some v := by simp [World.cell?, h.heap]
theorem Bv.free (h : Bv T b v w) (j : Nat) : w.frozen? ⟨b, j, none⟩ = false := by simp [World.frozen?, h.heap]
theorem Bv.lt (h : Bv T b v w) : b < w.heap.size := (Array.getElem?_eq_some_iff.1 h.heap).1
theorem Bv.keep (h : Bv T b v w) (e : w'.heap[b]? = w.heap[b]?) : Bv T b v w' := ⟨e.trans h.heap⟩
theorem Bv.below (h : Bv T b v w) (k : Below w.heap.size w w') : Bv T b v w' := h.keep (k.block b h.lt)
theorem Bv.but {p : Nat} (h : Bv T b v w) (k : But w.heap.size p w w') (hp : b ≠ p) : Bv T b v w' := h.keep (k.block b h.lt hp)
theorem Bv.set (h : Bv T b v w) (u : Value) : Bv T b u (w.setCell ⟨b, 0, none⟩ u) := ⟨by simp [World.setCell, Array.getElem?_modify, h.heap]⟩
end
/-- A row of spans does not lie in a box with a slice. -/
theorem Rs.other {T : TypeId} {b : Nat} {ad : Option Addr} {n c : Nat} {v : Value} {l : List Sn} {w : World} (h : Rs v l w) (hb : Bv T b (.slice ad n c) w) (u : Value) : Rs v l (w.setCell ⟨b, 0, none⟩ u) := by
  obtain ⟨⟨a, cap, rfl, h1, h2, h3⟩, h4⟩ := id h
  rcases h3 with h3 | ⟨g, off, rfl, h3⟩
  · obtain rfl := List.length_eq_zero_iff.1 h3
    exact ⟨⟨a, cap, rfl, h1, h2, Or.inl rfl⟩, h4⟩
  · by_cases hz : l.length = 0
    · exact ⟨⟨_, cap, rfl, h1, h2, Or.inl hz⟩, h4⟩
    · refine h.keep fun g' e _ => Below.heap_setCell _ _ _ _ ?_
      cases e
      rintro rfl
      obtain ⟨c0, _⟩ := h3 0 (by omega)
      rw [Nat.zero_mul, Nat.add_zero] at c0
      simp only [World.cell?, hb.heap] at c0
      by_cases ho : off = 0
      · subst ho; simp at c0
      · rw [if_neg (by simp)] at c0
        rw [show (#[Value.slice ad n c] : Array Value)[off]? = none from by simp; omega] at c0
        cases c0

set_option maxHeartbeats 1000000 in
theorem reach1_yes (b : Nat) (r n : Int) (r0 : 0 ≤ r) (r1 : r ≤ 2000000) (hn : n = r + 1) (w : World) (hb : Bv 25 b (.int .u64 r) w) :
    Calls Try.prog 57 #[.int .u64 n, .pointer (some ⟨b, 0, none⟩)] w fun e w' => e = .returned (.bool true) ∧ w' = w.setCell ⟨b, 0, none⟩ (.int .u64 n) := by
  have c := hb.c
  have y := hb.free 0
  have z1 : (n == r + 1) = true := by simp [hn]
  have z2 : (n != r + 1) = false := by simp [hn]
  clear hn
  go_enter Try.func57, Try.ntmps57
  go_wp2_with fail
  go_ret
  exact ⟨rfl, rfl⟩
set_option maxHeartbeats 1000000 in
theorem reach1_no (b : Nat) (r n : Int) (r0 : 0 ≤ r) (r1 : r ≤ 2000000) (hn : n ≠ r + 1) (w : World) (hb : Bv 25 b (.int .u64 r) w) :
    Calls Try.prog 57 #[.int .u64 n, .pointer (some ⟨b, 0, none⟩)] w fun e w' => e = .returned (.bool false) ∧ w' = w := by
  have c := hb.c
  have z1 : (n == r + 1) = false := by simp [hn]
  have z2 : (n != r + 1) = true := by simp [hn]
  clear hn
  go_enter Try.func57, Try.ntmps57
  go_wp2_with fail
  go_ret
  exact ⟨rfl, rfl⟩

set_option maxRecDepth 100000 in
set_option maxHeartbeats 1000000 in
theorem sreach_any (p : Nat) (low : Int) (R : Rng) (l0 : 0 ≤ low) (l1 : low ≤ 1000000) (w : World) (hS : Sf p low R w) :
    Calls Try.prog 45 #[.pointer (some ⟨p, 0, none⟩)] w fun e w' => e = .returned (.int .u64 (reachR low R)) ∧ Below w.heap.size w w' := by
  have hl := hS.clow
  have b1 := below_alloc w (.cells #[.int .u64 low] 25)
  have hS1 := hS.below b1
  have hV := Bv.new 25 (.int .u64 low) w
  have hbp : w.heap.size ≠ p := by have := hS.lt; omega
  have he := each_any p low 57 #[.pointer (some ⟨w.heap.size, 0, none⟩)]
    (fun i w' => Sf p low R w' ∧ Bv 25 w.heap.size (.int .u64 (low + lead (pr low R) i)) w' ∧ Below w.heap.size w w')
    (fun w' => Bv 25 w.heap.size (.int .u64 (reachR low R)) w' ∧ Below w.heap.size w w')
    (w.alloc (.cells #[.int .u64 low] 25)) l0 l1 (fun _ _ => rfl)
    (by
      rintro i w' hi ⟨hs, hv, hb⟩
      have hle := lead_le (pr low R) i
      refine ⟨R, hs, fun hp => ?_, fun hp => ?_⟩
      · by_cases e : lead (pr low R) i = i
        · refine (reach1_yes _ _ _ (by omega) (by omega) (by rw [e]; omega) w' hv).mono ?_
          rintro e2 w2 ⟨rfl, rfl⟩
          refine Or.inl ⟨rfl, hs.other (fun e => hbp e.symm) _, ?_, hb.setCell (p := ⟨w.heap.size, 0, none⟩) (Nat.le_refl _) _⟩
          rw [lead_yes e hp]
          rw [show low + ((i + 1 : Nat) : Int) = low + 1 + i by omega]
          exact hv.set _
        · refine (reach1_no _ _ _ (by omega) (by omega) (by omega) w' hv).mono ?_
          rintro e2 w2 ⟨rfl, rfl⟩
          refine Or.inr ⟨rfl, ?_, hb⟩
          unfold reachR
          rw [lead_stop (i := i) (by omega) 64 (by omega)]
          exact hv
      · rw [lead_no hp]
        exact ⟨hs, hv, hb⟩)
    (fun w' h => ⟨h.2.1, h.2.2⟩)
    ⟨hS1, by simp only [lead]; rw [show low + ((0 : Nat) : Int) = low by omega]; exact hV, b1⟩
  go_enter Try.func45, Try.ntmps45
  go_wp2_with fail
  refine he.mono ?_
  rintro e w2 ⟨rfl, hv2, hb2⟩
  have c2 := hv2.c
  go_wp2_with fail
  go_ret
  exact ⟨rfl, hb2⟩

set_option maxRecDepth 100000 in
set_option maxHeartbeats 1000000 in
theorem have1_any (b : Nat) (l : List Sn) (v : Value) (n : Int) (n0 : 0 ≤ n) (n1 : n ≤ 18446744073709551615) (hl : l.length ≤ 100000) (w : World) (hb : Bv 23 b v w) (hR : Rs v l w) :
    Calls Try.prog 38 #[.int .u64 n, .pointer (some ⟨b, 0, none⟩)] w fun e w' => e = .returned (.bool true) ∧
      ∃ w1 v', Below w.heap.size w w1 ∧ w' = w1.setCell ⟨b, 0, none⟩ v' ∧ Rs v' (addS l n).1 w' ∧ Bv 23 b v' w' := by
  obtain ⟨⟨a, cap, rfl, h1, h2, h3⟩, hok⟩ := id hR
  have c := hb.c
  go_enter Try.func38, Try.ntmps38
  go_wp2_with fail
  refine (add_any _ l n w hR hl n0 n1).mono ?_
  rintro e w2 ⟨⟨v', rfl, hR'⟩, hb2⟩
  have hb' := hb.below hb2
  have y := hb'.free 0
  have c' := hb'.c
  have hR2 := hR'.other hb' v'
  have hb3 := hb'.set v'
  obtain ⟨⟨a', cap', rfl, _, _, _⟩, _⟩ := id hR'
  go_wp2_with fail
  go_ret
  exact ⟨rfl, w2, _, hb2, rfl, hR2, hb3⟩

set_option maxRecDepth 100000 in
set_option maxHeartbeats 1000000 in
theorem shave_any (p : Nat) (low : Int) (R : Rng) (l0 : 0 ≤ low) (l1 : low ≤ 1000000) (w : World) (hS : Sf p low R w) :
    Calls Try.prog 20 #[.pointer (some ⟨p, 0, none⟩)] w fun e w' => (∃ v, e = .returned v ∧ Rs v (haveR low R) w') ∧ Below w.heap.size w w' := by
  have hl := hS.clow
  have b1 := below_alloc w (.cells #[.slice none 0 0] 23)
  have hS1 := hS.below b1
  have hl1 := hS1.clow
  have hV := Bv.new 23 (.slice none 0 0) w
  have hbp : w.heap.size ≠ p := by have := hS.lt; omega
  have he : ∀ (v0 : Value) (w0 : World), Sf p low R w0 → Bv 23 w.heap.size v0 w0 → Rs v0 (haveN low R 0) w0 → Below w.heap.size w w0 →
      Calls Try.prog 37 #[.pointer (some ⟨p, 0, none⟩), .func (.func 38) #[] #[.pointer (some ⟨w.heap.size, 0, none⟩)]] w0 fun e w' => e = .returned (.tuple #[]) ∧ ∃ v, Bv 23 w.heap.size v w' ∧ Rs v (haveR low R) w' ∧ Below w.heap.size w w' :=
    fun v0 w0 k1 k2 k3 k4 => each_any p low 38 #[.pointer (some ⟨w.heap.size, 0, none⟩)]
    (fun i w' => Sf p low R w' ∧ (∃ v, Bv 23 w.heap.size v w' ∧ Rs v (haveN low R i) w') ∧ Below w.heap.size w w')
    (fun w' => ∃ v, Bv 23 w.heap.size v w' ∧ Rs v (haveR low R) w' ∧ Below w.heap.size w w')
    w0 l0 l1 (fun _ _ => rfl)
    (by
      rintro i w' hi ⟨hs, ⟨v, hv, hr⟩, hb⟩
      have hlen := (haveN_ok (R := R) l0 l1 i (by omega)).2.1
      refine ⟨R, hs, fun hp => ?_, fun hp => ?_⟩
      · refine (have1_any _ (haveN low R i) v _ (by omega) (by omega) (by omega) w' hv hr).mono ?_
        rintro e2 w2 ⟨rfl, w1, v', q1, rfl, q2, q3⟩
        refine Or.inl ⟨rfl, (hs.below q1).other (fun e => hbp e.symm) _, ⟨v', q3, ?_⟩, (hb.trans (q1.mono hb.size)).setCell (p := ⟨w.heap.size, 0, none⟩) (Nat.le_refl _) _⟩
        have hp' : pr low R i = true := hp
        simp only [haveN]
        rw [if_pos hp']
        exact q2
      · refine ⟨hs, ⟨v, hv, ?_⟩, hb⟩
        have hp' : ¬ pr low R i = true := by unfold pr; rw [hp]; simp
        simp only [haveN]
        rw [if_neg hp']
        exact hr)
    (fun w' h => ⟨_, h.2.1.choose_spec.1, h.2.1.choose_spec.2, h.2.2⟩)
    ⟨k1, ⟨v0, k2, k3⟩, k4⟩
  by_cases hz : 0 < low
  · have z1 : decide (0 < low) = true := decide_eq_true hz
    have e0 : haveN low R 0 = [⟨1, low⟩] := by simp only [haveN]; rw [if_pos hz]
    rw [e0] at he
    have y := hV.free 0
    have c := hV.c
    clear e0
    go_enter Try.func20, Try.ntmps20
    go_wp2_with fail
    have a1 := below_alloc w (.cells #[.slice (some ⟨w.heap.size + 1, 0, none⟩) 1 1] 23)
    have a2 := below_alloc (w.alloc (.cells #[.slice (some ⟨w.heap.size + 1, 0, none⟩) 1 1] 23)) (.cells #[.int .u64 1, .int .u64 low] 51)
    have v1 := (Bv.new 23 (.slice (some ⟨w.heap.size + 1, 0, none⟩) 1 1) w).below a2
    have r1 := Rs.one (Bx.new 51 1 low (w.alloc (.cells #[.slice (some ⟨w.heap.size + 1, 0, none⟩) 1 1] 23))) ⟨by show (0 : Int) ≤ 1; omega, by show (1 : Int) ≤ 18446744073709551615; omega, by show 0 ≤ low; omega, by show low ≤ 18446744073709551615; omega⟩
    rw [show (w.alloc (.cells #[.slice (some ⟨w.heap.size + 1, 0, none⟩) 1 1] 23)).heap.size = w.heap.size + 1 by simp] at r1
    refine (he _ _ ((hS.below a1).below a2) v1 r1 (a1.trans (a2.mono a1.size))).mono ?_
    rintro e w2 ⟨rfl, v, hv, hr, hb⟩
    have c2 := hv.c
    go_wp2_with fail
    go_ret
    exact ⟨⟨_, rfl, hr⟩, hb⟩
  · have z1 : decide (0 < low) = false := decide_eq_false hz
    have e0 : haveN low R 0 = [] := by simp only [haveN]; rw [if_neg hz]
    rw [e0] at he
    clear e0
    go_enter Try.func20, Try.ntmps20
    go_wp2_with fail
    refine (he _ _ hS1 hV (Rs.nil _) b1).mono ?_
    rintro e w2 ⟨rfl, v, hv, hr, hb⟩
    have c2 := hv.c
    go_wp2_with fail
    go_ret
    exact ⟨⟨_, rfl, hr⟩, hb⟩


/-- The ring behind the i-th step of trimming, where nothing is there. -/
theorem trim_step {low : Int} {R : Rng} (h : RI low R) (l0 : 0 ≤ low) {to : Int} {i : Nat} (hp : hasR low R (low + 1 + i) = false) : ∀ j, j < 64 → trimR R (min to (low + i)) j = trimR R (min to (low + ((i + 1 : Nat) : Int))) j := by
  intro j hj
  unfold trimR
  by_cases e : (R j).n = low + 1 + i
  · exfalso
    rcases h j hj with e' | e'
    · rw [e'] at e; have e : (0 : Int) = low + 1 + i := e; omega
    · unfold hasR at hp
      rw [decide_eq_true (show low < low + 1 + (i : Int) by omega), show ((low + 1 + (i : Int)) % 64).toNat = j by omega, decide_eq_true e] at hp
      cases hp
  · by_cases a : (R j).n ≤ min to (low + i)
    · rw [if_pos a, if_pos (by omega)]
    · rw [if_neg a, if_neg (by omega)]
/-- .. where something is: it goes, if it is not above to. -/
theorem trim_step2 {low : Int} {R : Rng} (h : RI low R) {to : Int} {i : Nat} (ht : low + 1 + i ≤ to) : ∀ j, j < 64 → (trimR R (min to (low + i))).set ((low + 1 + (i : Int)) % 64).toNat zP j = trimR R (min to (low + ((i + 1 : Nat) : Int))) j := by
  intro j hj
  by_cases e : j = ((low + 1 + (i : Int)) % 64).toNat
  · subst e
    rw [Rng.set_same]
    unfold trimR
    rcases h _ hj with e' | e'
    · rw [e']; split <;> rfl
    · rw [if_pos (by omega)]
  · rw [Rng.set_other _ _ e]
    unfold trimR
    rcases h _ hj with e' | e'
    · rw [e']; split <;> split <;> rfl
    · by_cases a : (R j).n ≤ min to (low + i)
      · rw [if_pos a, if_pos (by omega)]
      · rw [if_neg a, if_neg (by omega)]
theorem trim_has_at {low : Int} {R : Rng} (l0 : 0 ≤ low) {m n : Int} : hasR low (trimR R m) n = true → hasR low R n = true := by
  unfold hasR trimR
  intro hh
  simp only [Bool.and_eq_true, decide_eq_true_eq] at hh ⊢
  refine ⟨hh.1, ?_⟩
  by_cases a : (R (n % 64).toNat).n ≤ m
  · rw [if_pos a] at hh; have h2 : (0 : Int) = n := hh.2; have := hh.1; omega
  · rw [if_neg a] at hh; exact hh.2
theorem trim_has_not {low : Int} {R : Rng} {m n : Int} (h : m < n) : hasR low (trimR R m) n = false → hasR low R n = false := by
  intro hh
  cases hc : hasR low R n
  · rfl
  · unfold hasR trimR at *
    simp only [Bool.and_eq_true, decide_eq_true_eq] at hc
    rw [if_neg (by omega), decide_eq_true hc.1, decide_eq_true hc.2] at hh
    cases hh
end Go.Proofs.Ytlbeincgknmijaa
