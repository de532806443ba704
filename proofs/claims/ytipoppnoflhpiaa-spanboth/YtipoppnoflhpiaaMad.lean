/-
  Spans that are put together of bytes, one by one; whether a byte is among others.
-/
import Derived.Test.YtipoppnoflhpiaaOpn
import Derived.Test.YtipoppnoflhpiaaDsa
namespace Go.Proofs.Ytipoppnoflhpiaa
open Go.RowKit

def madeS (l : List Int) : List Sn := l.foldl (fun x n => (addS x n).1) []
theorem madeS_take {l : List Int} {k : Nat} (h : k < l.length) : madeS (l.take (k + 1)) = (addS (madeS (l.take k)) l[k]).1 := by
  unfold madeS
  rw [List.take_add_one, List.getElem?_eq_getElem h, Option.toList_some, List.foldl_append]; rfl
theorem Bytes.take {l : List Int} (h : Bytes l) (k : Nat) : Bytes (l.take k) := fun x hx => h x (List.mem_of_mem_take hx)
theorem madeS_spec (l : List Int) (hb : Bytes l) : Up 0 (madeS l) ∧ (∀ n, hasS (madeS l) n = decide (n ∈ l)) ∧ (madeS l).length ≤ l.length := by
  have key : ∀ k, k ≤ l.length → Up 0 (madeS (l.take k)) ∧ (∀ n, hasS (madeS (l.take k)) n = decide (n ∈ l.take k)) ∧ (madeS (l.take k)).length ≤ k := by
    intro k
    induction k with
    | zero => intro _; exact ⟨trivial, fun n => by simp [madeS, hasS_nil], Nat.le_refl _⟩
    | succ k ih =>
      intro hk
      obtain ⟨h1, h2, h3⟩ := ih (by omega)
      have hk' : k < l.length := by omega
      have hx := hb _ (List.getElem_mem hk')
      rw [madeS_take hk']
      refine ⟨addS_up h1 hx.1 (by omega), fun n => ?_, ?_⟩
      · rw [addS_has h1 hx.1 (by omega), h2, List.take_add_one, List.getElem?_eq_getElem hk', Option.toList_some]
        rw [Bool.eq_iff_iff]
        simp only [Bool.or_eq_true, decide_eq_true_eq, List.mem_append, List.mem_singleton]
        exact ⟨fun h => h.imp id Eq.symm, fun h => h.imp id Eq.symm⟩
      · have := addS_len h1 hx.1 (show l[k] < 18446744073709551615 by omega)
        omega
  have := key l.length (Nat.le_refl _)
  rwa [List.take_length] at this
theorem hasS_top {l : List Sn} (h : Up 0 l) (hb : ∀ n, hasS l n = true → n ≤ 255) : ∀ s ∈ l, s.t ≤ 255 := fun s hs => hb s.t (hasS_iff.2 ⟨s, hs, (h.mem s hs).2.1, Int.le_refl _⟩)

set_option maxRecDepth 100000 in
set_option maxHeartbeats 1000000 in
theorem made_any (v : Value) (l : List Int) (w : World) (hR : Rn v l w) (hB : Bytes l) (hl : l.length ≤ 1000) :
    Calls Try.prog 27 #[v] w fun e w' => (∃ v', e = .returned v' ∧ Rs v' (madeS l) w') ∧ Below w.heap.size w w' := by
  have hlen : (l.length : Int) ≤ 1000 := by omega
  obtain ⟨R, HR⟩ : ∃ R, Hid (madeS l = R) := ⟨_, rfl⟩
  rw [HR.out]
  have b1 := below_alloc w (.cells #[] 40)
  have hO0 := made_os (w := w) (Nat.le_refl _)
  have hR0 := hO0.rs (fun s hs => by cases hs)
  obtain ⟨a, cap, rfl, h3⟩ := id hR
  go_enter Try.func27, Try.ntmps27
  go_wp2_with fail
  go_loopg [3, 4] l.length (fun gk t3 t4 wr => ∃ k : Nat, k + gk = l.length ∧ t4 = .int .i64 k ∧ Rs t3 (madeS (l.take k)) wr ∧ Below w.heap.size w wr)
  case atStart => exact ⟨0, by omega, rfl, hR0, b1⟩
  case round =>
    obtain ⟨k, hk, rfl, hR3, hW⟩ := hrel
    clear hR0 hO0 b1
    by_cases hlt : (k : Int) < l.length
    · have k0 : (0 : Int) ≤ k := by omega
      have hk' : k < l.length := by omega
      rcases h3 with h3 | ⟨g, off, rfl, h3⟩
      · omega
      have c0 := (hR.below hW).at hk'
      have hx := hB _ (List.getElem_mem hk')
      obtain ⟨u1, _, u3⟩ := madeS_spec (l.take k) (hB.take k)
      rw [List.length_take] at u3
      have hst := madeS_take hk'
      have hA := add_any _ _ l[k] wr hR3 (by omega) hx.1 (by omega)
      generalize l[k] = x at *
      generalize madeS (l.take k) = M at *
      have hst : Hid (madeS (l.take (k + 1)) = (addS M x).1) := hst
      clear h3
      go_wp2_with fail
      refine hA.mono ?_
      rintro e w2 ⟨⟨v2, rfl, hR2⟩, hb2⟩
      go_wp2_with fail
      go_roundg (gk - 1)
      case rel => exact ⟨k + 1, by omega, by go_num, by rw [hst.out]; exact hR2, hW.trans (hb2.mono hW.size)⟩
      case measure => omega
    · have ek : l.length ≤ k := by omega
      rw [List.take_of_length_le ek, HR.out] at hR3
      go_wp2_with fail
      go_ret
      exact ⟨⟨_, rfl, hR3⟩, hW⟩

theorem mem_take_succ {l : List Int} {i : Nat} (hi : i < l.length) {x : Int} (h : x ∉ l.take i) (hx : x ≠ l[i]) : x ∉ l.take (i + 1) := by
  rw [List.take_add_one, List.getElem?_eq_getElem hi]
  intro hm
  rcases List.mem_append.1 hm with hm | hm
  · exact h hm
  · simp at hm; exact hx hm

set_option maxRecDepth 100000 in
set_option maxHeartbeats 1000000 in
theorem in_any (v : Value) (l : List Int) (x : Int) (w : World) (hR : Rn v l w) (hB : Bytes l) (hl : l.length ≤ 1000) :
    Calls Try.prog 28 #[v, .int .i64 x] w fun e w' => e = .returned (.bool (decide (x ∈ l))) ∧ w' = w := by
  obtain ⟨a, cap, rfl, k1⟩ := id hR
  have hlen : (l.length : Int) ≤ 1000 := by omega
  obtain ⟨z, HZ⟩ : ∃ z, Hid (decide (x ∈ l) = z) := ⟨_, rfl⟩
  rw [HZ.out]
  go_enter Try.func28, Try.ntmps28
  go_wp2_with fail
  go_loopg [5] l.length (fun gk t5 wr => ∃ i : Nat, i + gk = l.length ∧ t5 = .int .i64 i ∧ Hid (x ∉ l.take i) ∧ wr = w)
  case atStart => exact ⟨0, by omega, rfl, show x ∉ l.take 0 by simp, rfl⟩
  case round =>
    obtain ⟨i, hi, rfl, hx, rfl⟩ := hrel
    by_cases hlt : (i : Int) < l.length
    · have i0 : (0 : Int) ≤ i := by omega
      have hil : i < l.length := by omega
      rcases k1 with k1 | ⟨g1, o1, rfl, k1⟩
      · omega
      have c1 := k1 i hil
      have hs : x ≠ l[i] → Hid (x ∉ l.take (i + 1)) := fun e => mem_take_succ hil hx.out e
      have hm : x = l[i] → z = true := fun e => by rw [← HZ.out, decide_eq_true_eq, e]; exact List.getElem_mem hil
      have hby := hB _ (List.getElem_mem hil)
      clear k1
      generalize l[i] = y at c1 hs hm hby
      by_cases hxy : x = y
      · have he : (y == x) = true := by simp [hxy]
        obtain rfl := hm hxy
        clear hs hxy
        go_wp2_with fail
        go_ret
        exact ⟨rfl, rfl⟩
      · have he : (y == x) = false := by rw [beq_eq_false_iff_ne]; exact fun e => hxy e.symm
        have hs := hs hxy
        clear hm
        go_wp2_with fail
        go_roundg (gk - 1)
        case rel => exact ⟨i + 1, by omega, by go_num, hs, rfl⟩
        case measure => omega
    · obtain rfl : i = l.length := by omega
      have hx' := hx.out
      rw [List.take_length] at hx'
      obtain rfl : z = false := by rw [← HZ.out, decide_eq_false_iff_not]; exact hx'
      clear hx' hx
      go_wp2_with fail
      go_ret
      exact ⟨rfl, rfl⟩

/-! ## What is told may lie in memory -/
theorem joinS_ok (a b : List Sn) : ∀ s ∈ joinS a b, SnOk s := by
  by_cases h : Up 0 a ∧ Up 0 b
  · exact (joinS_up h.1 h.2).ok
  · have e : (mayS a && mayS b) = false := by
      cases h1 : mayS a <;> cases h2 : mayS b <;> simp
      exact h ⟨(mayS_iff a).1 h1, (mayS_iff b).1 h2⟩
    unfold joinS; rw [e]; intro s hs; cases hs
theorem minusS_ok (a b : List Sn) : ∀ s ∈ minusS a b, SnOk s := by
  by_cases h : Up 0 a ∧ Up 0 b
  · exact (minusS_up h.1 h.2).ok
  · have e : (mayS a && mayS b) = false := by
      cases h1 : mayS a <;> cases h2 : mayS b <;> simp
      exact h ⟨(mayS_iff a).1 h1, (mayS_iff b).1 h2⟩
    unfold minusS; rw [e]; intro s hs; cases hs
theorem joinS_le (a b : List Sn) : (joinS a b).length ≤ a.length + b.length := by
  by_cases h : Up 0 a ∧ Up 0 b
  · exact joinS_len h.1 h.2
  · have e : (mayS a && mayS b) = false := by
      cases h1 : mayS a <;> cases h2 : mayS b <;> simp
      exact h ⟨(mayS_iff a).1 h1, (mayS_iff b).1 h2⟩
    unfold joinS; rw [e]; simp
theorem minusS_le (a b : List Sn) : (minusS a b).length ≤ a.length + b.length := by
  by_cases h : Up 0 a ∧ Up 0 b
  · exact minusS_len h.1 h.2
  · have e : (mayS a && mayS b) = false := by
      cases h1 : mayS a <;> cases h2 : mayS b <;> simp
      exact h ⟨(mayS_iff a).1 h1, (mayS_iff b).1 h2⟩
    unfold minusS; rw [e]; simp
theorem addS_ok {l : List Sn} {n : Int} (n0 : 0 ≤ n) (n1 : n ≤ 18446744073709551615) : (addS l n).1.length ≤ l.length + 1 := by
  unfold addS
  cases hm : mayS l
  · by_cases hn : n = 18446744073709551615
    · simp [hn]
    · have := walkS_len (f := orB) rfl (by trivial : Up 0 []) (one_up n0 (show n < 18446744073709551615 by omega))
      simp [hn]
      simp at this
      omega
  · have hu := (mayS_iff l).1 hm
    simp only [if_true, Bool.true_and]
    split
    · simp
    · rename_i hn
      have := walkS_len (f := orB) rfl hu (one_up n0 (show n < 18446744073709551615 by omega))
      simp at this
      omega
end Go.Proofs.Ytipoppnoflhpiaa
