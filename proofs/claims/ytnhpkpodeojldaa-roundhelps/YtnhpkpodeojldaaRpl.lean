/-
  slices.Index, slices.Contains; the closures; place; Left.
-/
import Derived.Test.YtnhpkpodeojldaaRba
import Derived.Test.YtnhpkpodeojldaaLrf
namespace Go.Proofs.Ytnhpkpodeojldaa
open Go.RowKit

theorem enter_of {P : Program} {f : FuncId} {fn : Func} {c : Code} (hf : P.funcs[f]? = some fn) (hn : (fn.name == "runtime.NumGoroutine") = false) (hb : fn.body = some c) (args : Array Value) (w : World) :
    (callFunc f args).run P w = .ok (.enter f args) w := by
  have : fn.name ≠ "runtime.NumGoroutine" := by simpa using hn
  simp [callFunc, hf, this, hb]

theorem mem_take_succ {l : List Int} {i : Nat} (hi : i < l.length) {x : Int} (h : x ∉ l.take i) (hx : x ≠ l[i]) : x ∉ l.take (i + 1) := by
  rw [List.take_add_one, List.getElem?_eq_getElem hi]
  intro hm
  rcases List.mem_append.1 hm with hm | hm
  · exact h hm
  · exact hx (by simpa using hm)

set_option maxHeartbeats 400000 in
theorem index_any (v : Value) (l : List Int) (x : Int) (w : World) (hl : l.length ≤ 1000000) (h : Rd .i64 v l w) :
    Calls Try.prog 45 #[v, .int .i64 x] w fun e w' => ∃ n : Int, e = .returned (.int .i64 n) ∧ decide (0 ≤ n) = decide (x ∈ l) ∧ w' = w := by
  obtain ⟨a, cap, rfl, _, _, _, k1⟩ := h
  go_enter Try.func45, Try.ntmps45
  go_wp2_with fail
  go_loopg [8] l.length (fun gk t8 wr => ∃ i : Nat, i + gk = l.length ∧ t8 = .int .i64 i ∧ x ∉ l.take i ∧ wr = w)
  case atStart => exact ⟨0, by omega, rfl, by simp, rfl⟩
  case round =>
    obtain ⟨i, hi, rfl, hx, rfl⟩ := hrel
    by_cases hlt : (i : Int) < l.length
    · have i0 : (0 : Int) ≤ i := by omega
      have hil : i < l.length := by omega
      rcases k1 with k1 | ⟨g1, o1, rfl, k1⟩
      · omega
      have c1 := k1 i hil
      have hs := fun e => mem_take_succ hil hx e
      have hm : x = l[i] → x ∈ l := fun e => by rw [e]; exact List.getElem_mem hil
      clear k1
      generalize l[i] = y at c1 hs hm
      by_cases hxy : x = y
      · have he : (x == y) = true := by simp [hxy]
        have hm := hm hxy
        clear hs hxy
        go_wp2_with fail
        go_ret
        exact ⟨_, rfl, by simp [hm], rfl⟩
      · have he : (x == y) = false := by simp [hxy]
        have hs := hs hxy
        clear hm
        go_wp2_with fail
        go_roundg (gk - 1)
        case rel => exact ⟨i + 1, by omega, by go_num, hs, rfl⟩
        case measure => omega
    · obtain rfl : i = l.length := by omega
      rw [List.take_length] at hx
      go_wp2_with fail
      go_ret
      exact ⟨_, rfl, by simp, rfl⟩

set_option maxHeartbeats 400000 in
theorem contains_any (v : Value) (l : List Int) (x : Int) (w : World) (hl : l.length ≤ 1000000) (h : Rd .i64 v l w) :
    Calls Try.prog 30 #[v, .int .i64 x] w fun e w' => e = .returned (.bool (decide (x ∈ l))) ∧ w' = w := by
  obtain ⟨z, HZ⟩ : ∃ z, Hid (decide (x ∈ l) = z) := ⟨_, rfl⟩
  rw [HZ.out]
  cases z
  all_goals
    go_enter Try.func30, Try.ntmps30
    go_wp2_with fail
    refine (index_any v l x w hl h).mono ?_
    rintro e w1 ⟨n, rfl, hn, rfl⟩
    rw [HZ.out] at hn
    go_wp2_with fail
    go_ret
    exact ⟨rfl, rfl⟩

set_option maxHeartbeats 400000 in
theorem among_any (b : Nat) (v : Value) (l : List Int) (x : Int) (w : World) (hl : l.length ≤ 1000000) (h : Rd .i64 v l w) (hb : w.heap[b]? = some (.cells #[v] 26 (0, 0))) :
    Calls Try.prog 29 #[.int .i64 x, .pointer (some ⟨b, 0, none⟩)] w fun e w' => e = .returned (.bool (decide (x ∈ l))) ∧ w' = w := by
  have hc : w.cell? ⟨b, 0, none⟩ = some v := by simp [World.cell?, hb]
  have h' := h
  obtain ⟨a, cap, rfl, _⟩ := h'
  go_enter Try.func29, Try.ntmps29
  go_wp2_with fail
  refine (contains_any _ l x w hl h).mono ?_
  rintro e w1 ⟨rfl, rfl⟩
  go_wp2_with fail
  go_ret
  exact ⟨rfl, rfl⟩

set_option maxHeartbeats 400000 in
theorem alike_any (b : Nat) (x y : Int) (w : World) (hb : w.heap[b]? = some (.cells #[.int .i64 y] 3 (0, 0))) :
    Calls Try.prog 34 #[.int .i64 x, .pointer (some ⟨b, 0, none⟩)] w fun e w' => e = .returned (.bool (decide (x = y))) ∧ w' = w := by
  have hc : w.cell? ⟨b, 0, none⟩ = some (.int .i64 y) := by simp [World.cell?, hb]
  have he : decide (x = y) = (x == y) := rfl
  rw [he]
  go_enter Try.func34, Try.ntmps34
  go_wp2_with fail
  all_goals go_ret
  all_goals exact ⟨rfl, rfl⟩

set_option maxHeartbeats 400000 in
theorem isnot_any (b : Nat) (x y : Int) (w : World) (hb : w.heap[b]? = some (.cells #[.int .i64 y] 3 (0, 0))) :
    Calls Try.prog 40 #[.int .i64 x, .pointer (some ⟨b, 0, none⟩)] w fun e w' => e = .returned (.bool (decide (x = y))) ∧ w' = w := by
  have hc : w.cell? ⟨b, 0, none⟩ = some (.int .i64 y) := by simp [World.cell?, hb]
  have he : decide (x = y) = (x == y) := rfl
  rw [he]
  go_enter Try.func40, Try.ntmps40
  go_wp2_with fail
  all_goals go_ret
  all_goals exact ⟨rfl, rfl⟩

theorem findIdx_at {s : List Int} {b : Int → Bool} {i : Nat} (hi : i < s.length) (h : ∀ x ∈ s.take i, b x = false) (hb : b s[i] = true) : s.findIdx b = i := by
  rw [List.findIdx_eq hi]
  refine ⟨hb, fun j hj => h _ ?_⟩
  rw [List.mem_take_iff_getElem]
  exact ⟨j, by omega, rfl⟩

set_option maxHeartbeats 400000 in
theorem place_any (B q : Nat) (s : List Int) (F : FuncId) (caps : Array Value) (b : Int → Bool) (w : World) (hs : s.length ≤ 1000000) (hR : Rn 28 B q s w) (hF : ∀ args w', (callFunc F args).run Try.prog w' = .ok (.enter F args) w')
    (hcl : ∀ x, Calls Try.prog F (#[.int .i64 x] ++ caps) w fun e w'' => e = .returned (.bool (b x)) ∧ w'' = w) :
    Calls Try.prog 28 #[.pointer (some ⟨q, 0, none⟩), .func (.func F) #[] caps] w fun e w' => e = .returned (.int .i64 (s.findIdx b)) ∧ w' = w := by
  obtain ⟨a, cap, hc, _, hd, _⟩ := hR.cell
  obtain ⟨a', cap', e', _, _, _, k1⟩ := hd
  cases e'
  obtain ⟨m, HM⟩ : ∃ m, Hid (s.findIdx b = m) := ⟨_, rfl⟩
  rw [HM.out]
  go_enter Try.func28, Try.ntmps28
  go_wp2_with fail
  go_loopg [12] s.length (fun gk t12 wr => ∃ i : Nat, i + gk = s.length ∧ t12 = .int .i64 i ∧ (∀ x ∈ s.take i, b x = false) ∧ wr = w)
  case atStart => exact ⟨0, by omega, rfl, by simp, rfl⟩
  case round =>
    obtain ⟨i, hi, rfl, hx, rfl⟩ := hrel
    by_cases hlt : (i : Int) < s.length
    · have i0 : (0 : Int) ≤ i := by omega
      have hil : i < s.length := by omega
      rcases k1 with k1 | ⟨g1, o1, rfl, k1⟩
      · omega
      have c1 := k1 i hil
      have hb := hcl s[i]
      have hat := fun e => findIdx_at hil hx e
      have hns : b s[i] = false → ∀ x ∈ s.take (i + 1), b x = false := fun e x hm => by
        rw [List.take_add_one, List.getElem?_eq_getElem hil] at hm
        rcases List.mem_append.1 hm with hm | hm
        · exact hx x hm
        · have e' : x = s[i] := by simpa using hm
          rw [e']; exact e
      clear k1 hcl
      generalize s[i] = y at *
      cases hbk : b y
      case false =>
        have hns := hns hbk
        rw [hbk] at hb
        clear hat
        go_wp2_with fail
        refine hb.mono ?_
        rintro e w1 ⟨rfl, rfl⟩
        go_wp2_with fail
        go_roundg (gk - 1)
        case rel => exact ⟨i + 1, by omega, by go_num, hns, rfl⟩
        case measure => omega
      case true =>
        have hat := hat hbk
        rw [hbk] at hb
        rw [HM.out] at hat
        subst hat
        clear hns
        go_wp2_with fail
        refine hb.mono ?_
        rintro e w1 ⟨rfl, rfl⟩
        go_wp2_with fail
        go_ret
        exact ⟨rfl, rfl⟩
    · obtain rfl : i = s.length := by omega
      have hf : s.findIdx b = s.length := by
        rw [List.findIdx_eq_length]
        intro x hm
        exact hx x (by rw [List.take_length]; exact hm)
      rw [HM.out] at hf
      subst hf
      go_wp2_with fail
      go_ret
      exact ⟨rfl, rfl⟩

set_option maxHeartbeats 400000 in
theorem rleft_any (B q : Nat) (s : List Int) (w : World) (hs : s.length ≤ 1000000) (hR : Rn 28 B q s w) :
    Calls Try.prog 20 #[.pointer (some ⟨q, 0, none⟩)] w fun e w' => (∃ v, e = .returned v ∧ w'.ownsRow w.heap.size 3 1 v s.length (s.map (Value.int .i64))) ∧ Below w.heap.size w w' := by
  obtain ⟨a, cap, hc, _, hd, _⟩ := hR.cell
  go_enter Try.func20, Try.ntmps20
  go_wp2_with fail
  refine (cloneI_any _ s _ hs hd).mono ?_
  rintro e w1 ⟨u, rfl, hown, hb⟩
  go_wp2_with fail
  go_ret
  exact ⟨⟨_, rfl, hown⟩, hb⟩
end Go.Proofs.Ytnhpkpodeojldaa
