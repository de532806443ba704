/-
  slices.IndexFunc, slices.DeleteFunc.
-/
import Derived.Test.YtnhpkpodeojldaaRwt
import Derived.Lib.SliceRun
namespace Go.Proofs.Ytnhpkpodeojldaa
open Go.RowKit

theorem below_setCells {B b : Nat} {a : World} (hB : B ≤ b) : ∀ (vs : List Value) (o : Nat) (w : World), Below B a w → Below B a (w.setCells b o vs)
  | [], _, _, h => h
  | v :: r, o, w, h => by
    rw [World.setCells]
    exact below_setCells hB r (o + 1) _ (h.setCell (p := ⟨b, o, none⟩) hB v)

set_option maxHeartbeats 400000 in
theorem indexf_any (g : Nat) (cap : Nat) (s : List Int) (F : FuncId) (caps : Array Value) (b : Int → Bool) (w : World) (hs : s.length ≤ 1000000) (hW : Wn .i64 g s w) (hF : ∀ args w', (callFunc F args).run Try.prog w' = .ok (.enter F args) w')
    (hcl : ∀ x, Calls Try.prog F (#[.int .i64 x] ++ caps) w fun e w'' => e = .returned (.bool (b x)) ∧ w'' = w) :
    Calls Try.prog 49 #[.slice (some ⟨g, 0, none⟩) s.length cap, .func (.func F) #[] caps] w fun e w' => ((∃ n : Nat, e = .returned (.int .i64 n) ∧ ∃ h : n < s.length, b s[n] = true ∧ ∀ x ∈ s.take n, b x = false) ∨ (e = .returned (.int .i64 (-1)) ∧ ∀ x ∈ s, b x = false)) ∧ w' = w := by
  go_enter Try.func49, Try.ntmps49
  go_wp2_with fail
  go_loopg [8] s.length (fun gk t8 wr => ∃ i : Nat, i + gk = s.length ∧ t8 = .int .i64 i ∧ (∀ x ∈ s.take i, b x = false) ∧ wr = w)
  case atStart => exact ⟨0, by omega, rfl, by simp, rfl⟩
  case round =>
    obtain ⟨i, hi, rfl, hx, rfl⟩ := hrel
    by_cases hlt : (i : Int) < s.length
    · have i0 : (0 : Int) ≤ i := by omega
      have hil : i < s.length := by omega
      have c1 := hW.cell i hil
      have hb := hcl s[i]
      have HX : Hid (∀ x ∈ s.take i, b x = false) := hx
      have hat : Hid (b s[i] = true → ∃ h : i < s.length, b s[i] = true ∧ ∀ x ∈ s.take i, b x = false) := fun e => ⟨hil, e, HX.out⟩
      have hns : b s[i] = false → ∀ x ∈ s.take (i + 1), b x = false := fun e x hm => by
        rw [List.take_add_one, List.getElem?_eq_getElem hil] at hm
        rcases List.mem_append.1 hm with hm | hm
        · exact hx x hm
        · have e' : x = s[i] := by simpa using hm
          rw [e']; exact e
      clear hcl
      obtain ⟨y, hy⟩ : ∃ y, y = s[i] := ⟨_, rfl⟩
      rw [← hy] at c1 hb hns
      have HY : Hid _ := hy
      clear hy
      cases hbk : b y
      case false =>
        have hns := hns hbk
        rw [hbk] at hb
        clear hat
        go_wp2_with fail
        refine hb.mono ?_
        rintro e w1 ⟨rfl, rfl⟩
        go_wp2_with fail
        go_roundg (gk - 1)
        case rel => exact ⟨i + 1, by omega, by go_num, hns, rfl⟩
        case measure => omega
      case true =>
        rw [hbk] at hb
        clear hns
        go_wp2_with fail
        refine hb.mono ?_
        rintro e w1 ⟨rfl, rfl⟩
        go_wp2_with fail
        go_ret
        exact ⟨Or.inl ⟨i, rfl, hat.out (by rw [← HY.out]; exact hbk)⟩, rfl⟩
    · obtain rfl : i = s.length := by omega
      rw [List.take_length] at hx
      have HX : Hid _ := hx
      clear hx
      go_wp2_with fail
      go_ret
      exact ⟨Or.inr ⟨rfl, HX.out⟩, rfl⟩

/-- The row r, of which i places are done, out of j. -/
structure Del (b : Int → Bool) (s r : List Int) (i j : Nat) : Prop where
  len : r.length = s.length
  lt : i < j
  le : j ≤ s.length
  done : r.take i = (s.take j).filter (fun x => !b x)
  rest : r.drop j = s.drop j
theorem Del.start {b : Int → Bool} {s : List Int} {n : Nat} (h : n < s.length) (hb : b s[n] = true) (hx : ∀ x ∈ s.take n, b x = false) : Del b s s n (n + 1) := by
  refine ⟨rfl, Nat.lt_succ_self _, h, ?_, rfl⟩
  rw [List.take_add_one, List.getElem?_eq_getElem h, List.filter_append, List.filter_eq_self.2 (fun x hm => by rw [hx x hm]; rfl)]
  simp [hb]
theorem Del.at {b : Int → Bool} {s r : List Int} {i j : Nat} (h : Del b s r i j) (hj : j < s.length) : r[j]'(by rw [h.len]; exact hj) = s[j] := by
  have := congrArg (fun l => l[0]?) h.rest
  simp only [List.getElem?_drop, Nat.add_zero] at this
  rw [List.getElem?_eq_getElem hj, List.getElem?_eq_getElem (by rw [h.len]; exact hj)] at this
  exact Option.some.inj this
theorem Del.skip {b : Int → Bool} {s r : List Int} {i j : Nat} (h : Del b s r i j) (hj : j < s.length) (hb : b s[j] = true) : Del b s r i (j + 1) := by
  refine ⟨h.len, by have := h.lt; omega, hj, ?_, ?_⟩
  · rw [h.done, List.take_add_one, List.getElem?_eq_getElem hj, List.filter_append]
    simp [hb]
  · have := congrArg (List.drop 1) h.rest
    simpa [List.drop_drop, Nat.add_comm] using this
theorem Del.put {b : Int → Bool} {s r : List Int} {i j : Nat} (h : Del b s r i j) (hj : j < s.length) (hb : b s[j] = false) : Del b s (r.set i s[j]) (i + 1) (j + 1) := by
  have h1 := h.lt
  have hl := h.len
  refine ⟨by rw [List.length_set]; exact hl, by omega, hj, ?_, ?_⟩
  · rw [List.take_add_one (l := s), List.getElem?_eq_getElem hj, List.filter_append, ← h.done, List.take_add_one, List.take_set_of_le (Nat.le_refl _)]
    rw [List.getElem?_eq_getElem (by rw [List.length_set]; omega)]
    simp [hb]
  · have := congrArg (List.drop 1) h.rest
    rw [List.drop_set_of_lt (by omega)]
    simpa [List.drop_drop, Nat.add_comm] using this

theorem Try.zeroI (w : World) : (zeroValue 3).run Try.prog w = .ok (.int .i64 0) w := by
  have h : Try.t3.zero = some (.int .i64 0) := by kernel_rfl
  simp [zeroValue, h]
/-- What is behind is cleared. -/
theorem clear_run (g i n c : Nat) (w : World) (r : List Int) (hW : Wn .i64 g r w) (hi : i < n) (hn : n ≤ r.length) : ∃ w', (∀ ty, (Builtin.clear_ #[26] ty #[.slice (some ⟨g, i, none⟩) (n - i) c]).run Try.prog w = .ok (.tuple #[]) w') ∧ (∀ j (hj : j < i), w'.cell? ⟨g, j, none⟩ = some (.int .i64 (r[j]'(by omega)))) ∧ ∀ B a, B ≤ g → Below B a w → Below B a w' := by
  refine ⟨_, fun ty => Lib.run_clear_slice (P := Try.prog) w 26 3 ty (.int .i64 0) Try.underlying26 Try.zeroI rfl rfl g i (n - i) c (by omega) (fun j hj => by rw [hW.cell (i + j) (by omega)]; rfl) (fun j hj => hW.free (i + j) (by omega)), fun j hj => ?_, fun B a hB hb => below_setCells hB _ _ _ hb⟩
  rw [World.cell?_setCells_out _ _ _ _ _ (fun _ _ => Or.inl hj)]
  exact hW.cell j (by omega)
theorem cut_rest (g N i cap : Nat) (hi : i < N) (hN : N ≤ cap) : ∀ w', (Instr.slice 26 (.slice (some ⟨g, 0, none⟩) N cap) (some (.int .i64 (i : Int))) none none).run Try.prog w' = .ok (.slice (some ⟨g, i, none⟩) (N - i) (cap - i)) w' := fun w' => by
  rw [run_slice_l (P := Try.prog) (w := w') 26 (some ⟨g, 0, none⟩) N cap Try.elemInt .i64 (i : Int) (by omega) (by omega), Try.sizeInt]
  show Result.ok (sliced _ _ _ _ _) _ = _
  rw [sliced, if_neg (by omega)]
  simp [Addr.add]
  omega

set_option maxRecDepth 100000 in
set_option maxHeartbeats 1000000 in
theorem delete_any (g : Nat) (cap : Nat) (s : List Int) (F : FuncId) (caps : Array Value) (b : Int → Bool) (w : World) (hs : s.length ≤ 1000000) (hcap : s.length ≤ cap) (hcm : cap ≤ maxLen) (hW : Wn .i64 g s w) (hF : ∀ args w', (callFunc F args).run Try.prog w' = .ok (.enter F args) w')
    (hcl : ∀ x w', Below g w w' → Calls Try.prog F (#[.int .i64 x] ++ caps) w' fun e w'' => e = .returned (.bool (b x)) ∧ w'' = w') :
    Calls Try.prog 38 #[.slice (some ⟨g, 0, none⟩) s.length cap, .func (.func F) #[] caps] w fun e w' => (∃ a c, e = .returned (.slice a (s.filter (fun x => !b x)).length c) ∧ Rd .i64 (.slice a (s.filter (fun x => !b x)).length c) (s.filter (fun x => !b x)) w' ∧ a = some ⟨g, 0, none⟩) ∧ Below g w w' := by
  have hI := indexf_any g cap s F caps b w hs hW hF (fun x => hcl x w (Below.refl _ _))
  obtain ⟨t, HT⟩ : ∃ t, Hid (s.filter (fun x => !b x) = t) := ⟨_, rfl⟩
  rw [HT.out]
  go_enter Try.func38, Try.ntmps38
  go_wp2_with fail
  refine hI.mono ?_
  rintro e w1 ⟨(⟨n, rfl, hn, hb, hx⟩ | ⟨rfl, hx⟩), hw1⟩
  · subst hw1
    have HD : Hid (Del b s s n (n + 1)) := Del.start hn hb hx
    have hn1 : ((n : Int) == -1) = false := by rw [beq_eq_false_iff_ne]; omega
    clear hb hx hI
    go_wp2_with fail
    go_loopg [5, 6] s.length (fun gk t5 t6 wr => ∃ (i j : Nat) (r : List Int), s.length ≤ j + gk ∧ t5 = .int .i64 i ∧ t6 = .int .i64 j ∧ Hid (Del b s r i j) ∧ Wn .i64 g r wr ∧ Below g w1 wr)
    case atStart => exact ⟨n, n + 1, s, by omega, rfl, by go_num, HD, hW, Below.refl _ _⟩
    case round =>
      obtain ⟨i, j, r, hg, rfl, rfl, HD, hWr, hB⟩ := hrel
      have hlen := HD.out.len
      have hij := HD.out.lt
      have hjl := HD.out.le
      by_cases hlt : (j : Int) < s.length
      · have hj : j < s.length := by omega
        have j0 : (0 : Int) ≤ j := by omega
        have i0 : (0 : Int) ≤ i := by omega
        have i1 : (i : Int) < s.length := by omega
        have c1 := hWr.cell j (by omega)
        have c2 := hWr.cell i (by omega)
        have f2 := hWr.free i (by omega)
        rw [HD.out.at hj] at c1
        have hsk : b s[j] = true → Hid (Del b s r i (j + 1)) := fun e => HD.out.skip hj e
        have hpt : b s[j] = false → Hid (Del b s (r.set i s[j]) (i + 1) (j + 1)) := fun e => HD.out.put hj e
        have hW2 := hWr.set i (by omega) s[j]
        have hb := hcl s[j] wr hB
        clear hcl hW HD
        generalize s[j] = y at *
        generalize r[i]'(by omega) = z at c2
        cases hbk : b y
        case true =>
          have hsk := hsk hbk
          rw [hbk] at hb
          clear hpt hW2
          go_wp2_with fail
          refine hb.mono ?_
          rintro e w2 ⟨rfl, hw2⟩
          subst hw2
          go_wp2_with fail
          go_roundg (gk - 1)
          case rel => exact ⟨i, j + 1, r, by omega, rfl, by go_num, hsk, hWr, hB⟩
          case measure => omega
        case false =>
          have hpt := hpt hbk
          rw [hbk] at hb
          clear hsk
          go_wp2_with fail
          refine hb.mono ?_
          rintro e w2 ⟨rfl, hw2⟩
          subst hw2
          go_wp2_with fail
          go_roundg (gk - 1)
          case rel => exact ⟨i + 1, j + 1, r.set i y, by omega, by go_num, by go_num, hpt, hW2, hB.setCell (p := ⟨g, i, none⟩) (Nat.le_refl _) _⟩
          case measure => omega
      · obtain rfl : j = s.length := by omega
        have hd := HD.out.done
        rw [List.take_length, HT.out] at hd
        have hti : t.length = i := by rw [← hd, List.length_take]; omega
        have hcut := cut_rest g s.length i cap hij hcap
        obtain ⟨w5, hclear, hcell, hbel⟩ := clear_run g i s.length (cap - i) wr r hWr hij (by omega)
        have hB5 := hbel g w1 (Nat.le_refl _) hB
        have hic : (i : Int) ≤ cap := by omega
        have HC : Hid _ := hcell
        have HD' : Hid _ := hd
        clear hbel hcell hd hW hcl HD
        go_wp2_with fail
        go_ret
        refine ⟨⟨some ⟨g, 0, none⟩, cap, rfl, ⟨_, cap, by rw [hti], by omega, hcm, (fun e => by cases e), Or.inr ⟨g, 0, rfl, fun j hj => ?_⟩⟩, rfl⟩, hB5⟩
        have hr := HC.out j (by omega)
        rw [Nat.zero_add, hr]
        congr 2
        have := congrArg (fun l => l[j]?) HD'.out
        rw [List.getElem?_eq_getElem hj, List.getElem?_take, if_pos (by omega), List.getElem?_eq_getElem (by omega)] at this
        exact Option.some.inj this
  · subst hw1
    have ht : s = t := by rw [← HT.out]; exact (List.filter_eq_self.2 (fun x hm => by rw [hx x hm]; rfl)).symm
    clear hx hI
    subst ht
    go_wp2_with fail
    go_ret
    exact ⟨⟨_, cap, rfl, hW.rd hcap hcm, rfl⟩, Below.refl _ _⟩
end Go.Proofs.Ytnhpkpodeojldaa
