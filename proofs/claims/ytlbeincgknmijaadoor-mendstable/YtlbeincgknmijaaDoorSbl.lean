/-
  MendStable, walked.
-/
import Derived.Test.YtlbeincgknmijaaDoorSbw
import Derived.BigRegion
namespace Go.Proofs.YtlbeincgknmijaaDoor
open Go.RowKit Go.Maps

set_option maxRecDepth 100000 in
set_option maxHeartbeats 4000000 in
theorem stable_core (va vb : Value) (b : Nat) (hb : b < Ro.Bnd.lim) (l t : List Int) (w : World) (hA : Rn va l w) (hBa : Bytes l) (hR : Rh vb t w) (hBt : Halves t) (hT : Ro.Bnd.Tab w) :
    Calls Tryd.prog 3 #[.int .u64 b, va, vb] w fun e w' => e = .returned (.bool true) ∧ Below w.heap.size w w' := by
  obtain ⟨aa, capa, rfl, ha3⟩ := id hA
  obtain ⟨ab, capb, rfl, hb3⟩ := id hR
  by_cases hla : 100 < l.length
  · have z1 : decide ((100 : Int) < (l.length : Int)) = true := decide_eq_true (by omega)
    have z1N : decide (100 < l.length) = true := decide_eq_true hla
    clear hT
    go_enter Tryd.func3, Tryd.ntmps3
    go_wp2_with fail
    refine (shown_any _).mono ?_
    rintro e w1 ⟨rfl, hb⟩
    go_wp2_with fail
    go_ret
    exact ⟨rfl, hb⟩
  have z1 : decide ((100 : Int) < (l.length : Int)) = false := decide_eq_false (by omega)
  have z1N : decide (100 < l.length) = false := decide_eq_false hla
  by_cases hlb : 100 < t.length
  · have z2 : decide ((100 : Int) < (t.length : Int)) = true := decide_eq_true (by omega)
    have z2N : decide (100 < t.length) = true := decide_eq_true hlb
    clear hT
    go_enter Tryd.func3, Tryd.ntmps3
    go_wp2_with fail
    refine (shown_any _).mono ?_
    rintro e w1 ⟨rfl, hb⟩
    go_wp2_with fail
    go_ret
    exact ⟨rfl, hb⟩
  have z2 : decide ((100 : Int) < (t.length : Int)) = false := decide_eq_false (by omega)
  have z2N : decide (100 < t.length) = false := decide_eq_false hlb
  have hll : (l.length : Int) ≤ 100 := by omega
  have htl : (t.length : Int) ≤ 100 := by omega
  have h1s := hT.lt
  have hT : Hid (Ro.Bnd.Tab w) := hT
  go_enter Tryd.func3, Tryd.ntmps3
  go_wp2_with fail
  refine (shown_any _).mono ?_
  rintro e w1 ⟨rfl, hb1⟩
  have b2 := below_alloc w1 (.map #[] 0)
  have hM := Mo.made w1
  have hB2 := hb1.trans (b2.mono hb1.size)
  have hs1 := hb1.size
  have hmm := @run_makeMap Tryd.prog 26 w1
  clear b2 hb1
  go_wp2_with fail
  clear hmm
  go_loopg [8] l.length (fun gk t8 wr => ∃ i : Nat, i + gk = l.length ∧ i ≤ t.length ∧ t8 = .int .i64 i ∧ (∃ (f : Int → Option Int) (n : Nat), n ≤ i ∧ Half f ∧ Mo w1.heap.size f n wr) ∧ Below w.heap.size w wr)
  case atStart => exact ⟨0, by omega, by omega, rfl, ⟨_, 0, Nat.le_refl _, Half.none, hM⟩, hB2⟩
  case round =>
    obtain ⟨i, hi, hit, rfl, ⟨f, n, hn, hF, hMo⟩, hB⟩ := hrel
    clear hM hB2
    have i0 : (0 : Int) ≤ i := by omega
    by_cases hlt : (i : Int) < l.length ∧ (i : Int) < t.length
    · obtain ⟨hlt, hlt2⟩ := hlt
      have hil : i < l.length := by omega
      have hil2 : i < t.length := by omega
      rcases ha3 with ha3 | ⟨ga, offa, rfl, ha3⟩
      · omega
      rcases hb3 with hb3 | ⟨gb, offb, rfl, hb3⟩
      · omega
      clear ha3 hb3
      have c1 := (hA.below hB).at hil
      have c2 := (hR.below hB).at hil2
      have hx := hBa _ (List.getElem_mem hil)
      have hy := hBt _ (List.getElem_mem hil2)
      generalize l[i] = x at *
      generalize t[i] = y at *
      have ht0 : 0 ≤ x % 64 := by omega
      have ht1 : x % 64 < 64 := by omega
      have hwx : IntKind.i64.wrap x = x := by rw [IntKind.wrap_i64]; omega
      have hwy : IntKind.u64.wrap y = y := by rw [IntKind.wrap_u64]; omega
      obtain ⟨w6, hput, hM6, hg6⟩ := (hMo.keep (w' := wr.drew) rfl).put ht0 ht1 hy (by omega)
      have hm1 : w.heap.size ≤ w1.heap.size := hs1
      have hB6 : Below w.heap.size w w6 := (hB.trans ⟨rfl, rfl, rfl, Nat.le_refl _, fun _ _ => rfl⟩ : Below w.heap.size w wr.drew).trans ⟨hg6.os, hg6.tape, hg6.output, hg6.size, fun r hr => hg6.block r (by have := hB.size; show r < wr.heap.size; omega) (by simp; omega)⟩
      have hF' := hF.set (x := x % 64) hy
      clear hA hR hBa hBt hg6
      go_wp2_with fail
      go_region
      all_goals
        go_wp2_with fail
        go_roundg (gk - 1)
        case rel => exact ⟨i + 1, by omega, by omega, by go_num, ⟨_, _, by split <;> omega, hF', hM6⟩, hB6⟩
        case measure => omega
    · have hM := hMo
      clear ha3 hb3 hA hR hBa hBt
      have alt : ((i : Int) < l.length ∧ (t.length : Int) ≤ i) ∨ (l.length : Int) ≤ i := by omega
      have hTr : Ro.Bnd.Tab wr := hT.out.below h1s hB
      have hS := stable_any b hb w1.heap.size n f hF wr hTr hM
      clear hTr hMo
      have hm1 : w.heap.size ≤ w1.heap.size := hs1
      clear hlt i0 hi hit
      rcases alt with ⟨zz1, zz2⟩ | zz1
      · go_wp2_with fail
        refine hS.mono ?_
        rintro e w3 ⟨rfl, hb3⟩
        have hB3 := hB.trans (hb3.mono hB.size)
        have hM3 := hM.below hb3
        clear hS hM hB
        go_wp2_with fail
        refine (Ro.Bnd.rlist_any b hb w3).mono ?_
        rintro e w4 ⟨v4, rfl, hR4, hb4⟩
        have hB4 := hB3.trans (hb4.mono hB3.size)
        have hM4 := hM3.below hb4
        have hRS := fun W (hMW : Mo w1.heap.size f n W) => rstable_any b hb w1.heap.size n f hF W hMW
        obtain ⟨a4, cap4, rfl, k4⟩ := id hR4
        have hnd : ∀ x ∈ Ro.Bnd.lst b, 0 ≤ x ∧ x < 64 := fun x hx => Ro.Bnd.lst_range hx
        have hlen : (Ro.Bnd.lst b).length ≤ 64 := by rw [Ro.Bnd.lst_length]; exact Ro.Bnd.many_le b
        clear hM3 hB3
        generalize Ro.Bnd.lst b = L at *
        by_cases hL : L = []
        · subst hL
          rw [show lowS f [] = 0 from rfl] at *
          clear hR4 k4 hF hT
          go_wp2_with fail
          go_loopg [11, 12] 0 (fun gk t11 t12 wr => gk = 0 ∧ t11 = .bool true ∧ t12 = .int .i64 0 ∧ Mo w1.heap.size f n wr ∧ Below w.heap.size w wr)
          case atStart => exact ⟨rfl, rfl, rfl, hM4, hB4⟩
          case round =>
            clear hM4 hB4
            obtain ⟨rfl, rfl, rfl, hM, hB⟩ := hrel
            have hS := hRS _ hM
            clear hRS
            go_wp2_with fail
            refine hS.mono ?_
            rintro e w5 ⟨rfl, hb5⟩
            go_wp2_with fail
            go_ret
            exact ⟨rfl, hB.trans (hb5.mono hB.size)⟩
        · have hl0 : ((L.length : Int) == 0) = false := by
            cases L with
            | nil => exact absurd rfl hL
            | cons a L => simp; omega
          have hj := justS_low hF hL
          have hle := fun (x : Int) (hx : x ∈ L) => lowS_le (f := f) hx
          have hms := fun (x : Int) (hx : x ∈ L) (hm : f x = none) => lowS_miss hF hx hm
          have hnr := lowS_range hF L
          generalize lowS f L = N at *
          clear hL hT
          go_wp2_with fail
          clear hl0
          go_loopg [11, 12] L.length (fun gk t11 t12 wr => ∃ i : Nat, i + gk = L.length ∧ t12 = .int .i64 i ∧ t11 = .bool (justS f N (L.take i)) ∧ Mo w1.heap.size f n wr ∧ Below w4.heap.size w4 wr ∧ Below w.heap.size w wr)
          case atStart => exact ⟨0, by omega, rfl, rfl, hM4, Below.refl _ _, hB4⟩
          case round =>
            clear hM4 hB4
            obtain ⟨j, hjl, rfl, rfl, hM, hBr, hB⟩ := hrel
            have j0 : (0 : Int) ≤ j := by omega
            by_cases hlt : (j : Int) < L.length
            · have hil : j < L.length := by omega
              rcases k4 with k4 | ⟨g, off, rfl, k4⟩
              · omega
              clear k4
              have c1 := Rd.get (hR4.below hBr) hil
              have hmem := List.getElem_mem hil
              obtain ⟨x0, x1⟩ := hnd _ hmem
              have hle := hle _ hmem
              have hms := hms _ hmem
              have hget := hM.look x0 x1
              have hst : Hid (justS f N (L.take (j + 1)) = (justS f N (L.take j) || decide (gotS f L[j] = N))) := by
                show justS f N (L.take (j + 1)) = _
                rw [List.take_add_one, List.getElem?_eq_getElem hil]; exact justS_snoc _ _ _ _
              have gr := gotS_range hF L[j]
              clear hmem hj hR4 hRS hF hnd
              generalize L[j] = x at *
              generalize justS f N (L.take j) = J at *
              unfold gotS at hle hst gr
              cases hf : f x with
              | none =>
                have hN := hms hf
                subst hN
                clear hms
                rw [hf] at hget hst
                rw [show (none : Option Int).getD 0 = 0 from rfl, show (none : Option Int).isSome = false from rfl] at hget
                cases J
                · go_wp2_with fail
                  go_roundg (gk - 1)
                  case rel => exact ⟨j + 1, by omega, by go_num, by rw [hst.out]; rfl, hM, hBr, hB⟩
                  case measure => omega
                · go_wp2_with fail
                  go_roundg (gk - 1)
                  case rel => exact ⟨j + 1, by omega, by go_num, by rw [hst.out]; rfl, hM, hBr, hB⟩
                  case measure => omega
              | some y =>
                clear hms
                rw [hf] at hget hst hle gr
                rw [show (some y : Option Int).getD 0 = y from rfl] at hget hst hle gr
                rw [show (some y : Option Int).isSome = true from rfl] at hget
                have hd : decide (y < N) = false := decide_eq_false (by omega)
                by_cases hy : y = N
                · subst hy
                  cases J
                  · go_wp2_with fail
                    go_roundg (gk - 1)
                    case rel => exact ⟨j + 1, by omega, by go_num, by rw [hst.out]; simp, hM, hBr, hB⟩
                    case measure => omega
                  · go_wp2_with fail
                    go_roundg (gk - 1)
                    case rel => exact ⟨j + 1, by omega, by go_num, by rw [hst.out]; simp, hM, hBr, hB⟩
                    case measure => omega
                · have hne : (y == N) = false := by simpa using hy
                  have hyd : Hid (decide (y = N) = false) := decide_eq_false hy
                  cases J
                  · go_wp2_with fail
                    go_roundg (gk - 1)
                    case rel => exact ⟨j + 1, by omega, by go_num, by rw [hst.out, hyd.out]; rfl, hM, hBr, hB⟩
                    case measure => omega
                  · go_wp2_with fail
                    go_roundg (gk - 1)
                    case rel => exact ⟨j + 1, by omega, by go_num, by rw [hst.out]; rfl, hM, hBr, hB⟩
                    case measure => omega
            · have e : L.take j = L := List.take_of_length_le (by omega)
              rw [e, hj]
              have hS := hRS _ hM
              clear hRS hj hle hms hnd hR4 k4 hF e
              go_wp2_with fail
              refine hS.mono ?_
              rintro e w5 ⟨rfl, hb5⟩
              go_wp2_with fail
              go_ret
              exact ⟨by simp, hB.trans (hb5.mono hB.size)⟩
      · go_wp2_with fail
        refine hS.mono ?_
        rintro e w3 ⟨rfl, hb3⟩
        have hB3 := hB.trans (hb3.mono hB.size)
        have hM3 := hM.below hb3
        clear hS hM hB
        go_wp2_with fail
        refine (Ro.Bnd.rlist_any b hb w3).mono ?_
        rintro e w4 ⟨v4, rfl, hR4, hb4⟩
        have hB4 := hB3.trans (hb4.mono hB3.size)
        have hM4 := hM3.below hb4
        have hRS := fun W (hMW : Mo w1.heap.size f n W) => rstable_any b hb w1.heap.size n f hF W hMW
        obtain ⟨a4, cap4, rfl, k4⟩ := id hR4
        have hnd : ∀ x ∈ Ro.Bnd.lst b, 0 ≤ x ∧ x < 64 := fun x hx => Ro.Bnd.lst_range hx
        have hlen : (Ro.Bnd.lst b).length ≤ 64 := by rw [Ro.Bnd.lst_length]; exact Ro.Bnd.many_le b
        clear hM3 hB3
        generalize Ro.Bnd.lst b = L at *
        by_cases hL : L = []
        · subst hL
          rw [show lowS f [] = 0 from rfl] at *
          clear hR4 k4 hF hT
          go_wp2_with fail
          go_loopg [11, 12] 0 (fun gk t11 t12 wr => gk = 0 ∧ t11 = .bool true ∧ t12 = .int .i64 0 ∧ Mo w1.heap.size f n wr ∧ Below w.heap.size w wr)
          case atStart => exact ⟨rfl, rfl, rfl, hM4, hB4⟩
          case round =>
            clear hM4 hB4
            obtain ⟨rfl, rfl, rfl, hM, hB⟩ := hrel
            have hS := hRS _ hM
            clear hRS
            go_wp2_with fail
            refine hS.mono ?_
            rintro e w5 ⟨rfl, hb5⟩
            go_wp2_with fail
            go_ret
            exact ⟨rfl, hB.trans (hb5.mono hB.size)⟩
        · have hl0 : ((L.length : Int) == 0) = false := by
            cases L with
            | nil => exact absurd rfl hL
            | cons a L => simp; omega
          have hj := justS_low hF hL
          have hle := fun (x : Int) (hx : x ∈ L) => lowS_le (f := f) hx
          have hms := fun (x : Int) (hx : x ∈ L) (hm : f x = none) => lowS_miss hF hx hm
          have hnr := lowS_range hF L
          generalize lowS f L = N at *
          clear hL hT
          go_wp2_with fail
          clear hl0
          go_loopg [11, 12] L.length (fun gk t11 t12 wr => ∃ i : Nat, i + gk = L.length ∧ t12 = .int .i64 i ∧ t11 = .bool (justS f N (L.take i)) ∧ Mo w1.heap.size f n wr ∧ Below w4.heap.size w4 wr ∧ Below w.heap.size w wr)
          case atStart => exact ⟨0, by omega, rfl, rfl, hM4, Below.refl _ _, hB4⟩
          case round =>
            clear hM4 hB4
            obtain ⟨j, hjl, rfl, rfl, hM, hBr, hB⟩ := hrel
            have j0 : (0 : Int) ≤ j := by omega
            by_cases hlt : (j : Int) < L.length
            · have hil : j < L.length := by omega
              rcases k4 with k4 | ⟨g, off, rfl, k4⟩
              · omega
              clear k4
              have c1 := Rd.get (hR4.below hBr) hil
              have hmem := List.getElem_mem hil
              obtain ⟨x0, x1⟩ := hnd _ hmem
              have hle := hle _ hmem
              have hms := hms _ hmem
              have hget := hM.look x0 x1
              have hst : Hid (justS f N (L.take (j + 1)) = (justS f N (L.take j) || decide (gotS f L[j] = N))) := by
                show justS f N (L.take (j + 1)) = _
                rw [List.take_add_one, List.getElem?_eq_getElem hil]; exact justS_snoc _ _ _ _
              have gr := gotS_range hF L[j]
              clear hmem hj hR4 hRS hF hnd
              generalize L[j] = x at *
              generalize justS f N (L.take j) = J at *
              unfold gotS at hle hst gr
              cases hf : f x with
              | none =>
                have hN := hms hf
                subst hN
                clear hms
                rw [hf] at hget hst
                rw [show (none : Option Int).getD 0 = 0 from rfl, show (none : Option Int).isSome = false from rfl] at hget
                cases J
                · go_wp2_with fail
                  go_roundg (gk - 1)
                  case rel => exact ⟨j + 1, by omega, by go_num, by rw [hst.out]; rfl, hM, hBr, hB⟩
                  case measure => omega
                · go_wp2_with fail
                  go_roundg (gk - 1)
                  case rel => exact ⟨j + 1, by omega, by go_num, by rw [hst.out]; rfl, hM, hBr, hB⟩
                  case measure => omega
              | some y =>
                clear hms
                rw [hf] at hget hst hle gr
                rw [show (some y : Option Int).getD 0 = y from rfl] at hget hst hle gr
                rw [show (some y : Option Int).isSome = true from rfl] at hget
                have hd : decide (y < N) = false := decide_eq_false (by omega)
                by_cases hy : y = N
                · subst hy
                  cases J
                  · go_wp2_with fail
                    go_roundg (gk - 1)
                    case rel => exact ⟨j + 1, by omega, by go_num, by rw [hst.out]; simp, hM, hBr, hB⟩
                    case measure => omega
                  · go_wp2_with fail
                    go_roundg (gk - 1)
                    case rel => exact ⟨j + 1, by omega, by go_num, by rw [hst.out]; simp, hM, hBr, hB⟩
                    case measure => omega
                · have hne : (y == N) = false := by simpa using hy
                  have hyd : Hid (decide (y = N) = false) := decide_eq_false hy
                  cases J
                  · go_wp2_with fail
                    go_roundg (gk - 1)
                    case rel => exact ⟨j + 1, by omega, by go_num, by rw [hst.out, hyd.out]; rfl, hM, hBr, hB⟩
                    case measure => omega
                  · go_wp2_with fail
                    go_roundg (gk - 1)
                    case rel => exact ⟨j + 1, by omega, by go_num, by rw [hst.out]; rfl, hM, hBr, hB⟩
                    case measure => omega
            · have e : L.take j = L := List.take_of_length_le (by omega)
              rw [e, hj]
              have hS := hRS _ hM
              clear hRS hj hle hms hnd hR4 k4 hF e
              go_wp2_with fail
              refine hS.mono ?_
              rintro e w5 ⟨rfl, hb5⟩
              go_wp2_with fail
              go_ret
              exact ⟨by simp, hB.trans (hb5.mono hB.size)⟩

theorem stable_walk (b : Int) (a : Option Addr) (len cap : Nat) (l : List Int) (a' : Option Addr) (len' cap' : Nat) (t : List Int) (hb : (Lit.int .u64 b).wf = true) (w : World) (h1 : IsBytes w a len cap l) (h2 : IsHalves w a' len' cap' t) (hT : Ro.Bnd.Tab w) :
    Calls Tryd.prog 3 #[.int .u64 b, .slice a len cap, .slice a' len' cap'] w fun e w' => e = .returned (.bool true) ∧ Below w.heap.size w w' := by
  obtain ⟨h0, h9⟩ := u64_of hb
  obtain ⟨n, rfl⟩ := Int.eq_ofNat_of_zero_le h0
  exact stable_core _ _ n (by unfold Ro.Bnd.lim; omega) l t w h1.2.1 h1.2.2 h2.2.1 h2.2.2 hT
end Go.Proofs.YtlbeincgknmijaaDoor
