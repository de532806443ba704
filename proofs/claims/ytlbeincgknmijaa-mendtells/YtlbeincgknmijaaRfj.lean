/-
  The reference's shelf: Get, Have, Reach, Trim.
-/
import Derived.Test.YtlbeincgknmijaaRfi
import Derived.Test.YtlbeincgknmijaaDsa
import Derived.Test.YtlbeincgknmijaaDmn
namespace Go.Proofs.Ytlbeincgknmijaa
open Go.RowKit

/-- A shorter form of find. -/
theorem find_at (B q : Nat) (und : Int) (L : List Pl) (n : Int) (hL : L.length ≤ 1000) (w : World) (hR : Rf B q und L w) :
    Calls Try.prog 42 #[.pointer (some ⟨q, 0, none⟩), .int .u64 n] w fun e w' => ((∃ k : Nat, ∃ h : k < L.length, e = .returned (.int .i64 k) ∧ L[k].n = n ∧ hasL L n = true) ∨ (e = .returned (.int .i64 (-1)) ∧ hasL L n = false)) ∧ w' = w := by
  refine (find_any B q und L n hL w hR).mono ?_
  rintro e w' ⟨⟨k, hk, rfl, he⟩ | ⟨rfl, he⟩, rfl⟩
  · exact ⟨Or.inl ⟨k, hk, rfl, he, hasL_iff.2 ⟨_, List.getElem_mem hk, he⟩⟩, rfl⟩
  · exact ⟨Or.inr ⟨rfl, he⟩, rfl⟩

set_option maxRecDepth 100000 in
set_option maxHeartbeats 4000000 in
theorem fget_any (B q : Nat) (und : Int) (L : List Pl) (n : Int) (hL : L.length ≤ 1000) (w : World) (hR : Rf B q und L w) :
    Calls Try.prog 23 #[.pointer (some ⟨q, 0, none⟩), .int .u64 n] w fun e w' =>
      (∃ g : Ms, e = .returned (.tuple #[.agg #[.int .i64 g.s, .int .u64 g.m, .string g.x], .int .i64 (getE und (hasL L n) n)]) ∧ (getE und (hasL L n) n ≠ 0 → g = zM) ∧ (getE und (hasL L n) n = 0 → ∃ x ∈ L, x.n = n ∧ x.g = g)) ∧ Below w.heap.size w w' := by
  have hM : Bm w.heap.size zM (w.alloc (.cells #[.int .i64 0, .int .u64 0, .string ⟨#[]⟩] 28)) := Bm.new zM w
  have b1 := below_alloc w (.cells #[.int .i64 0, .int .u64 0, .string ⟨#[]⟩] 28)
  have hR1 := hR.below b1
  obtain ⟨a, cap, c0, c1, hfz, hcap, hcm, hsh, hO, hcell⟩ := hR1.cells
  have y0 := hM.free 0
  have y1 := hM.free 1
  have y2 := hM.free 2
  have hh := find_at B q und L n hL _ hR1
  have hlen : (L.length : Int) ≤ 1000 := by omega
  by_cases h1 : n ≠ 0 ∧ n ≤ und
  · have e : getE und (hasL L n) n = 70 := by unfold getE; rw [if_pos h1]
    rw [e]
    have z1 : (n == 0) = false := by simp; omega
    have z1' : (n != 0) = true := by simp; omega
    have z2 : decide (n ≤ und) = true := decide_eq_true h1.2
    clear e h1 hh hcell hO hsh
    go_enter Try.func23, Try.ntmps23
    go_wp2_with fail
    refine bodyPost_ret (v := .tuple #[.agg #[.int .i64 0, .int .u64 0, .string ⟨#[]⟩], .int .i64 70]) ?_ rfl ⟨⟨zM, rfl, fun _ => rfl, fun h => by cases h⟩, b1⟩
    rw [results_cell_tmp rfl]
    go_simp
  · have hz : (n == 0) = true ∧ (n != 0) = false ∨ (n == 0) = false ∧ (n != 0) = true ∧ decide (n ≤ und) = false := by
      by_cases q : n = 0
      · exact Or.inl ⟨by simp [q], by simp [q]⟩
      · exact Or.inr ⟨by simp [q], by simp [q], decide_eq_false (fun h => h1 ⟨q, h⟩)⟩
    cases h3 : hasL L n
    case false =>
      rw [h3] at hh
      have e : getE und false n = 3 := by unfold getE; rw [if_neg h1]; rfl
      rw [e]
      clear e h1 h3 hcell hO hsh
      have hf : Calls Try.prog 42 #[.pointer (some ⟨q, 0, none⟩), .int .u64 n] (w.alloc (.cells #[.int .i64 0, .int .u64 0, .string ⟨#[]⟩] 28)) fun e w' => e = .returned (.int .i64 (-1)) ∧ w' = w.alloc (.cells #[.int .i64 0, .int .u64 0, .string ⟨#[]⟩] 28) := by
        refine hh.mono ?_
        rintro e w' ⟨⟨k, hk, _, _, h⟩ | ⟨rfl, _⟩, rfl⟩
        · cases h
        · exact ⟨rfl, rfl⟩
      clear hh
      rcases hz with ⟨z1, z1'⟩ | ⟨z1, z1', z2⟩
      all_goals
        go_enter Try.func23, Try.ntmps23
        go_wp2_with fail
        refine hf.mono ?_
        rintro e w1 ⟨rfl, rfl⟩
        go_wp2_with fail
        refine bodyPost_ret (v := .tuple #[.agg #[.int .i64 0, .int .u64 0, .string ⟨#[]⟩], .int .i64 3]) ?_ rfl ⟨⟨zM, rfl, fun _ => rfl, fun h => by cases h⟩, b1⟩
        rw [results_cell_tmp rfl]
        go_simp
    case true =>
      rw [h3] at hh
      have e : getE und true n = 0 := by unfold getE; rw [if_neg h1]; rfl
      rw [e]
      clear e h1 h3 hO
      have hf : Calls Try.prog 42 #[.pointer (some ⟨q, 0, none⟩), .int .u64 n] (w.alloc (.cells #[.int .i64 0, .int .u64 0, .string ⟨#[]⟩] 28)) fun e w' => (∃ k : Nat, ∃ h : k < L.length, e = .returned (.int .i64 k) ∧ L[k].n = n) ∧ w' = w.alloc (.cells #[.int .i64 0, .int .u64 0, .string ⟨#[]⟩] 28) := by
        refine hh.mono ?_
        rintro e w' ⟨⟨k, hk, rfl, h, _⟩ | ⟨_, h⟩, rfl⟩
        · exact ⟨⟨k, hk, rfl, h⟩, rfl⟩
        · cases h
      clear hh
      rcases hz with ⟨z1, z1'⟩ | ⟨z1, z1', z2⟩
      all_goals
        go_enter Try.func23, Try.ntmps23
        go_wp2_with fail
        refine hf.mono ?_
        rintro e w1 ⟨⟨k, hk, rfl, hkn⟩, rfl⟩
        obtain ⟨gb, rfl, d0, d1, d2, d3⟩ := hcell k hk
        have k0 : (0 : Int) ≤ k := by omega
        have k1 : (k : Int) < L.length := by omega
        have hex : Hid (∃ x ∈ L, x.n = n ∧ x.g = L[k].g) := ⟨_, List.getElem_mem hk, hkn, rfl⟩
        clear hcell hkn d0 hsh
        generalize L[k].g = g at *
        go_wp2_with fail
        refine bodyPost_ret (v := .tuple #[.agg #[.int .i64 g.s, .int .u64 g.m, .string g.x], .int .i64 0]) ?_ rfl ⟨⟨g, rfl, fun h => absurd rfl h, fun _ => hex.out⟩, ?_⟩
        · rw [results_cell_tmp rfl]
          go_simp
        · exact below_alloc w _

def haveL0 (und : Int) : List Sn := if 0 < und then [⟨1, und⟩] else []
def haveL (und : Int) (L : List Pl) : List Sn := L.foldl (fun o x => (addS o x.n).1) (haveL0 und)
theorem haveL_take {und : Int} {L : List Pl} {k : Nat} (h : k < L.length) : haveL und (L.take (k + 1)) = (addS (haveL und (L.take k)) L[k].n).1 := by
  unfold haveL
  rw [List.take_add_one, List.getElem?_eq_getElem h, Option.toList_some, List.foldl_append]; rfl
/-- The items' numbers are numbers of spans. -/
def Nm (L : List Pl) : Prop := ∀ x ∈ L, 0 ≤ x.n ∧ x.n < 18446744073709551615
theorem haveL_ok {und : Int} {L : List Pl} (u0 : 0 ≤ und) (u1 : und ≤ 1000000) (hN : Nm L) : Up 0 (haveL und L) ∧ (haveL und L).length ≤ L.length + 1 ∧ ∀ m, hasS (haveL und L) m = (decide (1 ≤ m ∧ m ≤ und) || hasL L m) := by
  have key : ∀ k, k ≤ L.length → Up 0 (haveL und (L.take k)) ∧ (haveL und (L.take k)).length ≤ k + 1 ∧ ∀ m, hasS (haveL und (L.take k)) m = (decide (1 ≤ m ∧ m ≤ und) || hasL (L.take k) m) := by
    intro k
    induction k with
    | zero =>
      intro _
      rw [List.take_zero]
      show Up 0 (haveL0 und) ∧ (haveL0 und).length ≤ 0 + 1 ∧ ∀ m, hasS (haveL0 und) m = (decide (1 ≤ m ∧ m ≤ und) || false)
      unfold haveL0
      by_cases h : 0 < und
      · rw [if_pos h]
        refine ⟨⟨by show (0 : Int) ≤ 1; omega, by show (1 : Int) ≤ und; omega, by show und < _; omega, trivial⟩, by simp, fun m => ?_⟩
        simp only [hasS_cons, hasS_nil, Bool.or_false]
        by_cases a : 1 ≤ m <;> by_cases b : m ≤ und <;> simp [a, b]
      · rw [if_neg h]
        refine ⟨trivial, by simp, fun m => ?_⟩
        rw [hasS_nil, Bool.or_false, decide_eq_false (by omega)]
    | succ k ih =>
      intro hk
      obtain ⟨h1, h2, h3⟩ := ih (by omega)
      have hk' : k < L.length := by omega
      obtain ⟨x0, x1⟩ := hN _ (List.getElem_mem hk')
      rw [haveL_take hk']
      refine ⟨addS_up h1 x0 x1, by have := addS_len h1 x0 x1; omega, fun m => ?_⟩
      rw [addS_has h1 x0 x1, h3, List.take_add_one, List.getElem?_eq_getElem hk', Option.toList_some, Bool.or_assoc]
      congr 1
      unfold hasL
      rw [List.any_append]
      simp
  have := key L.length (Nat.le_refl _)
  rwa [List.take_length] at this
theorem Nm.take {L : List Pl} (h : Nm L) (k : Nat) : Nm (L.take k) := fun x hx => h x (List.mem_of_mem_take hx)

set_option maxRecDepth 100000 in
set_option maxHeartbeats 4000000 in
theorem fhave_any (B q : Nat) (und : Int) (L : List Pl) (hL : L.length ≤ 1000) (hN : Nm L) (u0 : 0 ≤ und) (u1 : und ≤ 1000000) (w : World) (hR : Rf B q und L w) :
    Calls Try.prog 21 #[.pointer (some ⟨q, 0, none⟩)] w fun e w' => (∃ v, e = .returned v ∧ Rs v (haveL und L) w') ∧ Below w.heap.size w w' := by
  have b1 := below_alloc w (.cells #[] 51)
  have hO : Ow w.heap.size (.slice (some ⟨w.heap.size, 0, none⟩) 0 0) [] (w.alloc (.cells #[] 51)) := World.ownsRow_made w #[] 0 (Nat.le_refl _) (Nat.zero_le _) rfl
  have hR1 := hR.below b1
  have hlen : (L.length : Int) ≤ 1000 := by omega
  have hq := hR.lt
  by_cases hz : 0 < und
  · have z1 : decide (0 < und) = true := decide_eq_true hz
    have e0 : haveL und (L.take 0) = [⟨1, und⟩] := by rw [List.take_zero]; show haveL0 und = _; unfold haveL0; rw [if_pos hz]
    obtain ⟨a, cap, c0, c1, hfz, hcap, hcm, hsh, hOI, hcell⟩ := hR1.cells
    have b2 := below_alloc (w.alloc (.cells #[] 51)) (.cells #[.int .u64 1, .int .u64 und] 51)
    have hO2 := hO.below b2
    have hY := Rs.one (Bx.new 51 1 und (w.alloc (.cells #[] 51))) ⟨by show (0 : Int) ≤ 1; omega, by show (1 : Int) ≤ 18446744073709551615; omega, by show 0 ≤ und; omega, by show und ≤ 18446744073709551615; omega⟩
    have hz2 := Nat.le_trans b1.size b2.size
    have hB2 := b1.trans (b2.mono b1.size)
    have hs1 : (w.alloc (.cells #[] 51)).heap.size = w.heap.size + 1 := by simp
    rw [hs1] at hY
    clear hfz hcap hcm hsh hOI hcell
    go_enter Try.func21, Try.ntmps21
    go_wp2_with (at_builtin; refine wpList_appS rfl (.tmp 13) (.tmp 19) rfl _ w.heap.size [] rfl hO2 hz2 (w.heap.size + 1) 0 1 1 [⟨1, und⟩] rfl rfl hY (by simp) ?_; intro v w1 hown hgr)
    have hRs0 : Rs v (haveL und (L.take 0)) w1 := by rw [e0]; exact hown.rs (fun s hs => by simp at hs; subst hs; exact ⟨by show (0 : Int) ≤ 1; omega, by show (1 : Int) ≤ 18446744073709551615; omega, by show 0 ≤ und; omega, by show und ≤ 18446744073709551615; omega⟩)
    have hB0 := below_grown hB2 hO2 hgr hz2
    clear hown hgr hO2 hO hY b1 b2 hB2 hR1 c0 c1
    go_loopg [3, 4] L.length (fun gk t3 t4 wr => ∃ k : Nat, k + gk = L.length ∧ t4 = .int .i64 k ∧ Rs t3 (haveL und (L.take k)) wr ∧ Below w.heap.size w wr)
    case atStart => exact ⟨0, by omega, rfl, hRs0, hB0⟩
    case round =>
      obtain ⟨k, hk, rfl, hv, hB⟩ := hrel
      have k0 : (0 : Int) ≤ k := by omega
      have hRk := hR.below (w' := wr) ⟨hB.os, hB.tape, hB.output, hB.size, hB.block⟩
      obtain ⟨a, cap, c0, c1, hfz, hcap, hcm, hsh, hOI, hcell⟩ := hRk.cells
      by_cases hlt : (k : Int) < L.length
      · have hkl : k < L.length := by omega
        obtain ⟨gb, rfl, d0, _, _, _⟩ := hcell k hkl
        obtain ⟨x0, x1⟩ := hN _ (List.getElem_mem hkl)
        have hl := (haveL_ok u0 u1 (hN.take k)).2.1
        rw [List.length_take] at hl
        have hst := haveL_take (und := und) hkl
        have hst : Hid (haveL und (L.take (k + 1)) = (addS (haveL und (L.take k)) L[k].n).1) := hst
        have had := fadd_any _ _ L[k].n wr hv (by omega) x0 (by omega)
        clear hfz hsh hOI hcell hv hl
        generalize L[k].n = n at *
        go_wp2_with fail
        refine had.mono ?_
        rintro e w2 ⟨⟨v', rfl, hR'⟩, hb2⟩
        have hB2 := hB.trans (hb2.mono hB.size)
        go_wp2_with fail
        go_roundg (gk - 1)
        case rel => exact ⟨k + 1, by omega, by go_num, by rw [hst.out]; exact hR', hB2⟩
        case measure => omega
      · obtain rfl : k = L.length := by omega
        rw [List.take_length] at hv
        clear hfz hsh hOI hcell
        go_wp2_with fail
        go_ret
        exact ⟨⟨_, rfl, hv⟩, hB⟩
  · have z1 : decide (0 < und) = false := decide_eq_false hz
    have e0 : haveL und (L.take 0) = [] := by rw [List.take_zero]; show haveL0 und = _; unfold haveL0; rw [if_neg hz]
    obtain ⟨a, cap, c0, c1, hfz, hcap, hcm, hsh, hOI, hcell⟩ := hR1.cells
    have hRs0 : Rs (.slice (some ⟨w.heap.size, 0, none⟩) 0 0) (haveL und (L.take 0)) (w.alloc (.cells #[] 51)) := by rw [e0]; exact hO.rs (fun s hs => by cases hs)
    have hB0 := b1
    clear hfz hcap hcm hsh hOI hcell
    go_enter Try.func21, Try.ntmps21
    go_wp2_with fail
    clear hO b1 hR1 c0 c1
    go_loopg [3, 4] L.length (fun gk t3 t4 wr => ∃ k : Nat, k + gk = L.length ∧ t4 = .int .i64 k ∧ Rs t3 (haveL und (L.take k)) wr ∧ Below w.heap.size w wr)
    case atStart => exact ⟨0, by omega, rfl, hRs0, hB0⟩
    case round =>
      obtain ⟨k, hk, rfl, hv, hB⟩ := hrel
      have k0 : (0 : Int) ≤ k := by omega
      have hRk := hR.below (w' := wr) ⟨hB.os, hB.tape, hB.output, hB.size, hB.block⟩
      obtain ⟨a, cap, c0, c1, hfz, hcap, hcm, hsh, hOI, hcell⟩ := hRk.cells
      by_cases hlt : (k : Int) < L.length
      · have hkl : k < L.length := by omega
        obtain ⟨gb, rfl, d0, _, _, _⟩ := hcell k hkl
        obtain ⟨x0, x1⟩ := hN _ (List.getElem_mem hkl)
        have hl := (haveL_ok u0 u1 (hN.take k)).2.1
        rw [List.length_take] at hl
        have hst := haveL_take (und := und) hkl
        have hst : Hid (haveL und (L.take (k + 1)) = (addS (haveL und (L.take k)) L[k].n).1) := hst
        have had := fadd_any _ _ L[k].n wr hv (by omega) x0 (by omega)
        clear hfz hsh hOI hcell hv hl
        generalize L[k].n = n at *
        go_wp2_with fail
        refine had.mono ?_
        rintro e w2 ⟨⟨v', rfl, hR'⟩, hb2⟩
        have hB2 := hB.trans (hb2.mono hB.size)
        go_wp2_with fail
        go_roundg (gk - 1)
        case rel => exact ⟨k + 1, by omega, by go_num, by rw [hst.out]; exact hR', hB2⟩
        case measure => omega
      · obtain rfl : k = L.length := by omega
        rw [List.take_length] at hv
        clear hfz hsh hOI hcell
        go_wp2_with fail
        go_ret
        exact ⟨⟨_, rfl, hv⟩, hB⟩
end Go.Proofs.Ytlbeincgknmijaa
