/-
  Others; dead; what RollLive needs.
-/
import Derived.Test.YtkodeahhckibmaaDoorMat
import Derived.Test.YtkodeahhckibmaaDoorSho
import Derived.Test.YtkodeahhckibmaaDoorBrf
import Derived.Deep.RegionHeld3
import Derived.OpenShut
namespace Go.Proofs.YtkodeahhckibmaaDoor
open Go.RowKit

theorem IsUpds.inok {w : World} {a : Option Addr} {len cap : Nat} {l : List Upd} (h : IsUpds w a len cap l) : ∀ u ∈ l, InOk u := fun u hu => bounds_u64 (h.2.2 u hu).i
theorem mod64 (x : Int) : ∃ k : Nat, x % 64 = k ∧ k < 64 := ⟨(x % 64).toNat, by omega, by omega⟩
theorem Own.ne {B p : Nat} {v : Value} {l : List Upd} {w : World} (h : Own B v l w) (hp : p < B) : v.ownBlock ≠ some p := fun e => by have := (h.lt p e).1; omega
theorem Ru.ne {p : Nat} {v : Value} {l : List Upd} {w : World} (h : Ru v l w) (hp : w.heap.size ≤ p) (hl : l.length ≠ 0) : v.ownBlock ≠ some p := fun e => by
  obtain ⟨a, cap, rfl, _, _, h3⟩ := h
  rcases h3 with h3 | ⟨g, off, rfl, h3⟩
  · exact hl h3
  · have := World.block_lt_of_cell? _ _ (h3 0 (by omega)).1
    have : g = p := by simpa [Value.ownBlock] using e
    simp at *
    omega

/-- A roll, and the table. -/
structure Ow (w0 : World) (p k : Nat) (f : Tab) (w : World) : Prop where
  roll : Rl p k f w
  tab : Bnd.Tab w
  below : Below w0.heap.size w0 w
section
variable {w0 : World} {p k : Nat} {f : Tab} {w w' : World}
theorem Ow.later (h : Ow w0 p k f w) (b : Below w.heap.size w w') : Ow w0 p k f w' := ⟨h.roll.below b, h.tab.below h.tab.lt b, h.below.trans (b.mono h.below.size)⟩
theorem Ow.drew (h : Ow w0 p k f w) : Ow w0 p k f w.drew := h.later (below_drewN _ _ 1)
theorem Ow.cme (h : Ow w0 p k f w) : w.cell? ⟨p, 0, none⟩ = some (.int .i64 k) := h.roll.cme
end

/-- The others that are live. -/
def othS (k : Nat) (f : Tab) : List Int := Bnd.lst (Bnd.lessS (bandS (allS f)) k)

set_option maxRecDepth 100000 in
set_option maxHeartbeats 1000000 in
theorem others_any (p k : Nat) (f : Tab) (w : World) (hR : Rl p k f w) (hT : Bnd.Tab w) :
    Calls Tryd.prog 18 #[.pointer (some ⟨p, 0, none⟩)] w fun e w' => (∃ v, e = .returned v ∧ Bnd.Rd v (othS k f) w') ∧ Below w.heap.size w w' := by
  have hS : Ow w p k f w := ⟨hR, hT, Below.refl _ _⟩
  unfold othS
  have hL := fun w' (h : Rl p k f w') => rlive_any p k f w' h
  have hlt := bandS_lt (allS f)
  generalize bandS (allS f) = b at *
  have hlt2 := Bnd.lessS_lt hlt (k : Int)
  go_enter Tryd.func18, Tryd.ntmps18
  go_wp2_with fail
  go_region_held3 (fun w' => w'.cell? ⟨p, 0, none⟩ = some (.int .i64 k)) (first | exact Ow.cme hS | exact Ow.cme (Ow.drew hS)) ((first
    | (go_at_call 17; refine (hL _ (by first | exact Ow.roll hS | exact Ow.roll (Ow.drew hS))).mono ?_; rintro e w4 ⟨rfl, hb4⟩; first | have hS := Ow.later hS hb4 | have hS := Ow.later (Ow.drew hS) hb4)
    | (go_at_call 41; refine (Bnd.less_any _ hlt _ _).mono ?_; rintro e w5 ⟨rfl, rfl⟩)
    | (go_at_call 40; refine (Bnd.list_rd _ hlt2 _ (by first | exact Ow.tab hS | exact Ow.tab (Ow.drew hS))).mono ?_; rintro e w6 ⟨v6, rfl, hv6, hb6⟩; first | have hS := Ow.later hS hb6 | have hS := Ow.later (Ow.drew hS) hb6)))
  all_goals go_wp2_with fail
  all_goals go_ret
  all_goals exact ⟨⟨v6, rfl, hv6⟩, hS.below⟩

/-- How many are not live. -/
def deadS (l : List Upd) : Nat := (l.filter fun u => decide (1 < u.s)).length
theorem deadS_take (l : List Upd) (k : Nat) (hk : k < l.length) : deadS (l.take (k + 1)) = deadS (l.take k) + if 1 < l[k].s then 1 else 0 := by
  unfold deadS
  rw [List.take_add_one, List.getElem?_eq_getElem hk, List.filter_append, List.length_append]
  congr 1
  by_cases h : 1 < l[k].s <;> simp [h]
theorem deadS_le (l : List Upd) (k : Nat) : deadS (l.take k) ≤ k := by
  have := List.length_filter_le (fun u : Upd => decide (1 < u.s)) (l.take k)
  have h2 := List.length_take_le k l
  unfold deadS
  omega

set_option maxRecDepth 100000 in
set_option maxHeartbeats 1000000 in
theorem dead_any (v : Value) (l : List Upd) (w : World) (hU : Ru v l w) (hl : l.length ≤ 1000000) :
    Calls Tryd.prog 19 #[v] w fun e w' => e = .returned (.int .i64 (deadS l)) ∧ Below w.heap.size w w' := by
  obtain ⟨a, cap, rfl, c1, c2, h3⟩ := id hU
  have hll : (l.length : Int) ≤ 1000000 := by omega
  go_enter Tryd.func19, Tryd.ntmps19
  go_wp2_with fail
  go_loopg [3, 4] l.length (fun gk t3 t4 wr => ∃ k : Nat, k + gk = l.length ∧ t4 = .int .i64 k ∧ t3 = .int .i64 (deadS (l.take k)) ∧ Below w.heap.size w wr)
  case atStart => exact ⟨0, by omega, rfl, rfl, Below.refl _ _⟩
  case round =>
    obtain ⟨k, hk, rfl, rfl, hB⟩ := hrel
    by_cases hlt : (k : Int) < l.length
    · have hk' : k < l.length := by omega
      have k0 : (0 : Int) ≤ k := by omega
      rcases h3 with h3 | ⟨g, off, rfl, h3⟩
      · omega
      have x2 : wr.cell? ⟨g, off + k * 3 + 2, none⟩ = some (.int .i64 l[k].s) := by
        obtain ⟨_, _, e, _, _, e3⟩ := hU.below hB
        cases e
        rcases e3 with e3 | ⟨g', off', e, e3⟩
        · omega
        · cases e; exact (e3 k hk').2.2
      have hT : Hid _ := deadS_take l k hk'
      have hle := deadS_le l k
      generalize hd : deadS (l.take k) = d at *
      have HD : Hid _ := hd
      clear hd
      generalize l[k].s = s at *
      have hle' : (d : Int) ≤ 1000000 := by omega
      have hd0 : (0 : Int) ≤ d := by omega
      by_cases hs : 1 < s
      · go_wp2_with fail
        go_roundg (gk - 1)
        case rel => exact ⟨k + 1, by omega, by go_num, by rw [hT.out, if_pos hs]; go_num, hB⟩
        case measure => omega
      · go_wp2_with fail
        go_roundg (gk - 1)
        case rel => exact ⟨k + 1, by omega, by go_num, by rw [hT.out, if_neg (by omega)]; rfl, hB⟩
        case measure => omega
    · obtain rfl : k = l.length := by omega
      rw [List.take_length]
      go_wp2_with fail
      go_ret
      exact ⟨rfl, hB⟩
end Go.Proofs.YtkodeahhckibmaaDoor
