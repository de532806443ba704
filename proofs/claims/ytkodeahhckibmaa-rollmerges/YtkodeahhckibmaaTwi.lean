/-
  RollTwice.
-/
import Derived.Test.YtkodeahhckibmaaSho
import Derived.Test.YtkodeahhckibmaaMat
import Derived.OpenShut
namespace Go.Proofs.Ytkodeahhckibmaa
open Go.RowKit

theorem IsUpds.inok {w : World} {a : Option Addr} {len cap : Nat} {l : List Upd} (h : IsUpds w a len cap l) : ∀ u ∈ l, InOk u := fun u hu => bounds_u64 (h.2.2 u hu).i

theorem mod64 (x : Int) : ∃ k : Nat, x % 64 = k ∧ k < 64 := ⟨(x % 64).toNat, by omega, by omega⟩
theorem Own.ne {B p : Nat} {v : Value} {l : List Upd} {w : World} (h : Own B v l w) (hp : p < B) : v.ownBlock ≠ some p := fun e => by have := (h.lt p e).1; omega
theorem Ru.ne {p : Nat} {v : Value} {l : List Upd} {w : World} (h : Ru v l w) (hp : w.heap.size ≤ p) (hl : l.length ≠ 0) : v.ownBlock ≠ some p := fun e => by
  obtain ⟨a, cap, rfl, _, _, h3⟩ := h
  rcases h3 with h3 | ⟨g, off, rfl, h3⟩
  · exact hl h3
  · have := World.block_lt_of_cell? _ _ (h3 0 (by omega)).1
    have : g = p := by simpa [Value.ownBlock] using e
    simp at *
    omega

set_option maxRecDepth 100000 in
set_option maxHeartbeats 1000000 in
theorem twice_core (me : Int) (hme : 0 ≤ me ∧ me ≤ 255) (a : Option Addr) (cap : Nat) (l : List Upd) (w : World) (hU : Ru (.slice a l.length cap) l w) (hin : ∀ u ∈ l, InOk u) (hl : (l.length : Int) ≤ 60) :
    Calls Try.prog 7 #[.int .u8 me, .slice a l.length cap] w fun e w' => e = .returned (.bool true) ∧ Below w.heap.size w w' := by
  obtain ⟨k, hk, hk64⟩ := mod64 me
  obtain ⟨h0, h1⟩ := hme
  go_enter Try.func7, Try.ntmps7
  go_wp2_with fail
  refine (shown_any _).mono ?_
  rintro e w1 ⟨rfl, hb1⟩
  go_wp2_with fail
  refine (new_any _ _).mono ?_
  rintro e w2 ⟨hN, _, hb2⟩
  obtain ⟨p, rfl, hp, hR2⟩ := hN k rfl hk64
  have hI0 := inv_new hk64
  generalize newS k = f at *
  have hB2 : Below w.heap.size w w2 := hb1.trans (hb2.mono hb1.size)
  have hpw : w.heap.size ≤ p := Nat.le_trans hb1.size hp
  have hU2 := hU.below hB2
  have hv : l.length ≠ 0 → (Value.slice a l.length cap).ownBlock ≠ some p := fun hl => hU.ne hpw hl
  clear hN hb1 hb2 hp hk
  go_wp2_with fail
  refine (merge_any p k f _ l hk64 w2 hR2 hU2 hv (by omega) hin).mono ?_
  have hI1 := hearAll_inv l hI0 hin
  have hc := hearAll_code (k := k) l f
  have ho := hearAll_old l hI0 hin
  generalize hearAllS k f l = r at *
  obtain ⟨e1, g⟩ := r
  rintro e w3 ⟨⟨v1, rfl, _⟩, hR3, hb3⟩
  dsimp only at hR3 hc ho hI1 ⊢
  have hB3 : Below w.heap.size w w3 := hB2.trans ((hb3.mono hB2.size).to hpw)
  have hU3 := hU.below hB3
  clear hR2 hU2 hb3
  rcases hc with rfl | rfl
  case inr =>
    go_wp2_with fail
    go_ret
    exact ⟨rfl, hB3⟩
  case inl =>
    have hst := hearAll_stay l hI1 (ho rfl)
    have hst2 := hearAll_stay (allS g) hI1 (all_old hI1)
    have hok := all_ok hI1
    have hn : newsS g g 0 = [] := by unfold newsS; rw [news_self]; rfl
    have hlen := allS_length g
    clear ho
    go_wp2_with fail
    refine (all_any p k g w3 hR3).mono ?_
    rintro e w4 ⟨⟨v4, rfl, hO4⟩, hb4⟩
    have hB4 := hB3.trans (hb4.mono hB3.size)
    have hR4 := hR3.below hb4
    have hp3 := hR3.lt
    go_wp2_with fail
    refine (merge_any p k g _ l hk64 w4 hR4 (hU.below hB4) hv (by omega) hin).mono ?_
    rw [hst]
    dsimp only
    rw [hn]
    rintro e w5 ⟨⟨v5, rfl, hO5⟩, hR5, hb5⟩
    have hB5 : Below w.heap.size w w5 := hB4.trans ((hb5.mono hB4.size).to hpw)
    have hRu5 := hO4.ru.but (fun _ => hO4.ne hp3) hb5
    go_wp2_with fail
    refine (merge_any p k g _ (allS g) hk64 w5 hR5 hRu5 (fun _ => hO4.ne hp3) (by omega) hok).mono ?_
    rw [hst2]
    dsimp only
    rw [hn]
    rintro e w6 ⟨⟨v6, rfl, hO6⟩, hR6, hb6⟩
    have hB6 : Below w.heap.size w w6 := hB5.trans ((hb6.mono hB5.size).to hpw)
    have hRu6 := hRu5.but (fun _ => hO4.ne hp3) hb6
    have hlt4 : p < w4.heap.size := hR4.lt
    obtain ⟨a5, c5, rfl, _⟩ := hO5.ru
    obtain ⟨a6, c6, rfl, _⟩ := hO6.ru
    clear hO4 hRu5 hO5 hO6 hb5 hb6 hR4 hR5 hst hst2 hn
    go_wp2_with fail
    refine (all_any p k g w6 hR6).mono ?_
    rintro e w7 ⟨⟨v7, rfl, hO7⟩, hb7⟩
    have hB7 := hB6.trans (hb7.mono hB6.size)
    go_wp2_with fail
    refine (same_any _ _ (allS g) w7 (by omega) hO7.ru (hRu6.below hb7)).mono ?_
    rintro e w8 ⟨rfl, hb8⟩
    go_wp2_with fail
    go_ret
    exact ⟨rfl, hB7.trans (hb8.mono hB7.size)⟩

set_option maxRecDepth 100000 in
theorem twice_long (me : Int) (a : Option Addr) (len cap : Nat) (w : World) (hl : (60 : Int) < len) :
    Calls Try.prog 7 #[.int .u8 me, .slice a len cap] w fun e w' => e = .returned (.bool true) ∧ Below w.heap.size w w' := by
  go_enter Try.func7, Try.ntmps7
  go_wp2_with (go_at_call 8; refine (shown_any _).mono ?_; rintro e w1 ⟨rfl, hb1⟩)
  go_ret
  exact ⟨rfl, hb1⟩

theorem twice_walk (me : Int) (a : Option Addr) (len cap : Nat) (l : List Upd) (h : (Lit.int .u8 me).wf = true) (w : World) (hU : IsUpds w a len cap l) :
    Calls Try.prog 7 #[.int .u8 me, .slice a len cap] w fun e w' => e = .returned (.bool true) ∧ Below w.heap.size w w' := by
  have hin := hU.inok
  obtain ⟨rfl, hR, _⟩ := hU
  by_cases hl : (60 : Int) < l.length
  · exact twice_long me a l.length cap w hl
  · exact twice_core me (bounds_u8 h) a cap l w hR hin (by omega)
end Go.Proofs.Ytkodeahhckibmaa
