/-
  The reference's All.
-/
import Derived.Test.YtahiiieifdhgeaaEra
namespace Go.Proofs.Ytahiiieifdhgeaa
open Go.RowKit Go.Maps

theorem filter_len_le (f : Dbt → Bool) (K : List Dbt) (k : Nat) : ((K.take k).filter f).length ≤ K.length := Nat.le_trans (List.length_filter_le _ _) (by rw [List.length_take]; omega)

set_option maxHeartbeats 4000000 in
set_option maxRecDepth 100000 in
theorem rall_any (B q : Nat) (K L : List Dbt) (hP : K.Perm L) (hL : Di L) (w : World) (hR : Rg B q K w) :
    Calls Try.prog 19 #[.pointer (some ⟨q, 0, none⟩)] w fun e w' => (∃ v, e = .returned v ∧ OwD 68 w.heap.size v L w') ∧ Below w.heap.size w w' := by
  have hrz := hR.lt
  obtain ⟨v, hh, hOK⟩ := hR.is
  clear hR
  obtain ⟨a, cap, rfl, hcap, hmx, hRb⟩ := hOK.rb
  have hc : w.cell? ⟨q, 0, none⟩ = some (.slice a K.length cap) := by simp [World.cell?, hh]
  have ba := below_alloc w (.cells #[] 68)
  have hE := OwD.empty (B := w.heap.size) (heap_alloc_new w (.cells #[] 68)) (Nat.le_refl _)
  obtain ⟨N, HN⟩ : ∃ N, Hid (K.length = N) := ⟨_, rfl⟩
  rw [HN.out] at hc hcap
  have HALL : Hid (K.take N = K) := by rw [← HN.out, List.take_length]; exact rfl
  have hNl : N ≤ 64 := by rw [← HN.out, hP.length_eq]; exact hL.length
  have hNc : (N : Int) ≤ cap := by omega
  have HE0 : Hid (L.filter (fun x => decide (x.n < ((0 : Nat) : Int))) = []) := filter_none hL
  have HE1 : ∀ m : Nat, Hid (L.filter (fun x => decide (x.n < ((m + 1 : Nat) : Int))) = L.filter (fun x => decide (x.n < (m : Int))) ++ K.filter (fun x => x.n == (m : Int))) := fun m => by
    rw [filter_perm hP hL m]
    have := filter_next m L hL.sort
    exact (by simpa using this : _ = _)
  have HE2 : Hid (L.filter (fun x => decide (x.n < ((64 : Nat) : Int))) = L) := filter_all hL
  have hle : ∀ m : Int, (L.filter (fun x => decide (x.n < m))).length ≤ 64 := fun m => Nat.le_trans (List.length_filter_le _ _) hL.length
  clear hmx hRb
  go_enter Try.func19, Try.ntmps19
  go_wp2_with fail
  go_loopg [3, 4] 64 (fun gk t3 t4 wr => ∃ m : Nat, m + gk = 64 ∧ t4 = .int .i64 m ∧ OwD 68 w.heap.size t3 (L.filter (fun x => decide (x.n < (m : Int)))) wr ∧ Below w.heap.size w wr)
  case atStart => exact ⟨0, by omega, rfl, by rw [HE0.out]; exact hE, ba⟩
  case round =>
    clear hE ba HE0
    obtain ⟨m, hm, rfl, hOm, hBm⟩ := hrel
    by_cases hm64 : (m : Int) < 64
    · have HS := HE1 m
      have hlF := hle m
      have m0 : (0 : Int) ≤ m := by omega
      clear HE1 HE2 hle
      obtain ⟨gz, hgz⟩ : ∃ gz : Nat, gz = gk - 1 := ⟨_, rfl⟩
      obtain ⟨F, HF⟩ : ∃ F, Hid (L.filter (fun x => decide (x.n < (m : Int))) = F) := ⟨_, rfl⟩
      rw [HF.out] at hOm HS hlF
      go_wp2_with fail
      go_loopg [3, 5] N (fun gk t3 t5 wr => ∃ k : Nat, k + gk = N ∧ t5 = .int .i64 k ∧ OwD 68 w.heap.size t3 (F ++ (K.take k).filter (fun x => x.n == (m : Int))) wr ∧ Below w.heap.size w wr)
      case atStart => exact ⟨0, by omega, rfl, by simpa using hOm, hBm⟩
      case round =>
        clear hOm hBm
        obtain ⟨k, hk, rfl, hO, hBk⟩ := hrel
        have c1 := (World.cell?_of_block (w := w) (hBk.block q hrz)).trans hc
        have hz := hBk.size
        by_cases hlt : (k : Int) < N
        · have hkl : k < K.length := by rw [HN.out]; omega
          obtain ⟨g, off, cap', e, _, _, hg, h7⟩ := hOK.rb.at hkl
          cases e
          have h7 := h7.keep (hBk.block g hg)
          have HT : Hid (F ++ (K.take (k + 1)).filter (fun x => x.n == (m : Int)) = (F ++ (K.take k).filter (fun x => x.n == (m : Int))) ++ (if K[k].n == (m : Int) then [K[k]] else [])) := by
            rw [List.append_assoc, take_snoc (fun x => x.n == (m : Int)) hkl]
            exact rfl
          have hll : (F ++ (K.take k).filter (fun x => x.n == (m : Int))).length ≤ 128 := by
            have := filter_len_le (fun x => x.n == (m : Int)) K k
            rw [List.length_append]
            have := HN.out
            omega
          generalize K[k] = x at *
          generalize F ++ (K.take k).filter (fun x => x.n == (m : Int)) = P at *
          obtain ⟨d0, d1, d2, d3, d4, d5, d6⟩ := h7
          have k0 : (0 : Int) ≤ k := by omega
          cases hx : (x.n == (m : Int))
          case false =>
            rw [hx] at HT
            simp only [Bool.false_eq_true, if_false, List.append_nil] at HT
            go_wp2_with fail
            go_roundg (gk - 1)
            case rel => exact ⟨k + 1, by omega, by go_num, by rw [HT.out]; exact hO, hBk⟩
            case measure => omega
          case true =>
            rw [hx] at HT
            simp only [if_true] at HT
            have bc := below_alloc wr (dC x 68)
            have hB4 := hBk.trans (bc.mono hz)
            have hO4 := hO.below bc
            have hY := Rb.one (Bd.new 68 x wr)
            have hz4 := hB4.size
            unfold dC at hB4 hO4 hY hz4
            clear bc
            go_wp2_with (at_builtin; refine wpList_appD Try.underlying29 Try.infoE _ rfl (.tmp 31) (.tmp 39) rfl w.heap.size _ P rfl hO4 hz4 wr.heap.size 0 1 [x] 1 rfl rfl hY (by simp; omega) ?_; intro v' w' h1 h3 h4)
            have hB5 : Below w.heap.size w w' := hB4.trans ⟨h3.os, h3.tape, h3.output, h3.size, fun q hq => h3.block q (by omega) (fun e => by have := (hO4.lt q e.symm).1; omega)⟩
            clear h3 h4 hY
            go_wp2_with fail
            go_roundg (gk - 1)
            case rel => exact ⟨k + 1, by omega, by go_num, by rw [HT.out]; exact h1, hB5⟩
            case measure => omega
        · obtain rfl : k = N := by omega
          rw [HALL.out] at hO
          obtain ⟨av, acap, rfl, _⟩ := hO.rb
          go_wp2_with fail
          go_roundg gz
          case rel => exact ⟨m + 1, by omega, by go_num, by rw [HS.out]; rw [List.length_append] at hO; exact hO, hBk⟩
          case measure => omega
    · obtain rfl : m = 64 := by omega
      rw [HE2.out] at hOm
      obtain ⟨av, acap, rfl, _⟩ := hOm.rb
      go_wp2_with fail
      go_ret
      exact ⟨⟨_, rfl, hOm⟩, hBm⟩
end Go.Proofs.Ytahiiieifdhgeaa
