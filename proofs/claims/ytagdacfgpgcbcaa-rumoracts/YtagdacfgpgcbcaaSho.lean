/-
  shown, and RumorCap.
-/
import Derived.Test.YtagdacfgpgcbcaaTak
namespace Go.Proofs.Ytagdacfgpgcbcaa
open Go.RowKit Go.Maps

theorem cap64 : capS 64 = 21 := by decide
set_option maxHeartbeats 1000000 in
theorem shown_any (w : World) : Calls Try.prog 9 #[] w fun e w' => e = .returned (.bool true) ∧ Below w.heap.size w w' := by
  have hQ := Qu.new w
  have ba := below_alloc w (.cells #[.map none] 27)
  obtain ⟨w0, HW0⟩ : ∃ w0, Hid (w0 = w.alloc (.cells #[.map none] 27)) := ⟨_, rfl⟩
  rw [← HW0.out] at hQ ba
  have hcap := fun w => cap_any 64 w (by decide)
  rw [cap64] at hcap
  have hput := put_any w.heap.size none [] (by simp) 3 0 0 (by decide) w0 hQ
  rw [show putE [] (3, 0, 0) = 0 from rfl, show putQ [] (3, 0, 0) = [(3, 0, 0, 0)] from rfl] at hput
  have hzw := ba.size
  go_enter Try.func9, Try.ntmps9
  go_wp2_with fail
  rw [← HW0.out]
  refine hput.mono ?_
  rintro e w1 ⟨rfl, m, hQ1, hm1⟩
  have htk := take_any w.heap.size m [(3, 0, 0, 0)] (by simp) 1 1 (by decide) w1 hQ1
  rw [show (List.take (1 : Int).toNat [((3, 0, 0, 0) : Itm)]).map updOf = [⟨3, 0, 0⟩] from rfl] at htk
  go_wp2_with fail
  refine htk.mono ?_
  rintro e w2 ⟨⟨v, rfl, hO⟩, _, hm2⟩
  have hB2 : Below w.heap.size w w2 := ba.trans ((hm1.trans hm2).to hzw (Nat.le_refl _) (fun b hb => by cases hb))
  have hne : v ≠ .slice none 0 0 := by
    rintro rfl
    rcases hO.2 with ⟨_, h⟩ | ⟨g, cap, cur, h, _⟩
    · cases h
    · cases h
  obtain ⟨g, cap, rfl, h1, h2, _, _⟩ := hO.len hne
  obtain ⟨_, _, e, _, _, h3⟩ := hO.ru
  cases e
  have c0 : w2.cell? ⟨g, 0, none⟩ = some (.int .i64 3) := by
    rcases h3 with h3 | ⟨_, _, e, h3⟩
    · cases h3
    · cases e
      exact (h3 0 (by simp)).1
  clear h3 hne hm2 hm1 hO htk hput hQ1 hQ ba h1 h2
  simp only [List.length_cons, List.length_nil, Nat.zero_add]
  go_wp2_with (go_at_call 15; refine (hcap _).mono ?_; rintro e w' ⟨rfl, rfl⟩)
  go_ret
  exact ⟨rfl, hB2⟩

theorem bitLen_mono (y : Nat) : ∀ x, x ≤ y → y < 2 ^ 64 → Lib.bitLen x ≤ Lib.bitLen y := by
  induction y using Nat.strongRecOn with
  | ind y ih =>
    intro x hx hy
    rcases Nat.eq_zero_or_pos x with rfl | h
    · exact Nat.zero_le _
    · have h1 := Lib.bitLen_half x (by omega) (by omega)
      have h2 := Lib.bitLen_half y (by omega) hy
      have h3 := ih (y / 2) (by omega) (x / 2) (by omega) (by omega)
      omega
theorem bits_mono {a b : Int} (h : a ≤ b) (hb : b ≤ 65535) : bitsS a ≤ bitsS b := by
  unfold bitsS
  split
  · split
    · exact Int.le_refl _
    · omega
  · rw [if_neg (by omega)]
    have := bitLen_mono b.toNat a.toNat (by omega) (by omega)
    omega
theorem cap_mono {a b : Int} (h : a ≤ b) (hb : b ≤ 65535) : capS a ≤ capS b := by
  have := bits_mono h hb
  unfold capS
  omega
theorem cap_none {n : Int} (h : n ≤ 0) : capS n = 1 := by
  unfold capS
  rw [bits_none h]
  rfl

set_option maxHeartbeats 2000000 in
set_option maxRecDepth 100000 in
theorem rumorCap_walk (n m : Int) (hn : 0 ≤ n ∧ n ≤ 65535) (hm : 0 ≤ m ∧ m ≤ 65535) (w : World) :
    Calls Try.prog 8 #[.int .u16 n, .int .u16 m] w fun e w' => e = .returned (.bool true) ∧ Below w.heap.size w w' := by
  obtain ⟨n0, n1⟩ := hn
  obtain ⟨m0, m1⟩ := hm
  have hmin : 0 ≤ min n m ∧ min n m ≤ 65535 := by omega
  have hmax : 0 ≤ max n m ∧ max n m ≤ 65535 := by omega
  have ca := fun w => cap_any (min n m) w (by omega)
  have cb := fun w => cap_any (max n m) w (by omega)
  have cn := fun w => cap_any n w (by omega)
  have cg := fun w => cap_any (-n) w (by omega)
  have hab := cap_mono (show min n m ≤ max n m by omega) (by omega)
  have ha := (cap_range (min n m) (by omega)).1
  rw [cap_none (show -n ≤ 0 by omega)] at cg
  have HN : Hid (capS n = max 1 (3 * bitsS n)) := rfl
  have hbr := bits_range n (by omega)
  have HB : Hid (bitsS n = bitsS n) := rfl
  generalize capS (min n m) = a at *
  generalize capS (max n m) = b at *
  generalize capS n = c at *
  generalize hr : bitsS n = r at *
  have HR : Hid (bitsS n = r) := hr
  clear hr HB
  have hcr : max (3 * r) 1 = c := by rw [HN.out]; omega
  obtain ⟨k0, k1⟩ := hmin
  obtain ⟨k2, k3⟩ := hmax
  go_enter Try.func8, Try.ntmps8
  go_wp2_with fail
  refine (ca _).mono ?_
  rintro e w ⟨rfl, rfl⟩
  go_wp2_with fail
  refine (cb _).mono ?_
  rintro e w ⟨rfl, rfl⟩
  go_wp2_with fail
  go_loopg [7, 8] 64 (fun gk t7 t8 wr => wr = w ∧ ∃ (v k : Int), t8 = .int .i64 v ∧ t7 = .int .i64 k ∧ 0 ≤ v ∧ v ≤ 65535 ∧ 0 ≤ k ∧ k ≤ 64 ∧ r = k + bitsS v ∧ bitsS v ≤ gk)
  case atStart => exact ⟨rfl, n, 0, rfl, rfl, n0, n1, by omega, by omega, by rw [HR.out]; omega, by rw [HR.out]; omega⟩
  case round =>
    obtain ⟨rfl, v, k, rfl, rfl, hv1, hv2, hk1, hk2, he, hg⟩ := hrel
    by_cases hv : 0 < v
    · have HH : Hid (bitsS v = 1 + bitsS (v / 2)) := bits_half hv (by omega)
      have HR2 : Hid (0 ≤ bitsS (v / 2) ∧ bitsS (v / 2) ≤ 64) := bits_range (v / 2) (by omega)
      have HE : Hid (r = k + bitsS v) := he
      have HG : Hid (bitsS v ≤ gk) := hg
      have hk3 : k ≤ 63 := by have := HH.out; have := HR2.out; omega
      clear he hg
      go_wp2_with fail
      go_roundg (gk - 1)
      case rel =>
        have a1 := HH.out
        have a2 := HE.out
        have a3 := HG.out
        have a4 := HR2.out
        refine ⟨rfl, v / 2, k + 1, rfl, rfl, by omega, by omega, by omega, by omega, by omega, by omega⟩
      case measure =>
        have a1 := HH.out
        have a3 := HG.out
        have a4 := HR2.out
        omega
    · have hz := bits_none (show v ≤ 0 by omega)
      have hkr : k = r := by omega
      subst hkr
      clear he hg hz
      have hcc : (c == c) = true := by simp
      have h11 : ((1 : Int) == 1) = true := rfl
      have hneg : -9223372036854775808 ≤ -n := by omega
      go_wp2_with fail
      refine (cn _).mono ?_
      rintro e w ⟨rfl, rfl⟩
      go_wp2_with fail
      refine (cg _).mono ?_
      rintro e w ⟨rfl, rfl⟩
      go_wp2_with fail
      refine (shown_any _).mono ?_
      rintro e w2 ⟨rfl, hb⟩
      go_wp2_with fail
      go_ret
      exact ⟨rfl, hb⟩
end Go.Proofs.Ytagdacfgpgcbcaa
