/-
  MendLack, walked.
-/
import Derived.Test.YtlbeincgknmijaaShw
import Derived.Test.YtlbeincgknmijaaDjo
import Derived.Test.YtlbeincgknmijaaDha
import Derived.Test.YtlbeincgknmijaaOpn
import Derived.Test.YtlbeincgknmijaaLam
import Derived.Deep.RegionWith
import Derived.Deep.RegionHeld3
import Derived.BigRegion
namespace Go.Proofs.Ytlbeincgknmijaa
open Go.RowKit

theorem joinM_ok (a b : List Sn) : ∀ s ∈ joinS a b, SnOk s := by
  unfold joinS
  cases h1 : mayS a <;> cases h2 : mayS b
  · intro s hs; cases hs
  · intro s hs; cases hs
  · intro s hs; cases hs
  · exact (walkS_up rfl ((mayS_iff a).1 h1) ((mayS_iff b).1 h2)).ok
theorem lackM_at {a b : List Sn} {n k : Int} (ha : Up 0 a) (hb : Up 0 b) (k0 : 0 ≤ k) : hasM (lackM a b n) k = ((hasS b k && !hasS a k) && decide (cnt (hasS (minusS b a)) k.toNat < n)) := by
  have hu := minusS_up hb ha
  unfold lackM firstM
  rw [(mayS_iff _).2 hu, if_pos rfl]
  unfold hasM
  rw [(mayS_iff _).2 (firstS_up hu), firstS_at _ (Int.le_refl 0) k0 hu, minusS_has hb ha]
  simp
theorem lackM_up {a b : List Sn} {n : Int} (ha : Up 0 a) (hb : Up 0 b) : mayS (lackM a b n) = true := by
  have hu := minusS_up hb ha
  unfold lackM firstM
  rw [(mayS_iff _).2 hu, if_pos rfl]
  exact (mayS_iff _).2 (firstS_up hu)
theorem hasM_up {a : List Sn} (ha : Up 0 a) (k : Int) : hasM a k = hasS a k := by unfold hasM; rw [(mayS_iff _).2 ha]; simp
theorem Ow.made (w : World) : Ow w.heap.size (.slice (some ⟨w.heap.size, 0, none⟩) 0 0) [] (w.alloc (.cells #[] 51)) := World.ownsRow_made w #[] 0 (Nat.le_refl _) (Nat.zero_le _) rfl

set_option maxRecDepth 100000 in
set_option maxHeartbeats 8000000 in
theorem lack_core (va vb : Value) (l t : List Int) (n : Int) (n0 : 0 ≤ n) (n1 : n ≤ 255) (w : World) (hA : Rn va l w) (hBa : Bytes l) (hT : Rn vb t w) (hBt : Bytes t) :
    Calls Try.prog 6 #[va, vb, .int .u8 n] w fun e w' => e = .returned (.bool true) ∧ Below w.heap.size w w' := by
  obtain ⟨aa, capa, rfl, ha3⟩ := id hA
  obtain ⟨ab, capb, rfl, hb3⟩ := id hT
  by_cases hla : 100 < l.length
  · have z1 : decide ((100 : Int) < (l.length : Int)) = true := decide_eq_true (by omega)
    have z1N : decide (100 < l.length) = true := decide_eq_true hla
    go_enter Try.func6, Try.ntmps6
    go_wp2_with fail
    refine (shown_any _).mono ?_
    rintro e w1 ⟨rfl, hb⟩
    go_wp2_with fail
    go_ret
    exact ⟨rfl, hb⟩
  have z1 : decide ((100 : Int) < (l.length : Int)) = false := decide_eq_false (by omega)
  have z1N : decide (100 < l.length) = false := decide_eq_false hla
  by_cases hlb : 100 < t.length
  · have z2 : decide ((100 : Int) < (t.length : Int)) = true := decide_eq_true (by omega)
    have z2N : decide (100 < t.length) = true := decide_eq_true hlb
    go_enter Try.func6, Try.ntmps6
    go_wp2_with fail
    refine (shown_any _).mono ?_
    rintro e w1 ⟨rfl, hb⟩
    go_wp2_with fail
    go_ret
    exact ⟨rfl, hb⟩
  have z2 : decide ((100 : Int) < (t.length : Int)) = false := decide_eq_false (by omega)
  have z2N : decide (100 < t.length) = false := decide_eq_false hlb
  have hll : (l.length : Int) ≤ 100 := by omega
  have htl : (t.length : Int) ≤ 100 := by omega
  obtain ⟨ha1, ha2⟩ := jnS_ok l hBa
  obtain ⟨hc1, hc2⟩ := jnS_ok t hBt
  obtain ⟨A, HA⟩ : ∃ A, Hid (jnS l = A) := ⟨_, rfl⟩
  obtain ⟨C, HC⟩ : ∃ C, Hid (jnS t = C) := ⟨_, rfl⟩
  rw [HA.out] at ha1 ha2
  rw [HC.out] at hc1 hc2
  go_enter Try.func6, Try.ntmps6
  go_wp2_with fail
  refine (shown_any _).mono ?_
  rintro e w1 ⟨rfl, hb1⟩
  have b2 := below_alloc w1 (.cells #[] 51)
  have hO2 := Ow.made w1
  have b3 := below_alloc (w1.alloc (.cells #[] 51)) (.cells #[] 51)
  have hO3 := Ow.made (w1.alloc (.cells #[] 51))
  rw [World.size_alloc] at hO3
  have hR2 := (hO2.rs (fun s hs => by cases hs)).below b3
  have hR3 := hO3.rs (fun s hs => by cases hs)
  have hB3 := (hb1.trans (b2.mono hb1.size)).trans (b3.mono (by have := hb1.size; simp; omega))
  clear hb1 b2 b3 hO2 hO3
  go_wp2_with fail
  go_loopg [7, 9] l.length (fun gk t7 t9 wr => ∃ (i : Nat) (u7 : Value), i + gk = l.length ∧ t9 = .int .i64 i ∧ u7 = t7 ∧ Rs u7 (jnS (l.take i)) wr ∧ Rs (.slice (some ⟨w1.heap.size + 1, 0, none⟩) 0 0) [] wr ∧ Below w.heap.size w wr)
  case atStart => exact ⟨0, _, by omega, rfl, rfl, hR2, hR3, hB3⟩
  case round =>
    obtain ⟨i, u7, hi, rfl, rfl, hR7, hR8, hB⟩ := hrel
    clear hR2 hR3 hB3
    have i0 : (0 : Int) ≤ i := by omega
    by_cases hlt : (i : Int) < l.length
    · have hil : i < l.length := by omega
      rcases ha3 with ha3 | ⟨ga, offa, rfl, ha3⟩
      · omega
      clear ha3
      have c0 := fun w' (hb : Below w.heap.size w w') => (hA.below hb).at hil
      have hx := hBa _ (List.getElem_mem hil)
      have hst := jnS_take hil
      obtain ⟨u1, u2⟩ := jnS_ok (l.take i) (fun x hx => hBa x (List.mem_of_mem_take hx))
      rw [List.length_take] at u2
      generalize l[i] = x at *
      generalize jnS (l.take i) = M at *
      have hst : Hid (jnS (l.take (i + 1)) = joinS M [⟨x, x⟩]) := hst
      have hjo := joinM_ok M [⟨x, x⟩]
      have c1 := c0 _ hB
      have hwx : IntKind.u64.wrap x = x := by rw [IntKind.wrap_u64]; omega
      have b5 := below_alloc wr (.cells #[.int .u64 x, .int .u64 x] 51)
      have hU := Rs.one (Bx.new 51 x x wr) ⟨hx.1, by show x ≤ _; omega, hx.1, by show x ≤ _; omega⟩
      have b6 : Below (wr.alloc (.cells #[.int .u64 x, .int .u64 x] 51)).heap.size (wr.alloc (.cells #[.int .u64 x, .int .u64 x] 51)) (wr.alloc (.cells #[.int .u64 x, .int .u64 x] 51)).drew := ⟨rfl, rfl, rfl, Nat.le_refl _, fun _ _ => rfl⟩
      have hJ := fjoin_any _ _ M [⟨x, x⟩] _ ((hR7.below b5).below b6) (hU.below b6) (by omega) (by simp)
      have hR8' := (hR8.below b5).below b6
      have hB6 := (hB.trans (b5.mono hB.size)).trans (b6.mono (hB.trans (b5.mono hB.size)).size)
      have c3 := c0 _ hB6
      clear hU hR7 hR8 b6 u1 hBa hBt hA hT hb3
      go_wp2_with fail
      go_region_held3 (fun w' => w'.cell? ⟨ga, offa + i, none⟩ = some (.int .u8 x)) (first | exact c1 | exact c3 | exact c2 | fail) ((first
        | (go_at_call 22; refine hJ.mono ?_; rintro e w2 ⟨⟨v2, rfl, hO2⟩, hb2⟩; have hR2 := hO2.rs hjo; have hB2 := hB6.trans (hb2.mono hB6.size); have c2 := c0 _ hB2; have hR8 := hR8'.below hb2)))
      go_wp2_with fail
      go_roundg (gk - 1)
      case rel => exact ⟨i + 1, _, by omega, by go_num, rfl, by rw [hst.out]; exact hR2, hR8, hB2⟩
      case measure => omega
    · have ek : l.length ≤ i := by omega
      rw [List.take_of_length_le ek, HA.out] at hR7
      clear ha3 HA hA hBa
      have hR8 : Rs (.slice (some ⟨w1.heap.size + 1, 0, none⟩) 0 0) (jnS (t.take 0)) wr := hR8
      go_wp2_with fail
      clear hlt ek
      go_loopg [8, 10] t.length (fun gk t8 t10 wr => ∃ (i : Nat) (u8 : Value), i + gk = t.length ∧ t10 = .int .i64 i ∧ u8 = t8 ∧ Rs u8 (jnS (t.take i)) wr ∧ Rs u7 A wr ∧ Below w.heap.size w wr)
      case atStart => exact ⟨0, _, by omega, rfl, rfl, hR8, hR7, hB⟩
      case round =>
        clear hR7 hR8 hB i0 hi
        obtain ⟨i, u8, hi, rfl, rfl, hR7, hR8, hB⟩ := hrel
        have i0 : (0 : Int) ≤ i := by omega
        by_cases hlt : (i : Int) < t.length
        · have hil : i < t.length := by omega
          rcases hb3 with hb3 | ⟨ga, offa, rfl, hb3⟩
          · omega
          clear hb3
          have c0 := fun w' (hb : Below w.heap.size w w') => (hT.below hb).at hil
          have hx := hBt _ (List.getElem_mem hil)
          have hst := jnS_take hil
          obtain ⟨u1, u2⟩ := jnS_ok (t.take i) (fun x hx => hBt x (List.mem_of_mem_take hx))
          rw [List.length_take] at u2
          generalize t[i] = x at *
          generalize jnS (t.take i) = M at *
          have hst : Hid (jnS (t.take (i + 1)) = joinS M [⟨x, x⟩]) := hst
          have hjo := joinM_ok M [⟨x, x⟩]
          have c1 := c0 _ hB
          have hwx : IntKind.u64.wrap x = x := by rw [IntKind.wrap_u64]; omega
          have b5 := below_alloc wr (.cells #[.int .u64 x, .int .u64 x] 51)
          have hU := Rs.one (Bx.new 51 x x wr) ⟨hx.1, by show x ≤ _; omega, hx.1, by show x ≤ _; omega⟩
          have b6 : Below (wr.alloc (.cells #[.int .u64 x, .int .u64 x] 51)).heap.size (wr.alloc (.cells #[.int .u64 x, .int .u64 x] 51)) (wr.alloc (.cells #[.int .u64 x, .int .u64 x] 51)).drew := ⟨rfl, rfl, rfl, Nat.le_refl _, fun _ _ => rfl⟩
          have hJ := fjoin_any _ _ M [⟨x, x⟩] _ ((hR7.below b5).below b6) (hU.below b6) (by omega) (by simp)
          have hR8' := (hR8.below b5).below b6
          have hB6 := (hB.trans (b5.mono hB.size)).trans (b6.mono (hB.trans (b5.mono hB.size)).size)
          have c3 := c0 _ hB6
          clear hU hR7 hR8 b6 u1 hBt hT
          go_wp2_with fail
          go_region_held3 (fun w' => w'.cell? ⟨ga, offa + i, none⟩ = some (.int .u8 x)) (first | exact c1 | exact c3 | exact c2 | fail) ((first
            | (go_at_call 22; refine hJ.mono ?_; rintro e w2 ⟨⟨v2, rfl, hO2⟩, hb2⟩; have hR2 := hO2.rs hjo; have hB2 := hB6.trans (hb2.mono hB6.size); have c2 := c0 _ hB2; have hR8 := hR8'.below hb2)))
          go_wp2_with fail
          go_roundg (gk - 1)
          case rel => exact ⟨i + 1, _, by omega, by go_num, rfl, by rw [hst.out]; exact hR2, hR8, hB2⟩
          case measure => omega
        · have ek : t.length ≤ i := by omega
          rw [List.take_of_length_le ek, HC.out] at hR7
          clear hb3 HC hT hBt
          have hwn : IntKind.u64.wrap n = n := by rw [IntKind.wrap_u64]; omega
          have hwi : IntKind.i64.wrap n = n := by rw [IntKind.wrap_i64]; omega
          have hup := lackM_up (n := n) ha1 hc1
          have hle := lackM_le A C n
          have hat := fun k : Int => fun k0 : 0 ≤ k => lackM_at (n := n) ha1 hc1 k0
          have hfA := fun k => hasM_up ha1 k
          have hfC := fun k => hasM_up hc1 k
          have hmk := fun k => minusS_has hc1 ha1 k
          have hlo := lackM_ok A C n
          go_wp2_with fail
          refine (lack_any _ _ A C n _ hR8 hR7 (by omega) (by omega) n0 (by omega)).mono ?_
          rintro e w5 ⟨⟨v5, rfl, hO5⟩, hb5⟩
          have hR5 := hO5.rs hlo
          have hA5 := hR8.below hb5
          have hC5 := hR7.below hb5
          have hB5 := hB.trans (hb5.mono hB.size)
          clear hR8 hR7 hB hO5 hb5 hlo i0 hi
          obtain ⟨L, HL⟩ : ∃ L, Hid (lackM A C n = L) := ⟨_, rfl⟩
          rw [HL.out] at hup hle hR5
          rw [HL.out] at hat
          generalize minusS C A = M at *
          go_wp2_with fail
          go_loopg [12, 13, 14] 256 (fun gk t12 t13 t14 wr => ∃ k : Nat, k + gk = 256 ∧ t13 = .int .u64 k ∧ t12 = .int .i64 (cnt (hasS M) k) ∧ Rs v5 L wr ∧ Rs u7 A wr ∧ Rs u8 C wr ∧ Below w.heap.size w wr)
          case atStart => exact ⟨0, by omega, rfl, rfl, hR5, hA5, hC5, hB5⟩
          case round =>
            obtain ⟨k, hk, rfl, rfl, hL, hA, hC, hB⟩ := hrel
            clear hR5 hA5 hC5 hB5
            have k0 : (0 : Int) ≤ k := by omega
            by_cases hlt : (k : Int) < 256
            · have hcn := cnt_nonneg (hasS M) k
              have hcl := cnt_le (hasS M) k
              have hs : cnt (hasS M) (k + 1) = cnt (hasS M) k + (if (hasS C k && !hasS A k) then 1 else 0) := by
                simp only [cnt]; rw [hmk]
              have hLk := hat k k0
              rw [show ((k : Int)).toNat = k from rfl] at hLk
              have hCk := hfC k
              have hAk := hfA k
              obtain ⟨z, hz⟩ : ∃ z, cnt (hasS M) k = z := ⟨_, rfl⟩
              obtain ⟨z', hz'⟩ : ∃ z', Hid (cnt (hasS M) (k + 1) = z') := ⟨_, rfl⟩
              rw [hz] at hs hcn hcl hLk ⊢
              rw [hz'.out] at hs
              clear hz hat hmk hfA hfC
              have hwk : IntKind.u64.wrap ((k : Int) + 1) = (k : Int) + 1 := by rw [IntKind.wrap_u64]; omega
              cases hb : hasS C k
              case false =>
                rw [hb] at hs hLk hCk
                rw [show ((false && !hasS A k) && decide (z < n)) = false from rfl] at hLk
                rw [show (false && !hasS A k) = false from rfl, if_neg (by simp), Int.add_zero] at hs
                subst hs
                go_wp2_with fail
                refine (fhas_any _ C k _ hC (by omega)).mono ?_
                rw [hCk]
                rintro e w6 ⟨rfl, hb6⟩
                have hB6 := hB.trans (hb6.mono hB.size)
                go_wp2_with fail
                refine (fhas_any _ L k _ (hL.below hb6) (by omega)).mono ?_
                rw [hLk]
                rintro e w7 ⟨rfl, hb7⟩
                have hB7 := hB6.trans (hb7.mono hB6.size)
                go_wp2_with fail
                go_roundg (gk - 1)
                case rel => exact ⟨k + 1, by omega, by go_num, by rw [hz'.out], (hL.below hb6).below hb7, (hA.below hb6).below hb7, (hC.below hb6).below hb7, hB7⟩
                case measure => omega
              case true =>
                rw [hb] at hs hLk hCk
                cases ha : hasS A k
                case true =>
                  rw [ha] at hs hLk hAk
                  rw [show ((true && !true) && decide (z < n)) = false from rfl] at hLk
                  rw [show (true && !true) = false from rfl, if_neg (by simp), Int.add_zero] at hs
                  subst hs
                  go_wp2_with fail
                  refine (fhas_any _ C k _ hC (by omega)).mono ?_
                  rw [hCk]
                  rintro e w6 ⟨rfl, hb6⟩
                  have hB6 := hB.trans (hb6.mono hB.size)
                  go_wp2_with fail
                  refine (fhas_any _ A k _ (hA.below hb6) (by omega)).mono ?_
                  rw [hAk]
                  rintro e w7 ⟨rfl, hb7⟩
                  have hB7 := hB6.trans (hb7.mono hB6.size)
                  go_wp2_with fail
                  refine (fhas_any _ L k _ ((hL.below hb6).below hb7) (by omega)).mono ?_
                  rw [hLk]
                  rintro e w8 ⟨rfl, hb8⟩
                  have hB8 := hB7.trans (hb8.mono hB7.size)
                  go_wp2_with fail
                  go_roundg (gk - 1)
                  case rel => exact ⟨k + 1, by omega, by go_num, by rw [hz'.out], ((hL.below hb6).below hb7).below hb8, ((hA.below hb6).below hb7).below hb8, ((hC.below hb6).below hb7).below hb8, hB8⟩
                  case measure => omega
                case false =>
                  rw [ha] at hs hLk hAk
                  rw [show (true && !false) = true from rfl, Bool.true_and] at hLk
                  rw [show (true && !false) = true from rfl, if_pos rfl] at hs
                  cases hd : decide (z < n)
                  all_goals rw [hd] at hLk
                  all_goals go_wp2_with fail
                  all_goals refine (fhas_any _ C k _ hC (by omega)).mono ?_
                  all_goals rw [hCk]
                  all_goals rintro e w6 ⟨rfl, hb6⟩
                  all_goals have hB6 := hB.trans (hb6.mono hB.size)
                  all_goals go_wp2_with fail
                  all_goals refine (fhas_any _ A k _ (hA.below hb6) (by omega)).mono ?_
                  all_goals rw [hAk]
                  all_goals rintro e w7 ⟨rfl, hb7⟩
                  all_goals have hB7 := hB6.trans (hb7.mono hB6.size)
                  all_goals go_wp2_with fail
                  all_goals refine (fhas_any _ L k _ ((hL.below hb6).below hb7) (by omega)).mono ?_
                  all_goals rw [hLk]
                  all_goals rintro e w8 ⟨rfl, hb8⟩
                  all_goals have hB8 := hB7.trans (hb8.mono hB7.size)
                  all_goals go_wp2_with fail
                  all_goals go_roundg (gk - 1)
                  case rel => exact ⟨k + 1, by omega, by go_num, by rw [hz'.out, hs], ((hL.below hb6).below hb7).below hb8, ((hA.below hb6).below hb7).below hb8, ((hC.below hb6).below hb7).below hb8, hB8⟩
                  case measure => omega
                  case rel => exact ⟨k + 1, by omega, by go_num, by rw [hz'.out, hs], ((hL.below hb6).below hb7).below hb8, ((hA.below hb6).below hb7).below hb8, ((hC.below hb6).below hb7).below hb8, hB8⟩
                  case measure => omega
            · go_wp2_with fail
              refine (fmay_any _ L _ hL (by omega)).mono ?_
              rw [hup]
              rintro e w6 ⟨rfl, hb6⟩
              go_wp2_with fail
              go_ret
              exact ⟨rfl, hB.trans (hb6.mono hB.size)⟩
theorem lack_walk (a : Option Addr) (len cap : Nat) (l : List Int) (a' : Option Addr) (len' cap' : Nat) (t : List Int) (n : Int) (hn : (Lit.int .u8 n).wf = true) (w : World) (h1 : IsBytes w a len cap l) (h2 : IsBytes w a' len' cap' t) :
    Calls Try.prog 6 #[.slice a len cap, .slice a' len' cap', .int .u8 n] w fun e w' => e = .returned (.bool true) ∧ Below w.heap.size w w' :=
  lack_core _ _ l t n (u8_of hn).1 (u8_of hn).2 w h1.2.1 h1.2.2 h2.2.1 h2.2.2
end Go.Proofs.Ytlbeincgknmijaa
