/-
  The reference's Join.
-/
import Derived.Test.YtlbeincgknmijaaDgl
namespace Go.Proofs.Ytlbeincgknmijaa
open Go.RowKit

theorem mrg_done {a b : List Sn} {F i k : Nat} {M : List Sn} (h : ¬ (i < a.length ∨ k < b.length)) : mrg a b F i k M = M := by
  cases F with
  | zero => rfl
  | succ F => simp only [mrg]; rw [if_neg h]
theorem mrg_a {a b : List Sn} {F i k : Nat} {M : List Sn} (h : i < a.length) (hq : b.length ≤ k ∨ (el a i).f ≤ (el b k).f) : mrg a b (F + 1) i k M = mrg a b F (i + 1) k (M ++ [el a i]) := by
  simp only [mrg]; rw [if_pos (Or.inl h), if_pos (by rcases hq with hq | hq; exact Or.inl hq; exact Or.inr ⟨h, hq⟩)]
theorem mrg_b {a b : List Sn} {F i k : Nat} {M : List Sn} (h : k < b.length) (hq : ¬ (i < a.length ∧ (el a i).f ≤ (el b k).f)) : mrg a b (F + 1) i k M = mrg a b F i (k + 1) (M ++ [el b k]) := by
  simp only [mrg]; rw [if_pos (Or.inr h), if_neg (fun e => by rcases e with e | e; omega; exact hq e)]

set_option maxRecDepth 100000 in
set_option maxHeartbeats 4000000 in
theorem fjoin_any (va vb : Value) (a b : List Sn) (w : World) (hRa : Rs va a w) (hRb : Rs vb b w) (hla : a.length ≤ 100000) (hlb : b.length ≤ 100000) :
    Calls Try.prog 22 #[va, vb] w fun e w' => (∃ v, e = .returned v ∧ Ow w.heap.size v (joinS a b) w') ∧ Below w.heap.size w w' := by
  obtain ⟨⟨aa, acap, rfl, a1, a2, a3⟩, aok⟩ := id hRa
  obtain ⟨⟨ba, bcap, rfl, b1, b2, b3⟩, bok⟩ := id hRb
  unfold joinS
  cases hma : mayS a
  case false =>
    go_enter Try.func22, Try.ntmps22
    go_wp2_with fail
    refine (fmay_any _ a _ hRa (by omega)).mono ?_
    rw [hma]
    rintro e w2 ⟨rfl, hb⟩
    go_wp2_with fail
    go_ret
    exact ⟨⟨_, rfl, Ow.nil _ _⟩, hb⟩
  case true =>
    cases hmb : mayS b
    case false =>
      go_enter Try.func22, Try.ntmps22
      go_wp2_with fail
      refine (fmay_any _ a _ hRa (by omega)).mono ?_
      rw [hma]
      rintro e w2 ⟨rfl, hb⟩
      go_wp2_with fail
      refine (fmay_any _ b _ (hRb.below hb) (by omega)).mono ?_
      rw [hmb]
      rintro e w3 ⟨rfl, hb3⟩
      go_wp2_with fail
      go_ret
      exact ⟨⟨_, rfl, Ow.nil _ _⟩, hb.trans (hb3.mono hb.size)⟩
    case true =>
      have ha := (mayS_iff a).1 hma
      have hb := (mayS_iff b).1 hmb
      have hla' : (a.length : Int) ≤ 100000 := by omega
      have hlb' : (b.length : Int) ≤ 100000 := by omega
      obtain ⟨R, HR⟩ : ∃ R, Hid (mrgS a b = R) := ⟨_, rfl⟩
      have hjoin := glued_join ha hb
      have hinv := mrgS_inv ha hb
      rw [HR.out] at hjoin hinv
      rw [show (true && true) = true from rfl, if_pos rfl, ← hjoin]
      clear hjoin
      go_enter Try.func22, Try.ntmps22
      go_wp2_with fail
      refine (fmay_any _ a _ hRa (by omega)).mono ?_
      rw [hma]
      rintro e w2 ⟨rfl, hb2⟩
      go_wp2_with fail
      refine (fmay_any _ b _ (hRb.below hb2) (by omega)).mono ?_
      rw [hmb]
      rintro e w3 ⟨rfl, hb3⟩
      have hb3' := hb2.trans (hb3.mono hb2.size)
      have hOE := made_os (w := w3) hb3'.size
      have hBE := hb3'.trans ((below_alloc w3 (.cells #[] 51)).mono hb3'.size)
      clear hb2 hb3 hma hmb hb3'
      go_wp2_with fail
      go_loopg [5, 6, 7] (a.length + b.length) (fun gk t5 t6 t7 wr => ∃ (i k : Nat) (M : List Sn), a.length + b.length ≤ gk + i + k ∧ t6 = .int .i64 i ∧ t7 = .int .i64 k ∧ Hid (MInv a b i k M) ∧ Ow w.heap.size t5 M wr ∧ Hid (mrg a b gk i k M = R) ∧ Below w.heap.size w wr)
      case atStart => exact ⟨0, 0, [], by omega, rfl, rfl, MInv.start a b, hOE, HR, hBE⟩
      case round =>
        obtain ⟨i, k, M, hgk, rfl, rfl, hV, hO, hI, hB⟩ := hrel
        clear hBE hOE
        have hi := hV.out.ia
        have hk := hV.out.kb
        have hM := hV.out.len
        have hz := hB.size
        have i0 : (0 : Int) ≤ i := by omega
        have k0 : (0 : Int) ≤ k := by omega
        have i1 : (i : Int) ≤ 100000 := by omega
        have k1 : (k : Int) ≤ 100000 := by omega
        by_cases hia : i < a.length
        · obtain ⟨G, rfl⟩ : ∃ G, gk = G + 1 := ⟨gk - 1, by omega⟩
          rcases a3 with a3 | ⟨g, off, rfl, a3⟩
          · omega
          have zi : decide ((i : Int) < (a.length : Int)) = true := decide_eq_true (by omega)
          have ziN : decide (i < a.length) = true := decide_eq_true (by omega)
          by_cases hkb : k < b.length
          · rcases b3 with b3 | ⟨g', off', rfl, b3⟩
            · omega
            have zk : decide ((b.length : Int) ≤ (k : Int)) = false := decide_eq_false (by omega)
            have zkN : decide (b.length ≤ k) = false := decide_eq_false (by omega)
            have za : (i : Int) < (a.length : Int) := by omega
            have zb : (k : Int) < (b.length : Int) := by omega
            clear a3 b3
            by_cases q : (el a i).f ≤ (el b k).f
            · have zq : decide ((el a i).f ≤ (el b k).f) = true := decide_eq_true q
              have hV' := hV.out.stepA ha hia fun _ => q
              have hI' := hI.out
              rw [mrg_a hia (Or.inr q)] at hI'
              have kV : Hid (MInv a b (i + 1) k (M ++ [⟨(el a i).f, (el a i).t⟩])) := hV'
              have kI : Hid (mrg a b G (i + 1) k (M ++ [⟨(el a i).f, (el a i).t⟩]) = R) := hI'
              have hsn := aok _ (el_mem (show i < a.length by omega))
              have hRd : ∀ w' : World, Below w.heap.size w w' → w'.cell? ⟨g, off + i * 2, none⟩ = some (.int .u64 (el a i).f) ∧ w'.cell? ⟨g, off + i * 2 + 1, none⟩ = some (.int .u64 (el a i).t) := fun w' hb => (hRa.below hb).at (show i < a.length by omega)
              have hsn : SnOk ⟨(el a i).f, (el a i).t⟩ := hsn
              clear hV hI hV' hI' hinv
              obtain ⟨c0, _⟩ := hRd _ hB
              obtain ⟨y0, _⟩ := (hRb.below hB).at hkb
              generalize (el b k).f = f2 at *
              generalize (el a i).f = f at *
              generalize (el a i).t = t at *
              go_wp2_with fail
              go_quiet (fail)
              have hB1 := hB.trans (below_drewN w.heap.size wr nq)
              obtain ⟨d0, d1⟩ := hRd _ hB1
              have hO1 : Ow w.heap.size _ M (wr.drewN nq) := hO.keep fun _ _ _ => rfl
              clear hB hO hz hRd c0 y0
              generalize wr.drewN nq = w5 at *
              have b4 := below_alloc w5 (.cells #[.int .u64 f, .int .u64 t] 51)
              have hU := Rs.one (Bx.new 51 f t w5) hsn
              have hO4 := hO1.below b4
              have hB4 := hB1.trans (b4.mono hB1.size)
              have hz4 := hB4.size
              clear b4 hO1
              go_wp2_with (at_builtin; refine wpList_appS rfl (.tmp 50) (.tmp 55) rfl _ w.heap.size M rfl hO4 hz4 w5.heap.size 0 1 1 [⟨f, t⟩] rfl rfl hU (by simp; omega) ?_; intro v6 w6 hO6 h6)
              go_roundg G
              case rel => exact ⟨(i + 1), k, _, by omega, by go_num, by go_num, kV, hO6, kI, below_grown hB4 hO4 h6 hz4⟩
              case measure => omega
            · have zq : decide ((el a i).f ≤ (el b k).f) = false := decide_eq_false q
              have hV' := hV.out.stepB hb hkb fun _ => by omega
              have hI' := hI.out
              rw [mrg_b hkb (fun e => q e.2)] at hI'
              have kV : Hid (MInv a b i (k + 1) (M ++ [⟨(el b k).f, (el b k).t⟩])) := hV'
              have kI : Hid (mrg a b G i (k + 1) (M ++ [⟨(el b k).f, (el b k).t⟩]) = R) := hI'
              have hsn := bok _ (el_mem (show k < b.length by omega))
              have hRd : ∀ w' : World, Below w.heap.size w w' → w'.cell? ⟨g', off' + k * 2, none⟩ = some (.int .u64 (el b k).f) ∧ w'.cell? ⟨g', off' + k * 2 + 1, none⟩ = some (.int .u64 (el b k).t) := fun w' hb => (hRb.below hb).at (show k < b.length by omega)
              have hsn : SnOk ⟨(el b k).f, (el b k).t⟩ := hsn
              clear hV hI hV' hI' hinv
              obtain ⟨c0, _⟩ := hRd _ hB
              obtain ⟨y0, _⟩ := (hRa.below hB).at hia
              generalize (el a i).f = f2 at *
              generalize (el b k).f = f at *
              generalize (el b k).t = t at *
              go_wp2_with fail
              go_quiet (fail)
              have hB1 := hB.trans (below_drewN w.heap.size wr nq)
              obtain ⟨d0, d1⟩ := hRd _ hB1
              have hO1 : Ow w.heap.size _ M (wr.drewN nq) := hO.keep fun _ _ _ => rfl
              clear hB hO hz hRd c0 y0
              generalize wr.drewN nq = w5 at *
              have b4 := below_alloc w5 (.cells #[.int .u64 f, .int .u64 t] 51)
              have hU := Rs.one (Bx.new 51 f t w5) hsn
              have hO4 := hO1.below b4
              have hB4 := hB1.trans (b4.mono hB1.size)
              have hz4 := hB4.size
              clear b4 hO1
              go_wp2_with (at_builtin; refine wpList_appS rfl (.tmp 59) (.tmp 64) rfl _ w.heap.size M rfl hO4 hz4 w5.heap.size 0 1 1 [⟨f, t⟩] rfl rfl hU (by simp; omega) ?_; intro v6 w6 hO6 h6)
              go_roundg G
              case rel => exact ⟨i, (k + 1), _, by omega, by go_num, by go_num, kV, hO6, kI, below_grown hB4 hO4 h6 hz4⟩
              case measure => omega
          · have zk : decide ((b.length : Int) ≤ (k : Int)) = true := decide_eq_true (by omega)
            have zkN : decide (b.length ≤ k) = true := decide_eq_true (by omega)
            have za : (i : Int) < (a.length : Int) := by omega
            have hV' := hV.out.stepA ha hia fun e => absurd e hkb
            have hI' := hI.out
            rw [mrg_a hia (Or.inl (by omega))] at hI'
            clear a3
            have kV : Hid (MInv a b (i + 1) k (M ++ [⟨(el a i).f, (el a i).t⟩])) := hV'
            have kI : Hid (mrg a b G (i + 1) k (M ++ [⟨(el a i).f, (el a i).t⟩]) = R) := hI'
            have hsn := aok _ (el_mem (show i < a.length by omega))
            have hRd : ∀ w' : World, Below w.heap.size w w' → w'.cell? ⟨g, off + i * 2, none⟩ = some (.int .u64 (el a i).f) ∧ w'.cell? ⟨g, off + i * 2 + 1, none⟩ = some (.int .u64 (el a i).t) := fun w' hb => (hRa.below hb).at (show i < a.length by omega)
            have hsn : SnOk ⟨(el a i).f, (el a i).t⟩ := hsn
            clear hV hI hV' hI' hinv
            generalize (el a i).f = f at *
            generalize (el a i).t = t at *
            go_wp2_with fail
            go_quiet (fail)
            have hB1 := hB.trans (below_drewN w.heap.size wr nq)
            obtain ⟨d0, d1⟩ := hRd _ hB1
            have hO1 : Ow w.heap.size _ M (wr.drewN nq) := hO.keep fun _ _ _ => rfl
            clear hB hO hz hRd 
            generalize wr.drewN nq = w5 at *
            have b4 := below_alloc w5 (.cells #[.int .u64 f, .int .u64 t] 51)
            have hU := Rs.one (Bx.new 51 f t w5) hsn
            have hO4 := hO1.below b4
            have hB4 := hB1.trans (b4.mono hB1.size)
            have hz4 := hB4.size
            clear b4 hO1
            go_wp2_with (at_builtin; refine wpList_appS rfl (.tmp 50) (.tmp 55) rfl _ w.heap.size M rfl hO4 hz4 w5.heap.size 0 1 1 [⟨f, t⟩] rfl rfl hU (by simp; omega) ?_; intro v6 w6 hO6 h6)
            go_roundg G
            case rel => exact ⟨(i + 1), k, _, by omega, by go_num, by go_num, kV, hO6, kI, below_grown hB4 hO4 h6 hz4⟩
            case measure => omega
        · have zi : decide ((i : Int) < (a.length : Int)) = false := decide_eq_false (by omega)
          have ziN : decide (i < a.length) = false := decide_eq_false (by omega)
          by_cases hkb : k < b.length
          · obtain ⟨G, rfl⟩ : ∃ G, gk = G + 1 := ⟨gk - 1, by omega⟩
            rcases b3 with b3 | ⟨g', off', rfl, b3⟩
            · omega
            have zk : decide ((b.length : Int) ≤ (k : Int)) = false := decide_eq_false (by omega)
            have zkN : decide (b.length ≤ k) = false := decide_eq_false (by omega)
            have zk2 : decide ((k : Int) < (b.length : Int)) = true := decide_eq_true (by omega)
            have zk2N : decide (k < b.length) = true := decide_eq_true (by omega)
            have zb : (k : Int) < (b.length : Int) := by omega
            have hV' := hV.out.stepB hb hkb fun e => absurd e hia
            have hI' := hI.out
            rw [mrg_b hkb (fun e => hia e.1)] at hI'
            clear b3
            have kV : Hid (MInv a b i (k + 1) (M ++ [⟨(el b k).f, (el b k).t⟩])) := hV'
            have kI : Hid (mrg a b G i (k + 1) (M ++ [⟨(el b k).f, (el b k).t⟩]) = R) := hI'
            have hsn := bok _ (el_mem (show k < b.length by omega))
            have hRd : ∀ w' : World, Below w.heap.size w w' → w'.cell? ⟨g', off' + k * 2, none⟩ = some (.int .u64 (el b k).f) ∧ w'.cell? ⟨g', off' + k * 2 + 1, none⟩ = some (.int .u64 (el b k).t) := fun w' hb => (hRb.below hb).at (show k < b.length by omega)
            have hsn : SnOk ⟨(el b k).f, (el b k).t⟩ := hsn
            clear hV hI hV' hI' hinv
            generalize (el b k).f = f at *
            generalize (el b k).t = t at *
            go_wp2_with fail
            go_quiet (fail)
            have hB1 := hB.trans (below_drewN w.heap.size wr nq)
            obtain ⟨d0, d1⟩ := hRd _ hB1
            have hO1 : Ow w.heap.size _ M (wr.drewN nq) := hO.keep fun _ _ _ => rfl
            clear hB hO hz hRd 
            generalize wr.drewN nq = w5 at *
            have b4 := below_alloc w5 (.cells #[.int .u64 f, .int .u64 t] 51)
            have hU := Rs.one (Bx.new 51 f t w5) hsn
            have hO4 := hO1.below b4
            have hB4 := hB1.trans (b4.mono hB1.size)
            have hz4 := hB4.size
            clear b4 hO1
            go_wp2_with (at_builtin; refine wpList_appS rfl (.tmp 59) (.tmp 64) rfl _ w.heap.size M rfl hO4 hz4 w5.heap.size 0 1 1 [⟨f, t⟩] rfl rfl hU (by simp; omega) ?_; intro v6 w6 hO6 h6)
            go_roundg G
            case rel => exact ⟨i, (k + 1), _, by omega, by go_num, by go_num, kV, hO6, kI, below_grown hB4 hO4 h6 hz4⟩
            case measure => omega
          · have zk2 : decide ((k : Int) < (b.length : Int)) = false := decide_eq_false (by omega)
            have zk2N : decide (k < b.length) = false := decide_eq_false (by omega)
            have hI' := hI.out
            rw [mrg_done (by omega)] at hI'
            subst hI'
            have hrs := hO.rs fun s hs => by
              have := hinv.ok s hs
              exact ⟨by omega, by omega, by omega, by omega⟩
            have hgl := glued_any _ M wr hrs (by omega) hinv.ok hinv.srt
            clear hV hI
            go_wp2_with fail
            refine hgl.mono ?_
            rintro e w6 ⟨⟨g6, c6, rfl, hO6⟩, hb6⟩
            go_wp2_with fail
            go_ret
            refine ⟨⟨_, rfl, ⟨hO6.1, ?_⟩⟩, hB.trans (hb6.mono hz)⟩
            rcases hO6.2 with h | ⟨g7, c7, cur, e, h7, rest⟩
            · exact Or.inl h
            · exact Or.inr ⟨g7, c7, cur, e, Nat.le_trans hz h7, rest⟩
end Go.Proofs.Ytlbeincgknmijaa
