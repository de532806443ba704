/-
  The walk over two lists' ends; Join, Minus.
-/
import Derived.Test.YtlbeincgknmijaaDen
import Derived.WalkMore
namespace Go.Proofs.Ytlbeincgknmijaa
open Go.RowKit

theorem wlk_done {f : Bool → Bool → Bool} {a b : List Sn} {F i k : Nat} {fr : Int} {wi : Bool} {M : List Sn} (h : 2 * a.length ≤ i ∧ 2 * b.length ≤ k) : wlk f a b F i k fr wi M = M := by
  cases F with
  | zero => rfl
  | succ F => simp only [wlk]; rw [if_pos h]
theorem wlk_go {f : Bool → Bool → Bool} {a b : List Sn} {F i k i' k' : Nat} {q fr : Int} {wi : Bool} {M : List Sn} (h : ¬ (2 * a.length ≤ i ∧ 2 * b.length ≤ k)) (hn : nxt a b i k = (q, i', k')) :
    (f (odd i') (odd k') = true → wlk f a b (F + 1) i k fr wi M = wlk f a b F i' k' (if wi then fr else q) true M) ∧
    (f (odd i') (odd k') = false → wlk f a b (F + 1) i k fr wi M = wlk f a b F i' k' fr false (if wi then M ++ [⟨fr, q - 1⟩] else M)) := by
  simp only [wlk]
  rw [if_neg h, hn]
  exact ⟨fun e => by rw [if_pos e], fun e => by rw [if_neg (by rw [e]; exact Bool.false_ne_true)]⟩
theorem wlk_next {f : Bool → Bool → Bool} {a b : List Sn} {i k i' k' : Nat} {q fr : Int} {wi : Bool} {M : List Sn} (ha : Up 0 a) (hb : Up 0 b) (hI : ∃ p, Inv f a b i k fr wi M p) (h : ¬ (2 * a.length ≤ i ∧ 2 * b.length ≤ k)) (hn : nxt a b i k = (q, i', k')) :
    0 ≤ q ∧ q ≤ 18446744073709551615 ∧ (wi = true → 0 ≤ fr ∧ fr < q) ∧
    (f (odd i') (odd k') = true → ∃ p, Inv f a b i' k' (if wi then fr else q) true M p) ∧
    (f (odd i') (odd k') = false → ∃ p, Inv f a b i' k' fr false (if wi then M ++ [⟨fr, q - 1⟩] else M) p) := by
  obtain ⟨p, hI⟩ := hI
  have key := nxt_ok ha hb hI.ai hI.bk h hI.alo hI.ahi hI.blo hI.bhi
  rw [hn] at key
  obtain ⟨n1, n2, n3, n4, n5, n6, n7, n8, n9, n10, n11, n12, n13, n14⟩ := key
  obtain ⟨s1, s2⟩ := hI.step ha hb n1 n2 n3 n6 n7 n8 n9 n10 n11 n12 n13 n14
  exact ⟨n2, n3, fun hw => by have := hI.hfr hw; have n1 : p < q := n1; omega, fun e => ⟨_, s1 e⟩, fun e => ⟨_, s2 e⟩⟩
theorem mod_odd (i : Nat) : (((i : Int) % 2) == 1) = odd i := by
  unfold odd
  rcases Nat.mod_two_eq_zero_or_one i with h | h
  · rw [h, show ((i : Int) % 2) = 0 by omega]; rfl
  · rw [h, show ((i : Int) % 2) = 1 by omega]; rfl
theorem mod_odd' (i : Nat) : ((((i : Int) + 1) % 2) == 1) = odd (i + 1) := by rw [← mod_odd]; rfl

set_option maxRecDepth 100000 in
set_option maxHeartbeats 4000000 in
theorem walk_any (va vb : Value) (a b : List Sn) (F : FuncId) (f : Bool → Bool → Bool) (w : World) (hRa : Rs va a w) (hRb : Rs vb b w) (hla : a.length ≤ 100000) (hlb : b.length ≤ 100000)
    (hF : ∀ args w', (callFunc F args).run Try.prog w' = .ok (.enter F args) w')
    (hcl : ∀ (x y : Bool) (w' : World), Calls Try.prog F #[.bool x, .bool y] w' fun e w'' => e = .returned (.bool (f x y)) ∧ w'' = w') (hf : f false false = false) :
    Calls Try.prog 49 #[va, vb, .func (.func F) #[] #[]] w fun e w' => (∃ v, e = .returned v ∧ Ow w.heap.size v (if mayS a && mayS b then walkS f a b else []) w') ∧ Below w.heap.size w w' := by
  cases hma : mayS a
  case false =>
    go_enter Try.func49, Try.ntmps49
    go_wp2_with fail
    go_step3
    go_wp2_with fail
    refine (may_any _ a _ hRa (by omega)).mono ?_
    rw [hma]
    rintro e w2 ⟨rfl, hb⟩
    go_wp2_with fail
    rw [Exit.noGoto_ret]
    go_ret
    exact ⟨⟨_, rfl, Ow.nil _ _⟩, hb⟩
  case true =>
    cases hmb : mayS b
    case false =>
      go_enter Try.func49, Try.ntmps49
      go_wp2_with fail
      go_step3
      go_wp2_with fail
      refine (may_any _ a _ hRa (by omega)).mono ?_
      rw [hma]
      rintro e w2 ⟨rfl, hb⟩
      go_wp2_with fail
      refine (may_any _ b _ (hRb.below hb) (by omega)).mono ?_
      rw [hmb]
      rintro e w3 ⟨rfl, hb3⟩
      go_wp2_with fail
      rw [Exit.noGoto_ret]
      go_ret
      exact ⟨⟨_, rfl, Ow.nil _ _⟩, hb.trans (hb3.mono hb.size)⟩
    case true =>
      have ha := (mayS_iff a).1 hma
      have hb := (mayS_iff b).1 hmb
      obtain ⟨R, HR⟩ : ∃ R, Hid (walkS f a b = R) := ⟨_, rfl⟩
      rw [show (true && true) = true from rfl, if_pos rfl, HR.out]
      go_enter Try.func49, Try.ntmps49
      go_wp2_with fail
      go_step3
      go_wp2_with fail
      refine (may_any _ a _ hRa (by omega)).mono ?_
      rw [hma]
      rintro e w2 ⟨rfl, hb2⟩
      go_wp2_with fail
      refine (may_any _ b _ (hRb.below hb2) (by omega)).mono ?_
      rw [hmb]
      rintro e w3 ⟨rfl, hb3⟩
      have hb3' := hb2.trans (hb3.mono hb2.size)
      clear hb2 hb3 hma hmb
      go_wp2_with fail
      go_step3
      go_wp2_with fail
      go_loopg [7, 8, 9, 10, 11] (2 * a.length + 2 * b.length) (fun gk t7 t8 t9 t10 t11 wr => ∃ (i k : Nat) (fr : Int) (wi : Bool) (M : List Sn), 2 * a.length + 2 * b.length ≤ gk + i + k ∧ t9 = .int .i64 i ∧ t10 = .int .i64 k ∧ t8 = .int .u64 fr ∧ t11 = .bool wi ∧ Hid (∃ p, Inv f a b i k fr wi M p) ∧ Ow w.heap.size t7 M wr ∧ Hid (wlk f a b gk i k fr wi M = R) ∧ Below w.heap.size w wr)
      case atStart => exact ⟨0, 0, 0, false, [], by omega, rfl, rfl, rfl, rfl, ⟨_, Inv.start hf ha hb⟩, Ow.nil _ _, HR, hb3'⟩
      case round =>
        obtain ⟨i, k, fr, wi, M, hgk, rfl, rfl, rfl, rfl, hV, hO, hI, hB⟩ := hrel
        clear hb3'
        have hi : i ≤ 2 * a.length := by obtain ⟨p, hp⟩ := hV.out; exact hp.ai
        have hk : k ≤ 2 * b.length := by obtain ⟨p, hp⟩ := hV.out; exact hp.bk
        have hM : M.length ≤ i + k := by obtain ⟨p, hp⟩ := hV.out; have := hp.len; omega
        have hRa1 := hRa.below hB
        have hRb1 := hRb.below hB
        have hz := hB.size
        have i0 : (0 : Int) ≤ i := by omega
        have k0 : (0 : Int) ≤ k := by omega
        have i1 : (i : Int) ≤ 200000 := by omega
        have k1 : (k : Int) ≤ 200000 := by omega
        by_cases hd : 2 * a.length ≤ i ∧ 2 * b.length ≤ k
        · have hI' := hI.out
          rw [wlk_done hd] at hI'
          subst hI'
          have ea := end_none _ a i wr hRa1 (by omega) hd.1 (by omega)
          have eb := end_none _ b k wr hRb1 (by omega) hd.2 (by omega)
          go_wp2_with fail
          refine ea.mono ?_
          rintro e w4 ⟨rfl, rfl⟩
          go_wp2_with fail
          refine eb.mono ?_
          rintro e w4 ⟨rfl, rfl⟩
          go_wp2_with fail
          rw [Exit.noGoto_ret]
          go_ret
          exact ⟨⟨_, rfl, hO⟩, hB⟩
        · obtain ⟨G, rfl⟩ : ∃ G, gk = G + 1 := ⟨gk - 1, by omega⟩
          have hI := hI.out
          have hV := hV.out
          by_cases ca : 2 * a.length ≤ i
          · have hkb : k < 2 * b.length := by omega
            have hn : nxt a b i k = (E b k, i, k + 1) := by unfold nxt; rw [if_pos (Or.inl ca)]
            have ea := end_none _ a i wr hRa1 (by omega) ca (by omega)
            have eb := end_some _ b k wr hRb1 (by omega) hb hkb
            obtain ⟨g1, g2⟩ := wlk_go (f := f) (F := G) (fr := fr) (wi := wi) (M := M) hd hn
            obtain ⟨hq0, hq1, hfr, hv1, hv2⟩ := wlk_next ha hb hV hd hn
            clear hV hn
            have oa : ((i : Int) % 2 == 1) = odd i := mod_odd i
            have ok : (((k : Int) + 1) % 2 == 1) = odd (k + 1) := mod_odd' k
            generalize odd i = x at *
            generalize odd (k + 1) = y at *
            generalize E b k = q at *
            cases hzz : f x y
            case false =>
              have kg := g2 hzz
              have kV0 := hv2 hzz
              rw [kg] at hI
              clear g1 g2 hv1 hv2 kg
              cases wi
              case false =>
                have kI : Hid (wlk f a b G i (k + 1) fr false M = R) := hI
                have kV : Hid (∃ p, Inv f a b i (k + 1) fr false M p) := kV0
                clear hI kV0
                go_wp2_with fail
                refine ea.mono ?_
                rintro e w4 ⟨rfl, rfl⟩
                go_wp2_with fail
                refine eb.mono ?_
                rintro e w4 ⟨rfl, rfl⟩
                go_wp2_with fail
                refine (hcl x y _).mono ?_
                rw [hzz]
                rintro e w4 ⟨rfl, rfl⟩
                go_wp2_with fail
                go_roundg G
                case rel => exact ⟨i, (k + 1), fr, false, M, by omega, by go_num, by go_num, rfl, rfl, kV, hO, kI, hB⟩
                case measure => omega
              case true =>
                obtain ⟨f0, f1⟩ := hfr rfl
                have kI : Hid (wlk f a b G i (k + 1) fr false (M ++ [⟨fr, q - 1⟩]) = R) := hI
                have kV : Hid (∃ p, Inv f a b i (k + 1) fr false (M ++ [⟨fr, q - 1⟩]) p) := kV0
                clear hI kV0
                have b1 := below_alloc wr (.cells #[.int .u64 fr, .int .u64 (q - 1)] 51)
                have hB1 := hB.trans (b1.mono hz)
                have hO1 := hO.below b1
                have hU := Rs.one (Bx.new 51 fr (q - 1) wr) ⟨f0, by show fr ≤ _; omega, by show 0 ≤ q - 1; omega, by show q - 1 ≤ _; omega⟩
                have hz1 := hB1.size
                clear b1 hfr
                go_wp2_with fail
                refine ea.mono ?_
                rintro e w4 ⟨rfl, rfl⟩
                go_wp2_with fail
                refine eb.mono ?_
                rintro e w4 ⟨rfl, rfl⟩
                go_wp2_with fail
                refine (hcl x y _).mono ?_
                rw [hzz]
                rintro e w4 ⟨rfl, rfl⟩
                go_wp2_with (at_builtin; refine wpList_appS rfl (.tmp 91) (.tmp 96) rfl _ w.heap.size M rfl hO1 hz1 w4.heap.size 0 1 1 [⟨fr, q - 1⟩] rfl rfl hU (by simp; omega) ?_; intro v' w' h1 h3)
                have hB2 := below_grown hB1 hO1 h3 hz1
                go_roundg G
                case rel => exact ⟨i, (k + 1), fr, false, M ++ [⟨fr, q - 1⟩], by omega, by go_num, by go_num, rfl, rfl, kV, h1, kI, hB2⟩
                case measure => omega
            case true =>
              have kg := g1 hzz
              have kV0 := hv1 hzz
              rw [kg] at hI
              clear g1 g2 hv1 hv2 kg
              cases wi
              case false =>
                have kI : Hid (wlk f a b G i (k + 1) q true M = R) := hI
                have kV : Hid (∃ p, Inv f a b i (k + 1) q true M p) := kV0
                clear hI kV0
                go_wp2_with fail
                refine ea.mono ?_
                rintro e w4 ⟨rfl, rfl⟩
                go_wp2_with fail
                refine eb.mono ?_
                rintro e w4 ⟨rfl, rfl⟩
                go_wp2_with fail
                refine (hcl x y _).mono ?_
                rw [hzz]
                rintro e w4 ⟨rfl, rfl⟩
                go_wp2_with fail
                go_roundg G
                case rel => exact ⟨i, (k + 1), q, true, M, by omega, by go_num, by go_num, rfl, rfl, kV, hO, kI, hB⟩
                case measure => omega
              case true =>
                have kI : Hid (wlk f a b G i (k + 1) fr true M = R) := hI
                have kV : Hid (∃ p, Inv f a b i (k + 1) fr true M p) := kV0
                clear hI kV0
                go_wp2_with fail
                refine ea.mono ?_
                rintro e w4 ⟨rfl, rfl⟩
                go_wp2_with fail
                refine eb.mono ?_
                rintro e w4 ⟨rfl, rfl⟩
                go_wp2_with fail
                refine (hcl x y _).mono ?_
                rw [hzz]
                rintro e w4 ⟨rfl, rfl⟩
                go_wp2_with fail
                go_roundg G
                case rel => exact ⟨i, (k + 1), fr, true, M, by omega, by go_num, by go_num, rfl, rfl, kV, hO, kI, hB⟩
                case measure => omega
          · have hia : i < 2 * a.length := by omega
            have ea := end_some _ a i wr hRa1 (by omega) ha hia
            by_cases cb : 2 * b.length ≤ k
            · have hn : nxt a b i k = (E a i, i + 1, k) := by unfold nxt; rw [if_neg (by omega), if_pos (Or.inl cb)]
              have eb := end_none _ b k wr hRb1 (by omega) cb (by omega)
              obtain ⟨g1, g2⟩ := wlk_go (f := f) (F := G) (fr := fr) (wi := wi) (M := M) hd hn
              obtain ⟨hq0, hq1, hfr, hv1, hv2⟩ := wlk_next ha hb hV hd hn
              clear hV hn
              have oa : (((i : Int) + 1) % 2 == 1) = odd (i + 1) := mod_odd' i
              have ok : ((k : Int) % 2 == 1) = odd k := mod_odd k
              generalize odd (i + 1) = x at *
              generalize odd k = y at *
              generalize E a i = q at *
              cases hzz : f x y
              case false =>
                have kg := g2 hzz
                have kV0 := hv2 hzz
                rw [kg] at hI
                clear g1 g2 hv1 hv2 kg
                cases wi
                case false =>
                  have kI : Hid (wlk f a b G (i + 1) k fr false M = R) := hI
                  have kV : Hid (∃ p, Inv f a b (i + 1) k fr false M p) := kV0
                  clear hI kV0
                  go_wp2_with fail
                  refine ea.mono ?_
                  rintro e w4 ⟨rfl, rfl⟩
                  go_wp2_with fail
                  refine eb.mono ?_
                  rintro e w4 ⟨rfl, rfl⟩
                  go_wp2_with fail
                  refine (hcl x y _).mono ?_
                  rw [hzz]
                  rintro e w4 ⟨rfl, rfl⟩
                  go_wp2_with fail
                  go_roundg G
                  case rel => exact ⟨(i + 1), k, fr, false, M, by omega, by go_num, by go_num, rfl, rfl, kV, hO, kI, hB⟩
                  case measure => omega
                case true =>
                  obtain ⟨f0, f1⟩ := hfr rfl
                  have kI : Hid (wlk f a b G (i + 1) k fr false (M ++ [⟨fr, q - 1⟩]) = R) := hI
                  have kV : Hid (∃ p, Inv f a b (i + 1) k fr false (M ++ [⟨fr, q - 1⟩]) p) := kV0
                  clear hI kV0
                  have b1 := below_alloc wr (.cells #[.int .u64 fr, .int .u64 (q - 1)] 51)
                  have hB1 := hB.trans (b1.mono hz)
                  have hO1 := hO.below b1
                  have hU := Rs.one (Bx.new 51 fr (q - 1) wr) ⟨f0, by show fr ≤ _; omega, by show 0 ≤ q - 1; omega, by show q - 1 ≤ _; omega⟩
                  have hz1 := hB1.size
                  clear b1 hfr
                  go_wp2_with fail
                  refine ea.mono ?_
                  rintro e w4 ⟨rfl, rfl⟩
                  go_wp2_with fail
                  refine eb.mono ?_
                  rintro e w4 ⟨rfl, rfl⟩
                  go_wp2_with fail
                  refine (hcl x y _).mono ?_
                  rw [hzz]
                  rintro e w4 ⟨rfl, rfl⟩
                  go_wp2_with (at_builtin; refine wpList_appS rfl (.tmp 91) (.tmp 96) rfl _ w.heap.size M rfl hO1 hz1 w4.heap.size 0 1 1 [⟨fr, q - 1⟩] rfl rfl hU (by simp; omega) ?_; intro v' w' h1 h3)
                  have hB2 := below_grown hB1 hO1 h3 hz1
                  go_roundg G
                  case rel => exact ⟨(i + 1), k, fr, false, M ++ [⟨fr, q - 1⟩], by omega, by go_num, by go_num, rfl, rfl, kV, h1, kI, hB2⟩
                  case measure => omega
              case true =>
                have kg := g1 hzz
                have kV0 := hv1 hzz
                rw [kg] at hI
                clear g1 g2 hv1 hv2 kg
                cases wi
                case false =>
                  have kI : Hid (wlk f a b G (i + 1) k q true M = R) := hI
                  have kV : Hid (∃ p, Inv f a b (i + 1) k q true M p) := kV0
                  clear hI kV0
                  go_wp2_with fail
                  refine ea.mono ?_
                  rintro e w4 ⟨rfl, rfl⟩
                  go_wp2_with fail
                  refine eb.mono ?_
                  rintro e w4 ⟨rfl, rfl⟩
                  go_wp2_with fail
                  refine (hcl x y _).mono ?_
                  rw [hzz]
                  rintro e w4 ⟨rfl, rfl⟩
                  go_wp2_with fail
                  go_roundg G
                  case rel => exact ⟨(i + 1), k, q, true, M, by omega, by go_num, by go_num, rfl, rfl, kV, hO, kI, hB⟩
                  case measure => omega
                case true =>
                  have kI : Hid (wlk f a b G (i + 1) k fr true M = R) := hI
                  have kV : Hid (∃ p, Inv f a b (i + 1) k fr true M p) := kV0
                  clear hI kV0
                  go_wp2_with fail
                  refine ea.mono ?_
                  rintro e w4 ⟨rfl, rfl⟩
                  go_wp2_with fail
                  refine eb.mono ?_
                  rintro e w4 ⟨rfl, rfl⟩
                  go_wp2_with fail
                  refine (hcl x y _).mono ?_
                  rw [hzz]
                  rintro e w4 ⟨rfl, rfl⟩
                  go_wp2_with fail
                  go_roundg G
                  case rel => exact ⟨(i + 1), k, fr, true, M, by omega, by go_num, by go_num, rfl, rfl, kV, hO, kI, hB⟩
                  case measure => omega
            · have hkb : k < 2 * b.length := by omega
              have eb := end_some _ b k wr hRb1 (by omega) hb hkb
              by_cases c1 : E b k < E a i
              · have hn : nxt a b i k = (E b k, i, k + 1) := by unfold nxt; rw [if_pos (Or.inr ⟨hkb, c1⟩)]
                have z1 : decide (E b k < E a i) = true := decide_eq_true c1
                obtain ⟨g1, g2⟩ := wlk_go (f := f) (F := G) (fr := fr) (wi := wi) (M := M) hd hn
                obtain ⟨hq0, hq1, hfr, hv1, hv2⟩ := wlk_next ha hb hV hd hn
                clear hV hn
                have oa : ((i : Int) % 2 == 1) = odd i := mod_odd i
                have ok : (((k : Int) + 1) % 2 == 1) = odd (k + 1) := mod_odd' k
                generalize odd i = x at *
                generalize odd (k + 1) = y at *
                generalize E b k = q at *
                generalize E a i = q2 at *
                cases hzz : f x y
                case false =>
                  have kg := g2 hzz
                  have kV0 := hv2 hzz
                  rw [kg] at hI
                  clear g1 g2 hv1 hv2 kg
                  cases wi
                  case false =>
                    have kI : Hid (wlk f a b G i (k + 1) fr false M = R) := hI
                    have kV : Hid (∃ p, Inv f a b i (k + 1) fr false M p) := kV0
                    clear hI kV0
                    go_wp2_with fail
                    refine ea.mono ?_
                    rintro e w4 ⟨rfl, rfl⟩
                    go_wp2_with fail
                    refine eb.mono ?_
                    rintro e w4 ⟨rfl, rfl⟩
                    go_wp2_with fail
                    refine (hcl x y _).mono ?_
                    rw [hzz]
                    rintro e w4 ⟨rfl, rfl⟩
                    go_wp2_with fail
                    go_roundg G
                    case rel => exact ⟨i, (k + 1), fr, false, M, by omega, by go_num, by go_num, rfl, rfl, kV, hO, kI, hB⟩
                    case measure => omega
                  case true =>
                    obtain ⟨f0, f1⟩ := hfr rfl
                    have kI : Hid (wlk f a b G i (k + 1) fr false (M ++ [⟨fr, q - 1⟩]) = R) := hI
                    have kV : Hid (∃ p, Inv f a b i (k + 1) fr false (M ++ [⟨fr, q - 1⟩]) p) := kV0
                    clear hI kV0
                    have b1 := below_alloc wr (.cells #[.int .u64 fr, .int .u64 (q - 1)] 51)
                    have hB1 := hB.trans (b1.mono hz)
                    have hO1 := hO.below b1
                    have hU := Rs.one (Bx.new 51 fr (q - 1) wr) ⟨f0, by show fr ≤ _; omega, by show 0 ≤ q - 1; omega, by show q - 1 ≤ _; omega⟩
                    have hz1 := hB1.size
                    clear b1 hfr
                    go_wp2_with fail
                    refine ea.mono ?_
                    rintro e w4 ⟨rfl, rfl⟩
                    go_wp2_with fail
                    refine eb.mono ?_
                    rintro e w4 ⟨rfl, rfl⟩
                    go_wp2_with fail
                    refine (hcl x y _).mono ?_
                    rw [hzz]
                    rintro e w4 ⟨rfl, rfl⟩
                    go_wp2_with (at_builtin; refine wpList_appS rfl (.tmp 91) (.tmp 96) rfl _ w.heap.size M rfl hO1 hz1 w4.heap.size 0 1 1 [⟨fr, q - 1⟩] rfl rfl hU (by simp; omega) ?_; intro v' w' h1 h3)
                    have hB2 := below_grown hB1 hO1 h3 hz1
                    go_roundg G
                    case rel => exact ⟨i, (k + 1), fr, false, M ++ [⟨fr, q - 1⟩], by omega, by go_num, by go_num, rfl, rfl, kV, h1, kI, hB2⟩
                    case measure => omega
                case true =>
                  have kg := g1 hzz
                  have kV0 := hv1 hzz
                  rw [kg] at hI
                  clear g1 g2 hv1 hv2 kg
                  cases wi
                  case false =>
                    have kI : Hid (wlk f a b G i (k + 1) q true M = R) := hI
                    have kV : Hid (∃ p, Inv f a b i (k + 1) q true M p) := kV0
                    clear hI kV0
                    go_wp2_with fail
                    refine ea.mono ?_
                    rintro e w4 ⟨rfl, rfl⟩
                    go_wp2_with fail
                    refine eb.mono ?_
                    rintro e w4 ⟨rfl, rfl⟩
                    go_wp2_with fail
                    refine (hcl x y _).mono ?_
                    rw [hzz]
                    rintro e w4 ⟨rfl, rfl⟩
                    go_wp2_with fail
                    go_roundg G
                    case rel => exact ⟨i, (k + 1), q, true, M, by omega, by go_num, by go_num, rfl, rfl, kV, hO, kI, hB⟩
                    case measure => omega
                  case true =>
                    have kI : Hid (wlk f a b G i (k + 1) fr true M = R) := hI
                    have kV : Hid (∃ p, Inv f a b i (k + 1) fr true M p) := kV0
                    clear hI kV0
                    go_wp2_with fail
                    refine ea.mono ?_
                    rintro e w4 ⟨rfl, rfl⟩
                    go_wp2_with fail
                    refine eb.mono ?_
                    rintro e w4 ⟨rfl, rfl⟩
                    go_wp2_with fail
                    refine (hcl x y _).mono ?_
                    rw [hzz]
                    rintro e w4 ⟨rfl, rfl⟩
                    go_wp2_with fail
                    go_roundg G
                    case rel => exact ⟨i, (k + 1), fr, true, M, by omega, by go_num, by go_num, rfl, rfl, kV, hO, kI, hB⟩
                    case measure => omega
              · by_cases c2 : E a i < E b k
                · have hn : nxt a b i k = (E a i, i + 1, k) := by unfold nxt; rw [if_neg (by omega), if_pos (Or.inr c2)]
                  have z1 : decide (E b k < E a i) = false := decide_eq_false c1
                  have z2 : decide (E a i < E b k) = true := decide_eq_true c2
                  obtain ⟨g1, g2⟩ := wlk_go (f := f) (F := G) (fr := fr) (wi := wi) (M := M) hd hn
                  obtain ⟨hq0, hq1, hfr, hv1, hv2⟩ := wlk_next ha hb hV hd hn
                  clear hV hn
                  have oa : (((i : Int) + 1) % 2 == 1) = odd (i + 1) := mod_odd' i
                  have ok : ((k : Int) % 2 == 1) = odd k := mod_odd k
                  generalize odd (i + 1) = x at *
                  generalize odd k = y at *
                  generalize E a i = q at *
                  generalize E b k = q2 at *
                  cases hzz : f x y
                  case false =>
                    have kg := g2 hzz
                    have kV0 := hv2 hzz
                    rw [kg] at hI
                    clear g1 g2 hv1 hv2 kg
                    cases wi
                    case false =>
                      have kI : Hid (wlk f a b G (i + 1) k fr false M = R) := hI
                      have kV : Hid (∃ p, Inv f a b (i + 1) k fr false M p) := kV0
                      clear hI kV0
                      go_wp2_with fail
                      refine ea.mono ?_
                      rintro e w4 ⟨rfl, rfl⟩
                      go_wp2_with fail
                      refine eb.mono ?_
                      rintro e w4 ⟨rfl, rfl⟩
                      go_wp2_with fail
                      refine (hcl x y _).mono ?_
                      rw [hzz]
                      rintro e w4 ⟨rfl, rfl⟩
                      go_wp2_with fail
                      go_roundg G
                      case rel => exact ⟨(i + 1), k, fr, false, M, by omega, by go_num, by go_num, rfl, rfl, kV, hO, kI, hB⟩
                      case measure => omega
                    case true =>
                      obtain ⟨f0, f1⟩ := hfr rfl
                      have kI : Hid (wlk f a b G (i + 1) k fr false (M ++ [⟨fr, q - 1⟩]) = R) := hI
                      have kV : Hid (∃ p, Inv f a b (i + 1) k fr false (M ++ [⟨fr, q - 1⟩]) p) := kV0
                      clear hI kV0
                      have b1 := below_alloc wr (.cells #[.int .u64 fr, .int .u64 (q - 1)] 51)
                      have hB1 := hB.trans (b1.mono hz)
                      have hO1 := hO.below b1
                      have hU := Rs.one (Bx.new 51 fr (q - 1) wr) ⟨f0, by show fr ≤ _; omega, by show 0 ≤ q - 1; omega, by show q - 1 ≤ _; omega⟩
                      have hz1 := hB1.size
                      clear b1 hfr
                      go_wp2_with fail
                      refine ea.mono ?_
                      rintro e w4 ⟨rfl, rfl⟩
                      go_wp2_with fail
                      refine eb.mono ?_
                      rintro e w4 ⟨rfl, rfl⟩
                      go_wp2_with fail
                      refine (hcl x y _).mono ?_
                      rw [hzz]
                      rintro e w4 ⟨rfl, rfl⟩
                      go_wp2_with (at_builtin; refine wpList_appS rfl (.tmp 91) (.tmp 96) rfl _ w.heap.size M rfl hO1 hz1 w4.heap.size 0 1 1 [⟨fr, q - 1⟩] rfl rfl hU (by simp; omega) ?_; intro v' w' h1 h3)
                      have hB2 := below_grown hB1 hO1 h3 hz1
                      go_roundg G
                      case rel => exact ⟨(i + 1), k, fr, false, M ++ [⟨fr, q - 1⟩], by omega, by go_num, by go_num, rfl, rfl, kV, h1, kI, hB2⟩
                      case measure => omega
                  case true =>
                    have kg := g1 hzz
                    have kV0 := hv1 hzz
                    rw [kg] at hI
                    clear g1 g2 hv1 hv2 kg
                    cases wi
                    case false =>
                      have kI : Hid (wlk f a b G (i + 1) k q true M = R) := hI
                      have kV : Hid (∃ p, Inv f a b (i + 1) k q true M p) := kV0
                      clear hI kV0
                      go_wp2_with fail
                      refine ea.mono ?_
                      rintro e w4 ⟨rfl, rfl⟩
                      go_wp2_with fail
                      refine eb.mono ?_
                      rintro e w4 ⟨rfl, rfl⟩
                      go_wp2_with fail
                      refine (hcl x y _).mono ?_
                      rw [hzz]
                      rintro e w4 ⟨rfl, rfl⟩
                      go_wp2_with fail
                      go_roundg G
                      case rel => exact ⟨(i + 1), k, q, true, M, by omega, by go_num, by go_num, rfl, rfl, kV, hO, kI, hB⟩
                      case measure => omega
                    case true =>
                      have kI : Hid (wlk f a b G (i + 1) k fr true M = R) := hI
                      have kV : Hid (∃ p, Inv f a b (i + 1) k fr true M p) := kV0
                      clear hI kV0
                      go_wp2_with fail
                      refine ea.mono ?_
                      rintro e w4 ⟨rfl, rfl⟩
                      go_wp2_with fail
                      refine eb.mono ?_
                      rintro e w4 ⟨rfl, rfl⟩
                      go_wp2_with fail
                      refine (hcl x y _).mono ?_
                      rw [hzz]
                      rintro e w4 ⟨rfl, rfl⟩
                      go_wp2_with fail
                      go_roundg G
                      case rel => exact ⟨(i + 1), k, fr, true, M, by omega, by go_num, by go_num, rfl, rfl, kV, hO, kI, hB⟩
                      case measure => omega
                · have hn : nxt a b i k = (E a i, i + 1, k + 1) := by unfold nxt; rw [if_neg (by omega), if_neg (by omega)]
                  have he : E b k = E a i := by omega
                  rw [he] at eb
                  clear c1 c2 he
                  obtain ⟨g1, g2⟩ := wlk_go (f := f) (F := G) (fr := fr) (wi := wi) (M := M) hd hn
                  obtain ⟨hq0, hq1, hfr, hv1, hv2⟩ := wlk_next ha hb hV hd hn
                  clear hV hn
                  have oa : (((i : Int) + 1) % 2 == 1) = odd (i + 1) := mod_odd' i
                  have ok : (((k : Int) + 1) % 2 == 1) = odd (k + 1) := mod_odd' k
                  generalize odd (i + 1) = x at *
                  generalize odd (k + 1) = y at *
                  generalize E a i = q at *
                  cases hzz : f x y
                  case false =>
                    have kg := g2 hzz
                    have kV0 := hv2 hzz
                    rw [kg] at hI
                    clear g1 g2 hv1 hv2 kg
                    cases wi
                    case false =>
                      have kI : Hid (wlk f a b G (i + 1) (k + 1) fr false M = R) := hI
                      have kV : Hid (∃ p, Inv f a b (i + 1) (k + 1) fr false M p) := kV0
                      clear hI kV0
                      go_wp2_with fail
                      refine ea.mono ?_
                      rintro e w4 ⟨rfl, rfl⟩
                      go_wp2_with fail
                      refine eb.mono ?_
                      rintro e w4 ⟨rfl, rfl⟩
                      go_wp2_with fail
                      refine (hcl x y _).mono ?_
                      rw [hzz]
                      rintro e w4 ⟨rfl, rfl⟩
                      go_wp2_with fail
                      go_roundg G
                      case rel => exact ⟨(i + 1), (k + 1), fr, false, M, by omega, by go_num, by go_num, rfl, rfl, kV, hO, kI, hB⟩
                      case measure => omega
                    case true =>
                      obtain ⟨f0, f1⟩ := hfr rfl
                      have kI : Hid (wlk f a b G (i + 1) (k + 1) fr false (M ++ [⟨fr, q - 1⟩]) = R) := hI
                      have kV : Hid (∃ p, Inv f a b (i + 1) (k + 1) fr false (M ++ [⟨fr, q - 1⟩]) p) := kV0
                      clear hI kV0
                      have b1 := below_alloc wr (.cells #[.int .u64 fr, .int .u64 (q - 1)] 51)
                      have hB1 := hB.trans (b1.mono hz)
                      have hO1 := hO.below b1
                      have hU := Rs.one (Bx.new 51 fr (q - 1) wr) ⟨f0, by show fr ≤ _; omega, by show 0 ≤ q - 1; omega, by show q - 1 ≤ _; omega⟩
                      have hz1 := hB1.size
                      clear b1 hfr
                      go_wp2_with fail
                      refine ea.mono ?_
                      rintro e w4 ⟨rfl, rfl⟩
                      go_wp2_with fail
                      refine eb.mono ?_
                      rintro e w4 ⟨rfl, rfl⟩
                      go_wp2_with fail
                      refine (hcl x y _).mono ?_
                      rw [hzz]
                      rintro e w4 ⟨rfl, rfl⟩
                      go_wp2_with (at_builtin; refine wpList_appS rfl (.tmp 91) (.tmp 96) rfl _ w.heap.size M rfl hO1 hz1 w4.heap.size 0 1 1 [⟨fr, q - 1⟩] rfl rfl hU (by simp; omega) ?_; intro v' w' h1 h3)
                      have hB2 := below_grown hB1 hO1 h3 hz1
                      go_roundg G
                      case rel => exact ⟨(i + 1), (k + 1), fr, false, M ++ [⟨fr, q - 1⟩], by omega, by go_num, by go_num, rfl, rfl, kV, h1, kI, hB2⟩
                      case measure => omega
                  case true =>
                    have kg := g1 hzz
                    have kV0 := hv1 hzz
                    rw [kg] at hI
                    clear g1 g2 hv1 hv2 kg
                    cases wi
                    case false =>
                      have kI : Hid (wlk f a b G (i + 1) (k + 1) q true M = R) := hI
                      have kV : Hid (∃ p, Inv f a b (i + 1) (k + 1) q true M p) := kV0
                      clear hI kV0
                      go_wp2_with fail
                      refine ea.mono ?_
                      rintro e w4 ⟨rfl, rfl⟩
                      go_wp2_with fail
                      refine eb.mono ?_
                      rintro e w4 ⟨rfl, rfl⟩
                      go_wp2_with fail
                      refine (hcl x y _).mono ?_
                      rw [hzz]
                      rintro e w4 ⟨rfl, rfl⟩
                      go_wp2_with fail
                      go_roundg G
                      case rel => exact ⟨(i + 1), (k + 1), q, true, M, by omega, by go_num, by go_num, rfl, rfl, kV, hO, kI, hB⟩
                      case measure => omega
                    case true =>
                      have kI : Hid (wlk f a b G (i + 1) (k + 1) fr true M = R) := hI
                      have kV : Hid (∃ p, Inv f a b (i + 1) (k + 1) fr true M p) := kV0
                      clear hI kV0
                      go_wp2_with fail
                      refine ea.mono ?_
                      rintro e w4 ⟨rfl, rfl⟩
                      go_wp2_with fail
                      refine eb.mono ?_
                      rintro e w4 ⟨rfl, rfl⟩
                      go_wp2_with fail
                      refine (hcl x y _).mono ?_
                      rw [hzz]
                      rintro e w4 ⟨rfl, rfl⟩
                      go_wp2_with fail
                      go_roundg G
                      case rel => exact ⟨(i + 1), (k + 1), fr, true, M, by omega, by go_num, by go_num, rfl, rfl, kV, hO, kI, hB⟩
                      case measure => omega

theorem join_any (va vb : Value) (a b : List Sn) (w : World) (hRa : Rs va a w) (hRb : Rs vb b w) (hla : a.length ≤ 100000) (hlb : b.length ≤ 100000) :
    Calls Try.prog 56 #[va, vb] w fun e w' => (∃ v, e = .returned v ∧ Ow w.heap.size v (joinS a b) w') ∧ Below w.heap.size w w' := by
  go_enter Try.func56, Try.ntmps56
  go_wp2_with fail
  refine (walk_any va vb a b 62 orB w hRa hRb hla hlb (fun _ _ => rfl) orc_any rfl).mono ?_
  rintro e w2 ⟨⟨v, rfl, h⟩, hb⟩
  go_wp2_with fail
  go_ret
  exact ⟨⟨_, rfl, h⟩, hb⟩
theorem minus_any (va vb : Value) (a b : List Sn) (w : World) (hRa : Rs va a w) (hRb : Rs vb b w) (hla : a.length ≤ 100000) (hlb : b.length ≤ 100000) :
    Calls Try.prog 31 #[va, vb] w fun e w' => (∃ v, e = .returned v ∧ Ow w.heap.size v (minusS a b) w') ∧ Below w.heap.size w w' := by
  go_enter Try.func31, Try.ntmps31
  go_wp2_with fail
  refine (walk_any va vb a b 50 butB w hRa hRb hla hlb (fun _ _ => rfl) butc_any rfl).mono ?_
  rintro e w2 ⟨⟨v, rfl, h⟩, hb⟩
  go_wp2_with fail
  go_ret
  exact ⟨⟨_, rfl, h⟩, hb⟩
end Go.Proofs.Ytlbeincgknmijaa
