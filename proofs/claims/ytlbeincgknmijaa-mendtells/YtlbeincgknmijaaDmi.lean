/-
  The reference's Minus.
-/
import Derived.Test.YtlbeincgknmijaaDgl
import Derived.Deep.RegionLaw
namespace Go.Proofs.Ytlbeincgknmijaa
open Go.RowKit

/-- A call, as one step of a region. -/
theorem step_call {P : Program} {ops : Array Oper} {oi : Oper} {a : Act} {K : Act → World → Prop} {Q : Exit → Act → World → Prop} {E : Prop} {w : World} (hg : oi.guard = none) (F : FuncId) (xs : List Operand) (ts : Array TypeId)
    (ho : oi.op = .call { callee := .value (.func F), args := xs.toArray, argTypes := ts }) (vs : List Value) (hen : ∀ args w, (callFunc F args).run P w = .ok (.enter F args) w) (hx : xs.map a.eval = vs)
    {R : Ending → World → Prop} (hc : Calls P F vs.toArray w R) (h : ∀ e w', R e w' → ∃ v, e = .returned v ∧ K (a.put oi.dst v) w') : if Region.wanted oi (yielded ops a.tmps) = true then Oper.wp P oi a w K Q else E := by
  have hw : Region.wanted oi (yielded ops a.tmps) = true := by simp [Region.wanted, hg]
  rw [if_pos hw]
  have he : Act.eval a (.func F) = .func (.func F) #[] #[] := rfl
  unfold Oper.wp execOp
  simp only [ho, resolve, he, Deferred.ofValue, invoke, Sem.run_bind, Sem.run_pure, Result.andThen_ok, List.map_toArray, hx, hen, Array.append_empty]
  rw [Array.empty_append]
  refine Calls.mono hc ?_
  intro e w' hR
  obtain ⟨v, rfl, hK⟩ := h e w' hR
  exact hK
/-- A slice of spans is appended to an owned row, as one step of a region. -/
theorem step_appS {ops : Array Oper} {o : Oper} {a : Go.Act} {K : Go.Act → World → Prop} {Q : Exit → Go.Act → World → Prop} {F : Prop} {w : World} (hgd : o.guard = none) (s x : Operand)
    (ho : o.op = .call { callee := .builtin .append, args := #[s, x], argTypes := #[23, 23] }) (v : Value) (B : Nat) (r : List Sn) (hs : a.eval s = v) (hown : Ow B v r w) (hB : B ≤ w.heap.size)
    (g off m cap : Nat) (l : List Sn) (hm : m = l.length) (hx : a.eval x = .slice (some ⟨g, off, none⟩) m cap) (hu : Rs (.slice (some ⟨g, off, none⟩) m cap) l w) (hl : r.length + l.length ≤ 1000000)
    (h : ∀ v' w', Ow B v' (r ++ l) w' → w.grownBy w' v.ownBlock → (v' = .slice none 0 0 ↔ v = .slice none 0 0 ∧ m = 0) → K (a.put o.dst v') w') :
    if Region.wanted o (yielded ops a.tmps) = true then Oper.wp Try.prog o a w K Q else F := by
  have hw : Region.wanted o (yielded ops a.tmps) = true := by simp [Region.wanted, hgd]
  rw [if_pos hw]
  obtain ⟨i0, hi, hz0, hz1, hz2⟩ := info_parts infoSpan
  subst hm
  refine wp_append_own w s x 23 ho B 51 i0 (.agg #[.int .u64 0, .int .u64 0]) 2 16 Try.underlying23 hi hz0 hz1 hz2 rfl (by decide) v r.length _ hs hown ⟨g, off, none⟩ l.length cap (flat l) hx (flat_length l) hu.cells (flat_cell l) (by unfold maxLen; omega) (by omega) hB ?_
  intro v' w' hown' hgr hn
  refine h v' w' ?_ hgr hn
  unfold Ow
  rw [flat_append, List.length_append]
  exact hown'
theorem Ow.place' {B : Nat} {v : Value} {l : List Sn} {w : World} (h : Ow B v l w) (hv : v ≠ .slice none 0 0) : ∃ g cap, v = .slice (some ⟨g, 0, none⟩) l.length cap := by
  rcases h.2 with ⟨e, _⟩ | ⟨g, cap, cur, rfl, hb, hg, h1, h2, _⟩
  · exact absurd e hv
  · exact ⟨g, cap, rfl⟩
theorem cutS_ok {x y : Sn} (hx : SnOk x) (hy : SnOk y) : ∀ s ∈ cutS x y, SnOk s := by
  obtain ⟨x0, x1, x2, x3⟩ := hx
  obtain ⟨y0, y1, y2, y3⟩ := hy
  intro s hs
  unfold cutS at hs
  split at hs
  · rw [List.mem_singleton] at hs
    subst hs
    exact ⟨x0, x1, x2, x3⟩
  · rcases List.mem_append.1 hs with hs | hs
    · split at hs
      · rw [List.mem_singleton] at hs
        subst hs
        exact ⟨x0, x1, by show 0 ≤ y.f - 1; omega, by show y.f - 1 ≤ _; omega⟩
      · cases hs
    · split at hs
      · rw [List.mem_singleton] at hs
        subst hs
        exact ⟨by show 0 ≤ y.t + 1; omega, by show y.t + 1 ≤ _; omega, x2, x3⟩
      · cases hs
theorem cuts_snoc {L : List Sn} {b : List Sn} {k : Nat} {a : List Sn} (hk : k < b.length) (h : (b.take k).foldl cutsS a = L) : (b.take (k + 1)).foldl cutsS a = cutsS L (el b k) := by
  rw [take_snoc hk, List.foldl_append, h]; rfl

set_option maxRecDepth 100000 in
set_option maxHeartbeats 4000000 in
theorem fminus_any (va vb : Value) (a b : List Sn) (w : World) (hRa : Rs va a w) (hRb : Rs vb b w) (hla : a.length ≤ 100000) (hlb : b.length ≤ 100000) :
    Calls Try.prog 33 #[va, vb] w fun e w' => (∃ v, e = .returned v ∧ Rs v (minusS a b) w') ∧ Below w.heap.size w w' := by
  obtain ⟨⟨aa, acap, rfl, a1, a2, a3⟩, aok⟩ := id hRa
  obtain ⟨⟨ba, bcap, rfl, b1, b2, b3⟩, bok⟩ := id hRb
  unfold minusS
  cases hma : mayS a
  case false =>
    go_enter Try.func33, Try.ntmps33
    go_wp2_with fail
    refine (fmay_any _ a _ hRa (by omega)).mono ?_
    rw [hma]
    rintro e w2 ⟨rfl, hb⟩
    go_wp2_with fail
    go_ret
    exact ⟨⟨_, rfl, Rs.nil _⟩, hb⟩
  case true =>
    cases hmb : mayS b
    case false =>
      go_enter Try.func33, Try.ntmps33
      go_wp2_with fail
      refine (fmay_any _ a _ hRa (by omega)).mono ?_
      rw [hma]
      rintro e w2 ⟨rfl, hb⟩
      go_wp2_with fail
      refine (fmay_any _ b _ (hRb.below hb) (by omega)).mono ?_
      rw [hmb]
      rintro e w3 ⟨rfl, hb3⟩
      go_wp2_with fail
      go_ret
      exact ⟨⟨_, rfl, Rs.nil _⟩, hb.trans (hb3.mono hb.size)⟩
    case true =>
      have ha := (mayS_iff a).1 hma
      have hb := (mayS_iff b).1 hmb
      have hla' : (a.length : Int) ≤ 100000 := by omega
      have hlb' : (b.length : Int) ≤ 100000 := by omega
      have hcut := cuts_minus ha hb
      have hlen := fun k => walkS_len (f := butB) rfl ha (hb.take k)
      have hup := fun k => walkS_up (f := butB) rfl ha (hb.take k)
      rw [show (true && true) = true from rfl, if_pos rfl]
      obtain ⟨R, HR⟩ : ∃ R, Hid (walkS butB a b = R) := ⟨_, rfl⟩
      rw [HR.out]
      go_enter Try.func33, Try.ntmps33
      go_wp2_with fail
      refine (fmay_any _ a _ hRa (by omega)).mono ?_
      rw [hma]
      rintro e w2 ⟨rfl, hb2⟩
      go_wp2_with fail
      refine (fmay_any _ b _ (hRb.below hb2) (by omega)).mono ?_
      rw [hmb]
      rintro e w3 ⟨rfl, hb3⟩
      have hb3' := hb2.trans (hb3.mono hb2.size)
      clear hb2 hb3 hma hmb
      go_wp2_with fail
      go_loopg [5, 6] b.length (fun gk t5 t6 wr => ∃ (k : Nat) (LL : List Sn), k + gk = b.length ∧ t6 = .int .i64 k ∧ (∃ a5 c5, t5 = .slice a5 LL.length c5) ∧ Hid ((b.take k).foldl cutsS a = LL) ∧ Rs t5 LL wr ∧ Below w.heap.size w wr)
      case atStart => exact ⟨0, a, by omega, rfl, ⟨_, _, rfl⟩, rfl, hRa.below hb3', hb3'⟩
      case round =>
        obtain ⟨k, LL, hk, rfl, ⟨a5, c5, rfl⟩, hL, hR5, hB⟩ := hrel
        clear hb3'
        have hz := hB.size
        have k0 : (0 : Int) ≤ k := by omega
        by_cases hlt : (k : Int) < b.length
        · have hk' : k < b.length := by omega
          rcases b3 with b3 | ⟨gb, offb, rfl, b3⟩
          · omega
          clear b3
          have hLw : LL = walkS butB a (b.take k) := hL.out.symm.trans (hcut k (by omega))
          have hLn : LL.length ≤ a.length + b.length := by
            have := hlen k
            rw [← hLw, List.length_take] at this
            omega
          have hLup : Up 0 LL := by rw [hLw]; exact hup k
          have hyok := bok _ (el_mem hk')
          have hyy := (hb.at hk').2
          have hnext := cuts_snoc hk' hL.out
          have hRb1 := hRb.below hB
          obtain ⟨y, hy⟩ : ∃ y, y = el b k := ⟨_, rfl⟩
          have hy1 : ∀ w' : World, Below wr.heap.size wr w' → w'.cell? ⟨gb, offb + k * 2, none⟩ = some (.int .u64 y.f) ∧ w'.cell? ⟨gb, offb + k * 2 + 1, none⟩ = some (.int .u64 y.t) := fun w' hb' => by rw [hy]; exact (hRb1.below hb').at hk'
          rw [← hy] at hyok hnext hyy
          have hLz : (LL.length : Int) ≤ 200000 := by omega
          have bE := below_alloc wr (.cells #[] 51)
          have hOE := made_os (w := wr) (Nat.le_refl _)
          clear hL hLw hy hRb1 hlen hup hcut
          go_wp2_with fail
          obtain ⟨gz, hgz⟩ : ∃ gz, gz = gk - 1 := ⟨_, rfl⟩
          obtain ⟨wo, rfl⟩ : ∃ wo, wo = wr := ⟨_, rfl⟩
          go_loopg [7, 8] LL.length (fun gi t7 t8 wi => ∃ (i g7 c7 : Nat) (OO : List Sn), i + gi = LL.length ∧ t8 = .int .i64 i ∧ t7 = .slice (some ⟨g7, 0, none⟩) OO.length c7 ∧ Hid (cutsS (LL.take i) y = OO) ∧ Ow wo.heap.size t7 OO wi ∧ Below wo.heap.size wo wi)
          case atStart => exact ⟨0, _, 0, [], by omega, rfl, rfl, rfl, hOE, bE⟩
          case round =>
            obtain ⟨i, g7, c7, OO, hi, rfl, rfl, hOO, hO, hBi⟩ := hrel
            clear hOE bE
            by_cases hli : (i : Int) < LL.length
            · have hi' : i < LL.length := by omega
              have i0 : (0 : Int) ≤ i := by omega
              have hOl : OO.length ≤ 2 * i := by
                have := cutsS_len (LL.take i) y
                rw [hOO.out, List.length_take] at this
                omega
              rcases hR5.shape with ⟨e, _⟩ | ⟨gl, offl, cl, e⟩
              · rw [e] at hi'; simp at hi'
              cases e
              obtain ⟨l0, l1⟩ := (hR5.below hBi).at hi'
              obtain ⟨m0, m1⟩ := hy1 _ hBi
              have hxok := hR5.2 _ (el_mem hi')
              have hsn := cutsS_snoc LL i y hi'
              rw [hOO.out] at hsn
              have hcl := cutS_len (el LL i) y
              obtain ⟨x, hx⟩ : ∃ x, x = el LL i := ⟨_, rfl⟩
              rw [← hx] at l0 l1 hsn hxok hcl
              have hsn : Hid (cutsS (LL.take (i + 1)) y = OO ++ cutS x y) := hsn
              have hCu := fun w' => cut_any x y w' hxok hyok
              have hzi := hBi.size
              have hcok : ∀ s ∈ cutS x y, SnOk s := cutS_ok hxok hyok
              clear hOO hx
              go_upto_region 11 with fail
              go_region_law (first
                | (refine step_call (by rfl) 51 [.tmp 35, .tmp 39] #[51, 51] (by rfl) [.agg #[.int .u64 x.f, .int .u64 x.t], .agg #[.int .u64 y.f, .int .u64 y.t]] (fun _ _ => rfl) (by rfl) (hCu _) ?_
                   rintro e w6 ⟨⟨g6, c6, rfl, hO6⟩, hb6⟩
                   refine ⟨_, rfl, ?_⟩
                   have hOb := (hO.keep (w' := wr.drew) fun _ _ _ => rfl).below hb6)
                | (refine step_appS (by rfl) (.tmp 31) (.tmp 40) (by rfl) (.slice (some ⟨g7, 0, none⟩) OO.length c7) wo.heap.size OO (by rfl) hOb (Nat.le_trans hzi hb6.size) g6 0 _ c6 (cutS x y) rfl (by rfl) (hO6.rs hcok) (by omega) ?_
                   intro v7 w7 hO7 hg7 hn7
                   have hB7 := below_grown ((hBi.trans (c := wr.drew) ⟨rfl, rfl, rfl, Nat.le_refl _, fun _ _ => rfl⟩).trans (hb6.mono hzi)) hOb hg7 (Nat.le_trans hzi hb6.size)
                   obtain ⟨gw, cw, rfl⟩ := hO7.place' (fun e => by have := (hn7.1 e).1; cases this)))
              all_goals
                clear hg7 hn7 hOb hO6 hb6 hO l0 l1 m0 m1 hCu hcok
                go_wp2_with fail
                go_roundg (gk - 1)
                case rel => exact ⟨i + 1, gw, cw, _, by omega, by go_num, by first | rfl | simp, hsn, by first | exact hO7 | simpa using hO7, hB7⟩
                case measure => omega
            · have ei : LL.length ≤ i := by omega
              have hOO' := hOO.out
              rw [List.take_of_length_le ei] at hOO'
              subst hOO'
              obtain ⟨u1, _⟩ := cutsS_spec LL y hyy.1 hyy.2 0 hLup
              have hRo := hO.rs u1.ok
              have hB9 := hB.trans (hBi.mono hz)
              go_wp2_with fail
              go_roundg gz
              case rel => exact ⟨k + 1, _, by omega, by go_num, ⟨_, _, rfl⟩, hnext, hRo, hB9⟩
              case measure => omega
        · have ek : b.length ≤ k := by omega
          have hL' := hL.out
          have hc := hcut b.length (Nat.le_refl _)
          rw [List.take_length] at hc
          rw [List.take_of_length_le ek, hc, HR.out] at hL'
          subst hL'
          go_wp2_with fail
          go_ret
          exact ⟨⟨_, rfl, hR5⟩, hB⟩
end Go.Proofs.Ytlbeincgknmijaa
