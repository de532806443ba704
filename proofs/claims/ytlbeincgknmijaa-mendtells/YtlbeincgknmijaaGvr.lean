/-
  What is given, by the reference; how many.
-/
import Derived.Test.YtlbeincgknmijaaGvm
import Derived.Test.YtlbeincgknmijaaTwn
import Derived.Test.YtlbeincgknmijaaDha
namespace Go.Proofs.Ytlbeincgknmijaa
open Go.RowKit

def okW (low : Int) (R : Rng) (l : List Sn) (n : Int) : Bool := hasM l n && hasR low R n
def flt (low : Int) (R : Rng) (l : List Sn) (k : Nat) : List Int := (seqI (low + 1) k).filter (okW low R l)
theorem flt_succ (low : Int) (R : Rng) (l : List Sn) (k : Nat) : flt low R l (k + 1) = if okW low R l (low + 1 + k) then flt low R l k ++ [low + 1 + k] else flt low R l k := by
  unfold flt
  rw [seqI_succ, List.filter_append]
  cases h : okW low R l (low + 1 + k) <;> simp [h]
theorem flt_prefix (low : Int) (R : Rng) (l : List Sn) {k m : Nat} (h : k ≤ m) : flt low R l k <+: flt low R l m := (seqI_prefix (low + 1) h).filter _
theorem flt_len (low : Int) (R : Rng) (l : List Sn) (k : Nat) : (flt low R l k).length ≤ k := by
  have := List.length_filter_le (okW low R l) (seqI (low + 1) k)
  rw [seqI_length] at this
  exact this
theorem numS_want {low : Int} {R : Rng} (hI : RI low R) (l0 : 0 ≤ low) (l1 : low ≤ 1000000) (l : List Sn) : numS (wantS low R l) = flt low R l 64 := by
  refine sorted_uniq _ _ (numS_sorted (wantS_up l0 l1 l)) ((seqI_sorted _ _).filter _) fun x => ?_
  rw [mem_numS, wantS_has hI l0 l1]
  unfold flt okW
  rw [List.mem_filter, mem_seqI]
  constructor
  · intro h
    refine ⟨?_, h⟩
    rw [Bool.and_eq_true] at h
    have := hI.has l0 h.2
    omega
  · exact fun h => h.2
theorem giveS_flt {low : Int} {R : Rng} (hI : RI low R) (l0 : 0 ≤ low) (l1 : low ≤ 1000000) (l : List Sn) (most : Int) : giveS low R l most = ((flt low R l 64).take most.toNat).map (pkS R) := by unfold giveS; rw [numS_want hI l0 l1]

theorem Try.info67 : (Try.prog.info? 67).map (fun i => (i.zero, i.size, i.bytes)) = some (some (.agg #[.int .u64 0, .int .i64 0, .int .u64 0, .string ⟨#[]⟩]), EI.sz, 40) := Try.infoI

set_option maxRecDepth 100000 in
set_option maxHeartbeats 4000000 in
theorem rgive_any (B q : Nat) (low : Int) (R : Rng) (L : List Pl) (hC : Cp low R L) (hL : L.length ≤ 1000) (l1 : low ≤ 1000000) (v : Value) (l : List Sn) (most : Int) (w : World) (hF : Rf B q low L w) (hR : Rs v l w) (hl : l.length ≤ 10000) :
    Calls Try.prog 15 #[.pointer (some ⟨q, 0, none⟩), v, .int .i64 most] w fun e w' => (∃ v', e = .returned v' ∧ OwE EI 67 w.heap.size v' (giveS low R l most) w') ∧ Below w.heap.size w w' := by
  have l0 := hC.l0
  have hgv := giveS_flt hC.ri l0 l1 l most
  have hO0 : OwE EI 67 w.heap.size (.slice (some ⟨w.heap.size, 0, none⟩) 0 0) [] (w.alloc (.cells #[] 67)) := World.ownsRow_made w #[] 0 (Nat.le_refl _) (Nat.zero_le _) rfl
  have b0 := below_alloc w (.cells #[] 67)
  have hmay := fmay_any v l _ (hR.below b0) (by omega)
  cases hm : mayS l
  case false =>
    have hw : giveS low R l most = [] := by
      rw [hgv]
      have : flt low R l 64 = [] := by
        unfold flt
        rw [List.filter_eq_nil_iff]
        intro x _
        unfold okW hasM
        rw [hm]
        simp
      rw [this]; simp
    rw [hw]
    rw [hm] at hmay
    clear hgv hw
    go_enter Try.func15, Try.ntmps15
    go_wp2_with fail
    refine hmay.mono ?_
    rintro e w1 ⟨rfl, hb1⟩
    go_wp2_with fail
    go_ret
    exact ⟨⟨_, rfl, hO0.below hb1⟩, b0.trans (hb1.mono b0.size)⟩
  case true =>
    rw [hm] at hmay
    replace hgv : Hid (giveS low R l most = ((flt low R l 64).take most.toNat).map (pkS R)) := hgv
    generalize giveS low R l most = GV at *
    have hlen : (L.length : Int) ≤ 1000 := by omega
    go_enter Try.func15, Try.ntmps15
    go_wp2_with fail
    refine hmay.mono ?_
    rintro e w1 ⟨rfl, hb1⟩
    have hO1 := hO0.below hb1
    have hB1 := b0.trans (hb1.mono b0.size)
    have hF1 := hF.below hB1
    obtain ⟨aq, cq, q0, q1, _⟩ := hF1.cells
    clear hmay hO0 b0 hb1 q0
    go_wp2_with fail
    clear q1
    go_loopg [7, 8] 64 (fun gk t7 t8 wr => ∃ k : Nat, k + gk = 64 ∧ t8 = .int .u64 (low + 1 + k) ∧ OwE EI 67 w.heap.size t7 ((flt low R l k).map (pkS R)) wr ∧ (flt low R l k).length ≤ most.toNat ∧ Below w.heap.size w wr)
    case atStart => exact ⟨0, by omega, by simp, hO1, by simp [flt, seqI], hB1⟩
    case round =>
      obtain ⟨k, hk, rfl, hO, hfl, hB⟩ := hrel
      clear hO1 hB1 hF1
      have k0 : (0 : Int) ≤ k := by omega
      have hFk := hF.below hB
      obtain ⟨aq, cq, q0, q1, _⟩ := hFk.cells
      clear q0
      have hle := flt_len low R l k
      obtain ⟨ao, co, rfl, _, _⟩ := hO.len
      rw [List.length_map] at hO ⊢
      have hpre := flt_prefix low R l (k := k) (m := 64) (by omega)
      have hwu : IntKind.u64.wrap (low + 64) = low + 64 := by rw [IntKind.wrap_u64]; omega
      by_cases hlt : low + 1 + (k : Int) ≤ low + 64
      · by_cases hge : ((flt low R l k).length : Int) < most
        · have hn0 : 0 ≤ low + 1 + (k : Int) := by omega
          have hget := fget_all B q low R L (low + 1 + (k : Int)) hC hL wr hFk
          have hst : Hid (flt low R l (k + 1) = if okW low R l (low + 1 + k) then flt low R l k ++ [low + 1 + (k : Int)] else flt low R l k) := flt_succ low R l k
          have hE : getE low (hasR low R (low + 1 + (k : Int))) (low + 1 + (k : Int)) = if hasR low R (low + 1 + (k : Int)) then 0 else 3 := by unfold getE; rw [if_neg (by omega)]
          have hwn : IntKind.u64.wrap (low + 1 + (k : Int) + 1) = low + 1 + (k : Int) + 1 := by rw [IntKind.wrap_u64]; omega
          have hge : decide (((flt low R l k).length : Int) < most) = true := decide_eq_true hge
          have hmost : (flt low R l k).length + 1 ≤ most.toNat := by have := of_decide_eq_true hge; omega
          clear hgv hpre
          cases hh : hasR low R (low + 1 + (k : Int))
          case false =>
            rw [hh] at hE hget
            rw [if_neg (by simp)] at hE
            rw [hE] at hget
            have hok : okW low R l (low + 1 + (k : Int)) = false := by unfold okW; rw [hh, Bool.and_false]
            rw [hok, if_neg (by simp)] at hst
            generalize getM low R (low + 1 + (k : Int)) = M at *
            clear hE hh hok hFk hF
            go_wp2_with fail
            refine hget.mono ?_
            rintro e w2 ⟨rfl, hb2⟩
            have hO2 := hO.below hb2
            have hB2 := hB.trans (hb2.mono hB.size)
            have b3 := below_alloc w2 (.cells #[.int .i64 M.s, .int .u64 M.m, .string M.x] 28)
            have hO3 := hO2.below b3
            have hB3 := hB2.trans (b3.mono hB2.size)
            clear b3 hO2 hget hb2
            go_wp2_with fail
            go_roundg (gk - 1)
            case rel => exact ⟨k + 1, by omega, by go_num, by rw [hst.out]; exact hO3, by rw [hst.out]; omega, hB3⟩
            case measure => omega
          case true =>
            obtain ⟨g1, g2⟩ := get_has hC.ri l0 hh
            rw [g1, g2] at hget
            have hpk : Hid (pkS R (low + 1 + (k : Int)) = ⟨low + 1 + (k : Int), (R ((low + 1 + (k : Int)) % 64).toNat).g⟩) := rfl
            generalize (R ((low + 1 + (k : Int)) % 64).toNat).g = M at *
            have hhas := fun w' h => fhas_any v l (low + 1 + (k : Int)) w' h (by omega)
            cases hx : hasM l (low + 1 + (k : Int))
            case false =>
              have hok : okW low R l (low + 1 + (k : Int)) = false := by unfold okW; rw [hx, Bool.false_and]
              rw [hok, if_neg (by simp)] at hst
              rw [hx] at hhas
              clear hE hh hok hFk hF g1 g2 hx
              go_wp2_with fail
              refine hget.mono ?_
              rintro e w2 ⟨rfl, hb2⟩
              have hO2 := hO.below hb2
              have hB2 := hB.trans (hb2.mono hB.size)
              have b3 := below_alloc w2 (.cells #[.int .i64 M.s, .int .u64 M.m, .string M.x] 28)
              have hO3 := hO2.below b3
              have hB3 := hB2.trans (b3.mono hB2.size)
              have hhas3 := hhas _ (hR.below hB3)
              clear b3 hO2 hget hb2
              go_wp2_with fail
              refine hhas3.mono ?_
              rintro e w4 ⟨rfl, hb4⟩
              go_wp2_with fail
              go_roundg (gk - 1)
              case rel => exact ⟨k + 1, by omega, by go_num, by rw [hst.out]; exact hO3.below hb4, by rw [hst.out]; omega, hB3.trans (hb4.mono hB3.size)⟩
              case measure => omega
            case true =>
              have hok : okW low R l (low + 1 + (k : Int)) = true := by unfold okW; rw [hx, hh]; rfl
              rw [hok, if_pos rfl] at hst
              rw [hx] at hhas
              clear hE hh hok hFk hF g1 g2 hx
              go_wp2_with fail
              refine hget.mono ?_
              rintro e w2 ⟨rfl, hb2⟩
              have hO2 := hO.below hb2
              have hB2 := hB.trans (hb2.mono hB.size)
              have b3 := below_alloc w2 (.cells #[.int .i64 M.s, .int .u64 M.m, .string M.x] 28)
              have hO3 := hO2.below b3
              have hB3 := hB2.trans (b3.mono hB2.size)
              have hM3 := Bm.new M w2
              have hhas3 := hhas _ (hR.below hB3)
              clear hO2 hget hb2 b3
              go_wp2_with fail
              refine hhas3.mono ?_
              rintro e w4 ⟨rfl, hb4⟩
              have hO4 := hO3.below hb4
              have hB4 := hB3.trans (hb4.mono hB3.size)
              have hM4 := hM3.below hb4
              have m0 := hM4.c0
              have m1 := hM4.c1
              have m2 := hM4.c2
              have b5 := below_alloc w4 (.cells #[.int .u64 (low + 1 + (k : Int)), .int .i64 M.s, .int .u64 M.m, .string M.x] 67)
              have hO5 := hO4.below b5
              have hY : RdE EI (.slice (some ⟨w4.heap.size, 0, none⟩) 1 1) [⟨low + 1 + (k : Int), M⟩] (w4.alloc (.cells #[.int .u64 (low + 1 + (k : Int)), .int .i64 M.s, .int .u64 M.m, .string M.x] 67)) := RdE.one (heap_alloc_new w4 _)
              have hB5 := hB4.trans (b5.mono hB4.size)
              clear hO3 hO4 hB3 hhas3 hM3 hM4 b5
              go_wp2_with (at_builtin; refine wpList_appE Try.undI Try.infoI (by decide) (by decide) _ rfl (.tmp 49) (.tmp 53) rfl w.heap.size _ ((flt low R l k).map (pkS R)) rfl hO5 hB5.size w4.heap.size 0 1 [⟨low + 1 + (k : Int), M⟩] 1 rfl rfl hY (by simp only [List.length_map, List.length_cons, List.length_nil]; omega) ?_; intro v7 w7 hO7 hg7 hn7)
              have hB7 : Below w.heap.size w w7 := hB5.trans ⟨hg7.os, hg7.tape, hg7.output, hg7.size, fun j hj => hg7.block j (by have := hB5.size; omega) (fun e => by have := (hO5.lt j e.symm).1; omega)⟩
              clear hg7 hn7 hO5 hY
              go_roundg (gk - 1)
              case rel => exact ⟨k + 1, by omega, by go_num, by rw [hst.out, List.map_append, List.map_cons, List.map_nil, hpk.out]; exact hO7, by rw [hst.out, List.length_append]; exact hmost, hB7⟩
              case measure => omega
        · have e : GV = (flt low R l k).map (pkS R) := by
            rw [hgv.out, take_pre hpre (by omega)]
          have hO : OwE EI 67 w.heap.size (.slice ao (flt low R l k).length co) GV wr := by rw [e]; exact hO
          have hge : most ≤ ((flt low R l k).length : Int) := by omega
          clear hgv e hpre hFk hF hfl
          generalize (flt low R l k).length = N at *
          go_wp2_with fail
          go_ret
          exact ⟨⟨_, rfl, hO⟩, hB⟩
      · obtain rfl : k = 64 := by omega
        have e : GV = (flt low R l 64).map (pkS R) := by
          rw [hgv.out, List.take_of_length_le hfl]
        have hO : OwE EI 67 w.heap.size (.slice ao (flt low R l 64).length co) GV wr := by rw [e]; exact hO
        clear hgv e hpre hFk hF hfl
        generalize (flt low R l 64).length = N at *
        go_wp2_with fail
        go_ret
        exact ⟨⟨_, rfl, hO⟩, hB⟩
end Go.Proofs.Ytlbeincgknmijaa
