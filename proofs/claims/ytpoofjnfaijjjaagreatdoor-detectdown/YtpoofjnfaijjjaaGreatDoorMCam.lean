/-
  A cluster whose notes all arrive, as plain functions. No program is known here. settle, walked. began: detectors that know of one another. What the laws of a cluster share: its worlds; a tick, notes that settle, what is live and known. Where all notes arrive nobody is doubted: as plain functions. No program is known here.
-/
import Derived.Test.YtpoofjnfaijjjaaGreatDoorMNic
import Derived.Test.YtpoofjnfaijjjaaGreatDoorMOpa
import Derived.Test.YtpoofjnfaijjjaaGreatDoorMRBrf
import Derived.Test.YtpoofjnfaijjjaaGreatDoorMTik
namespace Go.Proofs.YtpoofjnfaijjjaaGreatDoor
open Go.RowKit Go.Proofs.YtpoofjnfaijjjaaGreatDoor.Ro
/-- Does this note go nowhere? -/
def skipN (N up : Nat) (n : Nte) : Bool := decide ((N : Int) ≤ n.t) || (!Bnd.hasS up n.t || !Bnd.hasS up n.f)
def settleS (N up : Nat) : Nat → (Nat → Det) → List Nte → List Int → Bool × (Nat → Det) × List Int
  | _, F, [], l => (true, F, l)
  | 0, F, _ :: _, l => (false, F, l)
  | f + 1, F, n :: r, l =>
    if skipN N up n = true then settleS N up f F r l
    else if ((F n.t.toNat).hear n.t.toNat n l).1.2 = 0 then settleS N up f (putF F n.t.toNat ((F n.t.toNat).hear n.t.toNat n l).2.1) (r ++ ((F n.t.toNat).hear n.t.toNat n l).1.1) ((F n.t.toNat).hear n.t.toNat n l).2.2
    else (false, putF F n.t.toNat ((F n.t.toNat).hear n.t.toNat n l).2.1, ((F n.t.toNat).hear n.t.toNat n l).2.2)
theorem skip_not {N up : Nat} {n : Nte} (h : skipN N up n = false) : ∃ i : Nat, n.t = i ∧ n.t.toNat = i ∧ i < N ∧ Bnd.hasS up n.t = true ∧ Bnd.hasS up n.f = true := by
  unfold skipN at h
  simp only [Bool.or_eq_false_iff, decide_eq_false_iff_not, Bool.not_eq_false'] at h
  obtain ⟨h1, h2, h3⟩ := h
  have h0 : 0 ≤ n.t := by
    unfold Bnd.hasS Bnd.nodeS at h2
    simp only [Bool.and_eq_true, decide_eq_true_eq] at h2
    exact h2.1.1
  exact ⟨n.t.toNat, by omega, rfl, by omega, h2, h3⟩
/-- Whatever they know, it may be. -/
structure All64 (N : Nat) (F : Nat → Det) : Prop where
  ni : ∀ i, i < N → Ni A64 U64 i (F i)
  W : ∀ i, i < N → (F i).W.length ≤ 500
theorem All64.put {N : Nat} {F : Nat → Det} (h : All64 N F) {i : Nat} {d : Det} (hn : Ni A64 U64 i d) (hw : d.W.length ≤ 500) : All64 N (putF F i d) :=
  ⟨fun j hj => by
    by_cases e : j = i
    · subst e; rw [putF_same]; exact hn
    · rw [putF_other _ _ e]; exact h.ni j hj, fun j hj => by
    by_cases e : j = i
    · subst e; rw [putF_same]; exact hw
    · rw [putF_other _ _ e]; exact h.W j hj⟩
theorem All64.hear {N : Nat} {F : Nat → Det} (h : All64 N F) {i : Nat} (hi : i < N) {n : Nte} (hn : Nin A64 n) (l : List Int) : All64 N (putF F i ((F i).hear i n l).2.1) ∧ ∀ x ∈ ((F i).hear i n l).1.1, Nin A64 x := by
  have hh := Ni.hear (cls64 i) (h.ni i hi) hn (fun _ => (show U64 0 from ⟨by decide, by decide⟩)) l
  exact ⟨h.put hh.2 (Nat.le_trans (hear_W i (F i) n l) (h.W i hi)), hh.1⟩
end Go.Proofs.YtpoofjnfaijjjaaGreatDoor
namespace Go.Proofs.YtpoofjnfaijjjaaGreatDoor
open Go.RowKit Go.Proofs.YtpoofjnfaijjjaaGreatDoor.Ro
theorem Tryz.elemN : Tryz.prog.underlying 43 = some (.slice (Tryz.prog.elem 43)) := by kernel_rfl
theorem Tryz.sizeN (w : World) : (sizeOf (Tryz.prog.elem 43)).run Tryz.prog w = .ok 6 w := by
  rw [show Tryz.prog.elem 43 = 37 by kernel_rfl]
  simp [sizeOf]
  kernel_rfl
theorem cutN (a : Option Addr) (n cap : Nat) (h1 : 1 ≤ n) : ∀ w', (Instr.slice 43 (.slice a n cap) (some (.int .i64 (1 : Int))) none none).run Tryz.prog w' = .ok (sliced a 1 n cap 6) w' := fun w' => by
  rw [run_slice_l (P := Tryz.prog) (w := w') 43 a n cap Tryz.elemN .i64 (1 : Int) (by omega) (by omega), Tryz.sizeN]
  rfl
section
variable {N Bp p : Nat} {B : Nat → Bl} {F : Nat → Det} {l : List Int} {w w0 : World} {v : Value} {X : List NtX}
set_option maxRecDepth 100000 in
set_option maxHeartbeats 4000000 in
theorem settle_any {gd capd : Nat} (hds : ∀ i, i < N → w.cell? ⟨gd, i, none⟩ = some (.pointer (some ⟨(B i).q, 0, none⟩))) (hgd : Far N p B w gd) (hgp : gd < p) (up : Nat) (hup : up < Bnd.lim)
    (hC : Cl N Bp p B F l w) (hQ : Qn N p B v X w) (h64 : All64 N F) (hX : ∀ x ∈ X, Nin A64 x.n) (hXl : X.length ≤ 5000) (hU : Uc N p B w0 w) :
    Calls Tryz.prog 25 #[.slice (some ⟨gd, 0, none⟩) N capd, .int .u64 up, v, .pointer (some ⟨p, 0, none⟩)] w fun e w' => e = .returned (.bool (settleS N up 5001 F (X.map NtX.n) l).1) ∧
      ∃ B', Cl N Bp p B' (settleS N up 5001 F (X.map NtX.n) l).2.1 (settleS N up 5001 F (X.map NtX.n) l).2.2 w' ∧ Uc N p B' w0 w' ∧ (∀ i, (B' i).q = (B i).q) ∧ w'.heap[gd]? = w.heap[gd]? ∧ Far N p B' w' gd := by
  obtain ⟨R, HR⟩ : ∃ R, Hid (settleS N up 5001 F (X.map NtX.n) l = R) := ⟨_, rfl⟩
  rw [HR.out]
  go_enter Tryz.func25, Tryz.ntmps25
  go_wp2_with fail
  go_loopg [2, 9] 5001 (fun gk t2 t9 wr => ∃ (i : Nat) (Fi : Nat → Det) (li : List Int) (Bi : Nat → Bl) (Xi : List NtX), i + gk = 5001 ∧ t9 = .int .i64 i ∧ Hid (settleS N up gk Fi (Xi.map NtX.n) li = R) ∧
    Cl N Bp p Bi Fi li wr ∧ Qn N p Bi t2 Xi wr ∧ Uc N p Bi w0 wr ∧ (∀ i, (Bi i).q = (B i).q) ∧ wr.heap[gd]? = w.heap[gd]? ∧ Far N p Bi wr gd ∧ All64 N Fi ∧ (∀ x ∈ Xi, Nin A64 x.n) ∧ Xi.length ≤ 5000)
  case atStart => exact ⟨0, F, l, B, X, by omega, rfl, HR, hC, hQ, hU, fun _ => rfl, rfl, hgd, h64, hX, hXl⟩
  case round =>
    obtain ⟨i, Fi, li, Bi, Xi, hi, rfl, hR, hCi, hQi, hUi, hqi, hgi, hFi, h64i, hXi, hLi⟩ := hrel
    cases Xi with
    | nil =>
      obtain ⟨a, cap, e, _⟩ := hQi.row.len
      subst e
      have HRn : Hid ((true, Fi, li) = R) := by
        have := hR.out
        cases gk <;> exact this
      clear hR
      go_wp2_with fail
      go_ret
      rw [← HRn.out]
      exact ⟨rfl, Bi, hCi, hUi, hqi, hgi, hFi⟩
    | cons x Xr =>
      obtain ⟨g, o, cap, e, hc⟩ := hQi.row.head
      have hcl : Xr.length + 1 ≤ cap := by
        obtain ⟨_, _, e', h1, _⟩ := hQi.row.len
        rw [e] at e'
        injection e' with _ _ e3
        subst e3
        simpa using h1
      subst e
      obtain ⟨x0, x1, x2, x3, x4, x5⟩ : wr.cell? ⟨g, o, none⟩ = some (.int .i64 x.n.k) ∧ wr.cell? ⟨g, o + 1, none⟩ = some (.int .i64 x.n.f) ∧ wr.cell? ⟨g, o + 2, none⟩ = some (.int .i64 x.n.t) ∧ wr.cell? ⟨g, o + 3, none⟩ = some (.int .u64 x.n.q) ∧ wr.cell? ⟨g, o + 4, none⟩ = some (.int .i64 x.n.o) ∧ wr.cell? ⟨g, o + 5, none⟩ = some (.slice x.a x.L x.c) :=
        ⟨hc 0 _ rfl, hc 1 _ rfl, hc 2 _ rfl, hc 3 _ rfl, hc 4 _ rfl, hc 5 _ rfl⟩
      clear hc
      have hnews := hQi.news x (by simp)
      have hnaw := hQi.naw x (by simp)
      have hnin := hXi x (by simp)
      have hQt := hQi.tail
      have hcut := cutN (some ⟨g, o, none⟩) (Xr.length + 1) cap (by omega)
      have hXr : ∀ y ∈ Xr, Nin A64 y.n := fun y hy => hXi y (List.mem_cons_of_mem _ hy)
      have hLr : Xr.length + 1 ≤ 5000 := hLi
      obtain ⟨v2, HV2⟩ : ∃ v2, sliced (some ⟨g, o, none⟩) 1 (Xr.length + 1) cap 6 = v2 := ⟨_, rfl⟩
      rw [HV2] at hcut hQt
      clear HV2
      obtain ⟨⟨K, Fr, T, Q, O, U⟩, na, nl, nc⟩ := x
      dsimp only at x0 x1 x2 x3 x4 x5 hnews hnaw hnin
      have bN := below_alloc wr (.cells (ntC K Fr T Q O (.slice na nl nc)) 37)
      have hN2 := Bn.new K Fr T Q O (.slice na nl nc) wr
      have hgb : p < wr.heap.size := hCi.lots.lt
      have hfb := hCi.far (w' := wr.alloc (.cells (ntC K Fr T Q O (.slice na nl nc)) 37)) (Nat.le_refl _) hN2.lt
      obtain ⟨w2, HW2⟩ : ∃ w2, Hid (w2 = wr.alloc (.cells (ntC K Fr T Q O (.slice na nl nc)) 37)) := ⟨_, rfl⟩
      rw [← HW2.out] at bN hN2 hfb
      have hC2 := hCi.below bN
      have hQ2 := hQt.below bN
      have hU2 := hUi.then bN
      have hF2 := hFi.below bN
      have hg2 : w2.heap[gd]? = w.heap[gd]? := (bN.block gd hFi.lt).trans hgi
      have hnews2 := hnews.below bN
      have hnaw2 := fun g e => (hnaw g e).below bN
      obtain ⟨a2, c2, rfl⟩ : ∃ a c, v2 = .slice a Xr.length c := by obtain ⟨a, cap, e, _⟩ := hQ2.row.len; exact ⟨a, cap, e⟩
      have hLI : (Xr.length : Int) + 1 ≤ 5000 := by omega
      go_upto_region 5 with fail
      rw [← HW2.out]
      clear x0 x1 x2 x3 x4 x5
      obtain ⟨gb, HGB⟩ : ∃ gb, Hid (wr.heap.size = gb) := ⟨_, rfl⟩
      rw [HGB.out] at hN2 hfb ⊢
      cases gk with
      | zero =>
        have h5 : (5000 : Int) < i := by omega
        have HRn : Hid ((false, Fi, li) = R) := hR.out
        clear hR
        go_wp2_with fail
        go_ret
        rw [← HRn.out]
        exact ⟨rfl, Bi, hC2, hU2, hqi, hg2, hF2⟩
      | succ gk' =>
      have h5 : ¬ (5000 : Int) < i := by omega
      have y2 := hN2.c2
      have y1 := hN2.c1
      obtain ⟨n, Hn⟩ : ∃ n : Nte, Hid (n = ⟨K, Fr, T, Q, O, U⟩) := ⟨_, rfl⟩
      have hR2 : Hid ((if skipN N up n = true then settleS N up gk' Fi (Xr.map NtX.n) li
        else if ((Fi n.t.toNat).hear n.t.toNat n li).1.2 = 0 then settleS N up gk' (putF Fi n.t.toNat ((Fi n.t.toNat).hear n.t.toNat n li).2.1) (Xr.map NtX.n ++ ((Fi n.t.toNat).hear n.t.toNat n li).1.1) ((Fi n.t.toNat).hear n.t.toNat n li).2.2
        else (false, putF Fi n.t.toNat ((Fi n.t.toNat).hear n.t.toNat n li).2.1, ((Fi n.t.toNat).hear n.t.toNat n li).2.2)) = R) := by rw [Hn.out]; exact hR.out
      clear hR
      have hnT : n.t = T := by rw [Hn.out]
      have hnF : n.f = Fr := by rw [Hn.out]
      have hht := fun w' => Bnd.rhas_any up hup T w'
      have hhf := fun w' => Bnd.rhas_any up hup Fr w'
      cases hsk : skipN N up n
      case true =>
        have HRn : Hid (settleS N up gk' Fi (Xr.map NtX.n) li = R) := by
          have := hR2.out
          rw [hsk, if_pos rfl] at this
          exact this
        have hways : (N : Int) ≤ T ∨ (¬ (N : Int) ≤ T ∧ Bnd.hasS up T = false) ∨ (¬ (N : Int) ≤ T ∧ Bnd.hasS up T = true ∧ Bnd.hasS up Fr = false) := by
          unfold skipN at hsk
          rw [hnT, hnF] at hsk
          by_cases h1 : (N : Int) ≤ T
          · exact .inl h1
          · cases h2 : Bnd.hasS up T
            · exact .inr (.inl ⟨h1, rfl⟩)
            · refine .inr (.inr ⟨h1, rfl, ?_⟩)
              rw [h2, decide_eq_false h1] at hsk
              simpa using hsk
        clear hR2 hsk hnT hnF
        have hXr2 : Xr.length ≤ 5000 := by omega
        rcases hways with h1 | ⟨h1, hb⟩ | ⟨h1, hb, hb'⟩
        · go_wp2_with fail
          go_roundg gk'
          case rel => exact ⟨i + 1, Fi, li, Bi, Xr, by omega, by go_num, HRn, hC2, hQ2, hU2, hqi, hg2, hF2, h64i, hXr, hXr2⟩
          case measure => omega
        · rw [hb] at hht
          go_wp2_with (first | (go_at_call 30; go_must (refine (hht _).mono ?_; rintro e w3 ⟨rfl, rfl⟩)))
          go_roundg gk'
          case rel => exact ⟨i + 1, Fi, li, Bi, Xr, by omega, by go_num, HRn, hC2, hQ2, hU2, hqi, hg2, hF2, h64i, hXr, hXr2⟩
          case measure => omega
        · rw [hb] at hht
          rw [hb'] at hhf
          go_wp2_with fail
          refine (hht _).mono ?_
          rintro e w3 ⟨rfl, rfl⟩
          go_wp2_with fail
          refine (hhf _).mono ?_
          rintro e w4 ⟨rfl, rfl⟩
          go_wp2_with fail
          go_roundg gk'
          case rel => exact ⟨i + 1, Fi, li, Bi, Xr, by omega, by go_num, HRn, hC2, hQ2, hU2, hqi, hg2, hF2, h64i, hXr, hXr2⟩
          case measure => omega
      case false =>
      obtain ⟨i0, e1, e2, hiN, hb, hb'⟩ := skip_not hsk
      rw [hsk, if_neg (by decide), e2] at hR2
      rw [hnT] at e1 hb
      rw [hnF] at hb'
      rw [hb] at hht
      rw [hb'] at hhf
      subst e1
      have h1 : ¬ (N : Int) ≤ i0 := by omega
      clear hnT hnF hsk e2
      go_upto_region 9 with fail
      refine (hht _).mono ?_
      rintro e w3 ⟨rfl, hw⟩
      replace hw := hw.symm
      subst hw
      go_upto_region 9 with fail
      refine (hhf _).mono ?_
      rintro e w4 ⟨rfl, hw⟩
      replace hw := hw.symm
      subst hw
      go_upto_region 9 with fail
      have hX2 := hC2.sx hiN
      have rd : w2.cell? ⟨gd, i0, none⟩ = some (.pointer (some ⟨(B i0).q, 0, none⟩)) := by
        exact (World.cell?_of_block (w := w) (a := ⟨gd, i0, none⟩) hg2).trans (hds i0 hiN)
      have hh64 := h64i.hear hiN (n := ⟨K, Fr, i0, Q, O, U⟩) hnin li
      have hhl := hear_len i0 (Fi i0) ⟨K, Fr, i0, Q, O, U⟩ li
      have hhe := hear_any hX2.drew ⟨K, Fr, i0, Q, O, U⟩ na nl nc (hnews2.ru.keep fun _ _ _ => rfl) (.inr fun g e => ((hnaw2 g e).drew).away hiN) (Nat.le_trans hnin.len (by decide)) hnin.u (Nat.le_trans (h64i.W i0 hiN) (by decide)) hnin.q
      rw [Hn.out] at hR2
      rw [hqi i0] at hhe
      generalize (Fi i0).hear i0 ⟨K, Fr, i0, Q, O, U⟩ li = H at *
      obtain ⟨⟨H1, H2⟩, H3, H4⟩ := H
      dsimp only at hR2 hh64 hhe hhl
      have i00 : (0 : Int) ≤ i0 := by omega
      have hiNI : (i0 : Int) < N := by omega
      have hS2 := And.intro rd (And.intro hN2.c0 (And.intro hN2.c1 (And.intro hN2.c2 (And.intro hN2.c3 (And.intro hN2.c4 hN2.c5)))))
      clear y1 y2 rd hht hhf hb hb'
      go_region_held3 (fun w' => w'.cell? ⟨gd, i0, none⟩ = some (.pointer (some ⟨(B i0).q, 0, none⟩)) ∧ w'.cell? ⟨gb, 0, none⟩ = some (.int .i64 K) ∧ w'.cell? ⟨gb, 1, none⟩ = some (.int .i64 Fr) ∧ w'.cell? ⟨gb, 2, none⟩ = some (.int .i64 i0) ∧ w'.cell? ⟨gb, 3, none⟩ = some (.int .u64 Q) ∧ w'.cell? ⟨gb, 4, none⟩ = some (.int .i64 O) ∧ w'.cell? ⟨gb, 5, none⟩ = some (.slice na nl nc)) (first | exact hS2 | exact hS3) ((first
        | (go_at_call 15; go_must (refine hhe.mono ?_; rintro e w3 ⟨v3, X3, b3, rfl, hs3, hX3, h3, s3⟩; have kd := hF2.drew.keep hiN s3; have kb := hfb.drew.keep hiN s3; have hN3 := hN2.drew.keep kb; have hS3 := And.intro ((World.cell?_of_block (w := w2) (a := ⟨gd, i0, none⟩) kd).trans hS2.1) (And.intro hN3.c0 (And.intro hN3.c1 (And.intro hN3.c2 (And.intro hN3.c3 (And.intro hN3.c4 hN3.c5)))))))))
      have hC3 := hC2.drew.step hiN h3 s3
      have hQ3 := hQ2.drew.step hiN s3
      have hU3 := hU2.drew.stp hiN s3
      have hF3 := hF2.drew.step hiN s3
      have hg3 : w3.heap[gd]? = w.heap[gd]? := kd.trans hg2
      have hq3 : ∀ i, (putF Bi i0 b3 i).q = (B i).q := fun i => by
        by_cases e : i = i0
        · subst e; rw [putF_same]; exact s3.q.trans (hqi i)
        · rw [putF_other _ _ e]; exact hqi i
      obtain ⟨a3, c3, rfl⟩ : ∃ a c, v3 = .slice a X3.length c := by obtain ⟨a, cap, e, _⟩ := hs3.row.len; exact ⟨a, cap, e⟩
      by_cases h0 : H2 = 0
      · have h0b : (H2 == 0) = true := by simpa using h0
        have HRn : Hid (settleS N up gk' (putF Fi i0 H3) (Xr.map NtX.n ++ H1) H4 = R) := by
          have := hR2.out
          rw [if_pos h0] at this
          exact this
        clear hR2 h0
        have hl3 : X3.length ≤ 1 := by
          have q1 := congrArg List.length hX3
          rw [List.length_map] at q1
          omega
        have hXX : ∀ x ∈ Xr ++ X3, Nin A64 x.n := fun x hx => by
          rcases List.mem_append.1 hx with hx | hx
          · exact hXr x hx
          · exact hh64.2 _ (by rw [← hX3]; exact List.mem_map_of_mem hx)
        go_wp2_with (at_builtin; go_must (refine wpList_appQ Tryz.underlying43 Tryz.infoN (by decide) (by decide) w3 rfl (.tmp 57) (.tmp 58) rfl _ _ Xr X3 rfl hQ3.row rfl hs3.row (by omega) ?_; intro v4 w4 hO4 hg4 hv4))
        have hQ4 := Qn.app hC2.drew hiN s3 hQ3 hs3 hO4 hg4 hv4 hC3
        go_roundg gk'
        case rel => exact ⟨i + 1, _, _, _, Xr ++ X3, by omega, by go_num, (by show _ = _; rw [List.map_append, hX3]; exact HRn.out), hC3.grown hg4 hQ3.far, hQ4, hU3.grown hg4 (fun g e => (hQ3.far g e).2), hq3, (hg4.block gd hF3.lt (fun e => by have := (hQ3.far gd e.symm).2; omega)).trans hg3, hF3.grown hg4, hh64.1, hXX, by rw [List.length_append]; omega⟩
        case measure => omega
      · have h0b : (H2 == 0) = false := by simpa using h0
        have HRn : Hid ((false, putF Fi i0 H3, H4) = R) := by
          have := hR2.out
          rw [if_neg h0] at this
          exact this
        clear hR2 h0
        go_wp2_with fail
        go_ret
        rw [← HRn.out]
        exact ⟨rfl, _, hC3, hU3, hq3, hg3, hF3⟩
end
end Go.Proofs.YtpoofjnfaijjjaaGreatDoor
namespace Go.Proofs.YtpoofjnfaijjjaaGreatDoor
open Go.RowKit Go.Proofs.YtpoofjnfaijjjaaGreatDoor.Ro
def knowS (i : Nat) : Nat → Det → Det
  | 0, d => d
  | k + 1, d => ((knowS i k d).take i ⟨k, 0, 0⟩ i []).2.1
def beganS (n i : Nat) : Det := knowS i n (Det.new i)
def encP : Enc Nat := ⟨1, fun q => [.pointer (some ⟨q, 0, none⟩)], fun _ => rfl, fun x v hv => by
  simp only [List.mem_cons, List.not_mem_nil, or_false] at hv
  subst hv; rfl, by decide⟩
theorem Tryz.infoP : (Tryz.prog.info? 25).map (fun i => (i.zero, i.size, i.bytes)) = some (some (.pointer none), 1, 8) := by kernel_rfl
/-- The first i of them, and the row of pointers to them. -/
structure Bw (i : Nat) (B : Nat → Bl) (F : Nat → Det) (v : Value) (w0 w : World) : Prop where
  below : Below w0.heap.size w0 w
  row : OwE encP 25 w0.heap.size v ((List.range i).map fun j => (B j).q) w
  dt : ∀ j, j < i → Dt j (B j) (F j) w
  own : ∀ j, j < i → ∀ x g, (B j).own x = some g → w0.heap.size ≤ g
  sep : ∀ j m, j < i → m < i → ∀ x y g, (B j).own x = some g → (B m).own y = some g → j = m
  far : ∀ g, v.ownBlock = some g → ∀ j, j < i → ∀ x, (B j).own x ≠ some g
theorem Bw.then {i : Nat} {B : Nat → Bl} {F : Nat → Det} {v : Value} {w0 w w' : World} (h : Bw i B F v w0 w) (hb : Below w.heap.size w w') : Bw i B F v w0 w' :=
  ⟨h.below.trans (hb.mono h.below.size), h.row.below hb, fun j hj => (h.dt j hj).below hb, h.own, h.sep, h.far⟩
theorem Bw.older {i : Nat} {B : Nat → Bl} {F : Nat → Det} {v : Value} {w0 w1 w : World} (h : Bw i B F v w1 w) (hb : Below w0.heap.size w0 w1) : Bw i B F v w0 w :=
  ⟨hb.trans (h.below.mono hb.size), h.row.mono hb.size, h.dt, fun j hj x g e => Nat.le_trans hb.size (h.own j hj x g e), h.sep, h.far⟩
theorem Dt.grown {k : Nat} {b : Bl} {d : Det} {w w' : World} {r : Option Nat} (h : Dt k b d w) (hg : w.grownBy w' r) (hr : ∀ g, r = some g → 1 < g ∧ ∀ x, b.own x ≠ some g) : Dt k b d w' :=
  h.keep hg.size (fun x g hx => hg.block g (h.sep.lt x g hx).2 fun e => (hr g e.symm).2 x hx) (hg.block 1 h.tab.lt fun e => by have := (hr 1 e.symm).1; omega)
/-- One more. -/
theorem Bw.more {i : Nat} {B : Nat → Bl} {F : Nat → Det} {v v' : Value} {w0 wo w w' : World} {b : Bl} (h : Bw i B F v w0 wo) (h1 : 1 < w0.heap.size) (hb : Below wo.heap.size wo w) (hD : Dt i b (F i) w) (ho : ∀ x g, b.own x = some g → wo.heap.size ≤ g)
    (hO : OwE encP 25 w0.heap.size v' (((List.range i).map fun j => (B j).q) ++ [b.q]) w') (hg : w.grownBy w' v.ownBlock) (hv : v'.ownBlock = v.ownBlock ∨ v'.ownBlock = some w.heap.size) : Bw (i + 1) (putF B i b) F v' w0 w' := by
  have hz := h.below.size
  have hzo := hb.size
  have hlt : ∀ g, v.ownBlock = some g → w0.heap.size ≤ g ∧ g < wo.heap.size := fun g e => h.row.lt g e
  have hbw := h.below.trans (hb.mono hz)
  refine ⟨⟨hg.os.trans hbw.os, hg.tape.trans hbw.tape, hg.output.trans hbw.output, Nat.le_trans hbw.size hg.size, fun g hgl => ?_⟩, ?_, fun j hj => ?_, fun j hj x g e => ?_, fun j m hj hm x y g e1 e2 => ?_, fun g e j hj x e' => ?_⟩
  · rw [hg.block g (by omega) (fun e => by have := (hlt g e.symm).1; omega), hbw.block g hgl]
  · have e : (List.range (i + 1)).map (fun j => (putF B i b j).q) = ((List.range i).map fun j => (B j).q) ++ [b.q] := by
      rw [List.range_succ, List.map_append, List.map_singleton, putF_same]
      congr 1
      exact List.map_congr_left fun j hj => by rw [putF_other _ _ (by have := List.mem_range.1 hj; omega)]
    rw [e]
    exact hO
  · by_cases e : j = i
    · subst e
      rw [putF_same]
      exact hD.grown hg fun g e => ⟨by have := (hlt g e).1; omega, fun x e' => by have := ho x g e'; have := (hlt g e).2; omega⟩
    · rw [putF_other _ _ e]
      exact ((h.dt j (by omega)).below hb).grown hg fun g e => ⟨by have := (hlt g e).1; omega, h.far g e j (by omega)⟩
  · by_cases e' : j = i
    · subst e'; rw [putF_same] at e; have := ho x g e; omega
    · rw [putF_other _ _ e'] at e; exact h.own j (by omega) x g e
  · have key : ∀ m, m < i → ∀ x y g, b.own x = some g → (B m).own y = some g → False := fun m hm x y g e1 e2 => by
      have := ho x g e1
      have := ((h.dt m hm).sep.lt y g e2).2
      omega
    by_cases ej : j = i
    · by_cases em : m = i
      · omega
      · subst ej
        rw [putF_same] at e1
        rw [putF_other _ _ em] at e2
        exact (key m (by omega) x y g e1 e2).elim
    · by_cases em : m = i
      · subst em
        rw [putF_same] at e2
        rw [putF_other _ _ ej] at e1
        exact (key j (by omega) y x g e2 e1).elim
      · rw [putF_other _ _ ej] at e1
        rw [putF_other _ _ em] at e2
        exact h.sep j m (by omega) (by omega) x y g e1 e2
  · rcases hv with hv | hv
    · rw [hv] at e
      by_cases ej : j = i
      · subst ej; rw [putF_same] at e'; have := ho x g e'; have := (hlt g e).2; omega
      · rw [putF_other _ _ ej] at e'; exact h.far g e j (by omega) x e'
    · rw [hv] at e; cases e
      by_cases ej : j = i
      · subst ej; rw [putF_same] at e'; have := (hD.sep.lt x _ e').2; omega
      · rw [putF_other _ _ ej] at e'; have := ((h.dt j (by omega)).sep.lt x _ e').2; omega
set_option maxRecDepth 100000 in
set_option maxHeartbeats 4000000 in
theorem began_any (n : Nat) (hn : n ≤ 64) (w : World) (hT : Bnd.Tab w) :
    Calls Tryz.prog 24 #[.int .i64 n] w fun e w' => ∃ v B, e = .returned v ∧ Bw n B (beganS n) v w w' := by
  have hln := fun w => Rn.new_any (.slice none 0 0) [] w (Nat.zero_le _) (rd_nil w)
  have b1 := below_alloc w (.cells #[] 25)
  have n1 : (w.alloc (.cells #[] 25)).heap[w.heap.size]? = _ := heap_alloc_new w _
  obtain ⟨w1, HW1⟩ : ∃ w1, Hid (w1 = w.alloc (.cells #[] 25)) := ⟨_, rfl⟩
  rw [← HW1.out] at b1 n1
  have hB0 : Bw 0 (fun _ => bareB 0 0) (beganS n) (.slice (some ⟨w.heap.size, 0, none⟩) 0 0) w w1 :=
    ⟨b1, OwE.empty _ _ _ _ n1 (Nat.le_refl _), (fun j hj => by cases hj), (fun j hj => by cases hj), (fun j m hj => by cases hj), (fun g _ j hj => by cases hj)⟩
  go_enter Tryz.func24, Tryz.ntmps24
  go_upto_region 2 with fail
  rw [← HW1.out]
  go_wp2_with fail
  go_loopg [3, 4] n (fun gk t3 t4 wr => ∃ (i : Nat) (B : Nat → Bl), i + gk = n ∧ t4 = .int .i64 i ∧ Bw i B (beganS n) t3 w wr)
  case atStart => exact ⟨0, _, by omega, rfl, hB0⟩
  case round =>
    obtain ⟨i, B, hi, rfl, hB⟩ := hrel
    obtain ⟨a3, c3, e3, _⟩ := hB.row.len
    rw [show ((List.range i).map fun j => (B j).q).length = i by simp] at e3
    subst e3
    by_cases hlt : (i : Int) < n
    · have i64 : i < 64 := by omega
      have hTr := hT.below hT.lt hB.below
      have hnew := dnew_any i wr hTr
      go_upto_region 8 with (go_at_call 9; go_must (refine hnew.mono ?_; rintro e w2 ⟨hnw, _, b2⟩; obtain ⟨bN, rfl, hD2, oN⟩ := hnw i rfl i64))
      obtain ⟨G, HG⟩ : ∃ G, Hid (G = gk) := ⟨_, rfl⟩
      obtain ⟨wo, HWO⟩ : ∃ wo, Hid (wo = wr) := ⟨wr, rfl⟩
      rw [← HWO.out] at hB b2 oN
      clear hnew hnw hTr
      go_wp2_with fail
      go_loopg [6] n (fun gk t6 wr => ∃ (k : Nat) (b : Bl), k + gk = n ∧ t6 = .int .i64 k ∧ Dt i b (knowS i k (Det.new i)) wr ∧ b.q = bN.q ∧ Below wo.heap.size wo wr ∧ ∀ x g, b.own x = some g → wo.heap.size ≤ g)
      case atStart => exact ⟨0, bN, by omega, rfl, hD2, rfl, b2, oN⟩
      case round =>
        obtain ⟨k, b, hk, rfl, hD, hq, hb, ho⟩ := hrel
        by_cases hkl : (k : Int) < n
        · go_upto_region 10 with (first
            | (go_at_call 11; go_must (refine (hln _).mono ?_; rintro e w4 ⟨⟨p4, rfl, hL4⟩, b4⟩; have hX4 := hD.sx b4 hL4 ok_nil; have hkn := know_any hX4 ⟨k, 0, 0⟩ u0; rw [hq] at hkn))
            | (go_at_call 17; go_must (refine hkn.mono ?_; rintro e w5 ⟨rfl, b5, hX5, s5⟩)))
          have hU4 : Und p4 b wo w4 := ⟨bT hb b4, by have := hL4.le; have := hb.size; omega, ho⟩
          have hU5 := hU4.stp s5
          have hD5 : Dt i b5 (knowS i (k + 1) (Det.new i)) w5 := hX5.dt
          have hq5 : b5.q = bN.q := s5.q.trans hq
          clear hkn hX5 hX4 hL4 s5
          go_wp2_with fail
          go_roundg (gk - 1)
          case rel => exact ⟨k + 1, b5, by omega, by go_num, hD5, hq5, hU5.below, hU5.own⟩
          case measure => omega
        · obtain rfl : k = n := by omega
          have hDF : Dt i b (beganS k i) wr := hD
          have h1 : 1 < w.heap.size := hT.lt
          have b6 := below_alloc wr (.cells #[.pointer (some ⟨bN.q, 0, none⟩)] 25)
          have n6 : (wr.alloc (.cells #[.pointer (some ⟨bN.q, 0, none⟩)] 25)).heap[wr.heap.size]? = _ := heap_alloc_new wr _
          obtain ⟨gn, HGN⟩ : ∃ gn, Hid (wr.heap.size = gn) := ⟨_, rfl⟩
          obtain ⟨w6, HW6⟩ : ∃ w6, Hid (w6 = wr.alloc (.cells #[.pointer (some ⟨bN.q, 0, none⟩)] 25)) := ⟨_, rfl⟩
          rw [← HW6.out, HGN.out] at n6
          rw [← HW6.out] at b6
          have hb6 := bT hb b6
          have hD6 := hDF.below b6
          have hB6 := hB.then hb6
          have hO6 : OwE encP 25 0 (.slice (some ⟨gn, 0, none⟩) 1 1) [bN.q] w6 := ⟨rfl, Or.inr ⟨gn, 1, _, rfl, Nat.zero_le _, n6, Nat.le_refl _, by unfold maxLen; omega, rfl, rfl⟩⟩
          have hz6 := hB6.below.size
          go_upto_region 12 with fail
          have hrow6 := hB6.row
          go_wp2_with (at_builtin; rw [HGN.out, ← HW6.out]; go_must (refine wpList_appE2 Tryz.underlying69 Tryz.infoP (by decide) (by decide) w6 rfl (.tmp 27) (.tmp 29) rfl w.heap.size 0 _ _ ((List.range i).map fun j => (B j).q) [bN.q] rfl hrow6 hz6 rfl hO6 (by simp; omega) ?_; intro v7 w7 hO7 hg7 hv7))
          go_roundg (G - 1)
          case rel => exact ⟨i + 1, putF B i b, by have := HG.out; omega, by go_num, hB.more h1 hb6 hD6 ho (by rw [hq]; exact hO7) hg7 hv7⟩
          case measure => have := HG.out; omega
    · obtain rfl : i = n := by omega
      go_wp2_with fail
      go_ret
      exact ⟨_, rfl, B, hB⟩
end Go.Proofs.YtpoofjnfaijjjaaGreatDoor
namespace Go.Proofs.YtpoofjnfaijjjaaGreatDoor
open Go.RowKit Go.Proofs.YtpoofjnfaijjjaaGreatDoor.Ro
/-- A cluster with the row of pointers to it. -/
structure Lw (N Bp p gd : Nat) (q : Nat → Nat) (F : Nat → Det) (l : List Int) (w0 w : World) : Prop where
  ex : ∃ B, Cl N Bp p B F l w ∧ Uc N p B w0 w ∧ (∀ i, (B i).q = q i) ∧ Far N p B w gd
  row : ∀ i, i < N → w.cell? ⟨gd, i, none⟩ = some (.pointer (some ⟨q i, 0, none⟩))
  low : gd < p
/-- With notes that wait. -/
structure Lq (N Bp p gd : Nat) (q : Nat → Nat) (F : Nat → Det) (l : List Int) (v : Value) (X : List NtX) (w0 w : World) : Prop where
  ex : ∃ B, Cl N Bp p B F l w ∧ Uc N p B w0 w ∧ (∀ i, (B i).q = q i) ∧ Far N p B w gd ∧ Qn N p B v X w
  row : ∀ i, i < N → w.cell? ⟨gd, i, none⟩ = some (.pointer (some ⟨q i, 0, none⟩))
  low : gd < p
section
variable {N Bp p gd : Nat} {q : Nat → Nat} {F : Nat → Det} {l : List Int} {w w0 w' : World} {v : Value} {X : List NtX} {k : Nat}
theorem Lw.below (h : Lw N Bp p gd q F l w0 w) : Below w0.heap.size w0 w := by
  obtain ⟨B, _, hU, _⟩ := h.ex
  exact hU.below
theorem Lw.then (h : Lw N Bp p gd q F l w0 w) (hb : Below w.heap.size w w') : Lw N Bp p gd q F l w0 w' := by
  obtain ⟨⟨B, hC, hU, hq, hF⟩, hr, hl⟩ := h
  exact ⟨⟨B, hC.below hb, hU.then hb, hq, hF.below hb⟩, fun i hi => (World.cell?_of_block (w := w) (a := ⟨gd, i, none⟩) (hb.block gd hF.lt)).trans (hr i hi), hl⟩
theorem law_tick (h : Lw N Bp p gd q F l w0 w) (hk : k < N) (hW : (F k).W.length ≤ 500) :
    Calls Tryz.prog 13 #[.pointer (some ⟨q k, 0, none⟩), .pointer (some ⟨p, 0, none⟩)] w fun e w' => ∃ v X, e = .returned v ∧ X.map NtX.n = ((F k).tick k l).1 ∧ Lq N Bp p gd q (putF F k ((F k).tick k l).2.1) ((F k).tick k l).2.2 v X w0 w' := by
  obtain ⟨⟨B, hC, hU, hq, hF⟩, hr, hl⟩ := h
  have ht := tick_any (hC.sx hk) hW
  rw [hq] at ht
  refine ht.mono ?_
  rintro e w' ⟨v, X, b', rfl, hs, hX, hx, st⟩
  refine ⟨v, X, rfl, hX, ⟨putF B k b', hC.step hk hx st, hU.stp hk st, fun i => ?_, hF.step hk st, Qn.said hC hk st hs⟩, fun i hi => (World.cell?_of_block (w := w) (a := ⟨gd, i, none⟩) (hF.keep hk st)).trans (hr i hi), hl⟩
  by_cases e : i = k
  · subst e; rw [putF_same]; exact st.q.trans (hq i)
  · rw [putF_other _ _ e]; exact hq i
theorem law_settle (h : Lq N Bp p gd q F l v X w0 w) {capd : Nat} (up : Nat) (hup : up < Bnd.lim) (h64 : All64 N F) (hX : ∀ x ∈ X, Nin A64 x.n) (hXl : X.length ≤ 5000) :
    Calls Tryz.prog 25 #[.slice (some ⟨gd, 0, none⟩) N capd, .int .u64 up, v, .pointer (some ⟨p, 0, none⟩)] w fun e w' => e = .returned (.bool (settleS N up 5001 F (X.map NtX.n) l).1) ∧
      Lw N Bp p gd q (settleS N up 5001 F (X.map NtX.n) l).2.1 (settleS N up 5001 F (X.map NtX.n) l).2.2 w0 w' := by
  obtain ⟨⟨B, hC, hU, hq, hF, hQ⟩, hr, hl⟩ := h
  refine (settle_any (fun i hi => by rw [hq]; exact hr i hi) hF hl up hup hC hQ h64 hX hXl hU).mono ?_
  rintro e w' ⟨rfl, B', hC', hU', hq', hg', hF'⟩
  exact ⟨rfl, ⟨B', hC', hU', fun i => (hq' i).trans (hq i), hF'⟩, fun i hi => (World.cell?_of_block (w := w) (a := ⟨gd, i, none⟩) hg').trans (hr i hi), hl⟩
theorem law_know (h : Lw N Bp p gd q F l w0 w) (hk : k < N) (u : Upd) (hu : U64 u.i) :
    Calls Tryz.prog 17 #[.pointer (some ⟨q k, 0, none⟩), .agg #[.int .i64 u.n, .int .u64 u.i, .int .i64 u.s], .pointer (some ⟨p, 0, none⟩)] w fun e w' => e = .returned (.int .i64 ((F k).take k u k l).1) ∧ Lw N Bp p gd q (putF F k ((F k).take k u k l).2.1) ((F k).take k u k l).2.2 w0 w' := by
  obtain ⟨⟨B, hC, hU, hq, hF⟩, hr, hl⟩ := h
  have ht := know_any (hC.sx hk) u hu
  rw [hq] at ht
  refine ht.mono ?_
  rintro e w' ⟨rfl, b', hx, st⟩
  refine ⟨rfl, ⟨putF B k b', hC.step hk hx st, hU.stp hk st, fun i => ?_, hF.step hk st⟩, fun i hi => (World.cell?_of_block (w := w) (a := ⟨gd, i, none⟩) (hF.keep hk st)).trans (hr i hi), hl⟩
  by_cases e : i = k
  · subst e; rw [putF_same]; exact st.q.trans (hq i)
  · rw [putF_other _ _ e]; exact hq i
theorem law_live (h : Lw N Bp p gd q F l w0 w) (hk : k < N) :
    Calls Tryz.prog 27 #[.pointer (some ⟨q k, 0, none⟩)] w fun e w' => e = .returned (.int .u64 (F k).live) ∧ Below w.heap.size w w' := by
  obtain ⟨⟨B, hC, hU, hq, hF⟩, hr, hl⟩ := h
  have := live_any (hC.sx hk)
  rw [hq] at this
  exact this
theorem law_all (h : Lw N Bp p gd q F l w0 w) (hk : k < N) :
    Calls Tryz.prog 28 #[.pointer (some ⟨q k, 0, none⟩)] w fun e w' => (∃ v, e = .returned v ∧ Ro.Own w.heap.size v (allS (F k).f) w') ∧ Below w.heap.size w w' := by
  obtain ⟨⟨B, hC, hU, hq, hF⟩, hr, hl⟩ := h
  have := dall_any (hC.sx hk)
  rw [hq] at this
  exact this
/-- Behind began, with lots. -/
theorem law_began {B : Nat → Bl} {v : Value} (hT : Bnd.Tab w) (hN : 0 < N) (h : Bw N B F v w0 w) (hb : Below w.heap.size w w') (hl : Rn.Lt w.heap.size p l w') (hok : Rn.Ok l) :
    ∃ gd cap, v = .slice (some ⟨gd, 0, none⟩) N cap ∧ Lw N w.heap.size p gd (fun i => (B i).q) F l w0 w' := by
  have hrow := h.row
  obtain ⟨a, cap, e, hle, hm⟩ := hrow.len
  rw [show ((List.range N).map fun j => (B j).q).length = N by simp] at e
  rcases id hrow.2 with ⟨e', h0⟩ | ⟨gd, cap', cur, e', hg, hcur, _⟩
  · simp at h0; omega
  · rw [e] at e'
    injection e' with ea _ _
    subst ea
    have hlt : gd < w.heap.size := (Array.getElem?_eq_some_iff.1 hcur).1
    refine ⟨gd, cap, e, ⟨B, ⟨fun i hi => (h.dt i hi).below hb, hl, hok, fun i hi x g ex => .inl ((h.dt i hi).sep.lt x g ex).2, hT.lt, h.sep⟩, ⟨h.below.trans (hb.mono h.below.size), by have := hl.le; have := h.below.size; omega, h.own⟩, fun _ => rfl, ⟨Nat.lt_of_lt_of_le hlt hb.size, by have := hl.le; omega, fun i hi x => h.far gd (by rw [e]; rfl) i hi x⟩⟩, fun i hi => ?_, by have := hl.le; omega⟩
    obtain ⟨a2, c2, e2, _, _, h3⟩ := (hrow.below hb).rd
    rw [show ((List.range N).map fun j => (B j).q).length = N by simp, e] at e2
    cases e2
    rcases h3 with h3 | ⟨g', off, e3, h3⟩
    · simp at h3; omega
    · cases e3
      have k := h3 i 0 (by simpa using hi) (by decide)
      simp only [Nat.zero_add, Nat.add_zero, List.getElem_map, List.getElem_range] at k
      have k' : w'.cell? ⟨gd, i * 1, none⟩ = some (.pointer (some ⟨(B i).q, 0, none⟩)) := k
      rwa [Nat.mul_one] at k'
end
end Go.Proofs.YtpoofjnfaijjjaaGreatDoor
namespace Go.Proofs.YtpoofjnfaijjjaaGreatDoor
open Go.RowKit Go.Proofs.YtpoofjnfaijjjaaGreatDoor.Ro
/-- All below m, and k, are known, and Alive. -/
def fullK (m k : Nat) : Tab := fun j => if j < m ∨ j = k then some ⟨j, 0, 0⟩ else none
def full (n : Nat) : Tab := fun j => if j < n then some ⟨j, 0, 0⟩ else none
/-- Updates that say no more than that. -/
structure Af (n : Nat) (u : Upd) : Prop where
  n0 : 0 ≤ u.n
  n1 : u.n < n
  i : u.i = 0
  s : u.s = 0
theorem Af.eq {n : Nat} {u : Upd} (h : Af n u) : ∃ j : Nat, j < n ∧ u = ⟨j, 0, 0⟩ := by
  obtain ⟨a, b, c⟩ := u
  obtain ⟨h1, h2, h3, h4⟩ := h
  dsimp only at h1 h2 h3 h4
  exact ⟨a.toNat, by omega, by rw [h3, h4]; congr; omega⟩
theorem af_cls (n k : Nat) : Cls (Af n) (fun i => i = 0) k :=
  ⟨(fun u h hs => by rw [h.s] at hs; cases hs), (fun u i h _ hi hn => by
    rw [h.i, h.s, hi] at hn
    cases hn)⟩
theorem newer_not : newerS 0 0 0 0 = false := rfl
theorem fullK_top {n k : Nat} (h : k < n) : fullK n k = full n := by
  funext j
  unfold fullK full
  by_cases e : j < n
  · rw [if_pos (.inl e), if_pos e]
  · rw [if_neg e, if_neg (by omega)]
theorem may_alive {m : Nat} (h : m < 64) : mayU ⟨m, 0, 0⟩ = true := by
  unfold mayU mayS
  simp
  omega
/-- Nothing is news there. -/
theorem hear_full {n k j : Nat} (hn : n ≤ 64) (hk : k < n) (hj : j < n) : hearS k (full n) ⟨j, 0, 0⟩ = ((false, 70), full n) := by
  unfold hearS
  rw [if_pos (may_alive (by omega))]
  by_cases e : j = k
  · subst e
    rw [if_pos (by simp)]
    unfold refuteS
    have hd : denS (j : Nat) (ud (full n j)).i (j : Int) 0 0 = false := by
      unfold denS full
      rw [if_pos hk]
      simp [ud, newer_not]
    rw [if_neg (by rw [hd]; decide)]
  · rw [if_neg (by simp; omega)]
    have hf : full n (j : Int).toNat = some ⟨j, 0, 0⟩ := by
      unfold full
      rw [Int.toNat_natCast, if_pos hj]
    rw [if_pos (by show ((full n (j : Int).toNat).isSome && !newerU ⟨j, 0, 0⟩ (ud (full n (j : Int).toNat))) = true; rw [hf]; rfl)]
theorem hear_know {k m : Nat} (hm : m < 64) : (hearS k (fullK m k) ⟨m, 0, 0⟩).2 = fullK (m + 1) k := by
  unfold hearS
  rw [if_pos (may_alive hm)]
  by_cases e : m = k
  · subst e
    rw [if_pos (by simp)]
    unfold refuteS
    have hd : denS (m : Nat) (ud (fullK m m m)).i (m : Int) 0 0 = false := by
      unfold denS fullK
      rw [if_pos (.inr rfl)]
      simp [ud, newer_not]
    rw [if_neg (by rw [hd]; decide)]
    funext j
    show fullK m m j = _
    unfold fullK
    by_cases e : j < m ∨ j = m
    · rw [if_pos e, if_pos (by omega)]
    · rw [if_neg e, if_neg (by omega)]
  · rw [if_neg (by simp; omega)]
    have hf : fullK m k (m : Int).toNat = none := by
      unfold fullK
      rw [Int.toNat_natCast, if_neg (by omega)]
    rw [if_neg (by show ¬ ((fullK m k (m : Int).toNat).isSome && !newerU ⟨m, 0, 0⟩ (ud (fullK m k (m : Int).toNat))) = true; rw [hf]; simp)]
    funext j
    show (fullK m k).set (m : Int).toNat ⟨m, 0, 0⟩ j = _
    rw [Int.toNat_natCast]
    by_cases ej : j = m
    · subst ej
      rw [Tab.set_same]
      unfold fullK
      rw [if_pos (by omega)]
    · rw [Tab.set_other _ _ ej]
      unfold fullK
      by_cases e : j < m ∨ j = k
      · rw [if_pos e, if_pos (by omega)]
      · rw [if_neg e, if_neg (by omega)]
/-- A detector in peace. -/
structure Cm (n k : Nat) (d : Det) : Prop where
  ni : Ni (Af n) (fun i => i = 0) k d
  f : d.f = full n
  D : d.D = []
  E : d.E = []
  W : d.W = []
  le : d.le = false
theorem take_D {k : Nat} {d : Det} {u : Upd} (hs : u.s = 0) (hD : d.D = []) (f : Int) (l : List Int) : (d.take k u f l).2.1.D = [] := by
  have hne : ¬ u.s = 1 := by rw [hs]; decide
  unfold Det.take
  split
  · exact hD
  · split
    · unfold Det.learn
      rw [if_neg hne]
      split
      · show Do.lessD d.D u.n = []; rw [hD]; rfl
      · show Do.lessD d.D u.n = []; rw [hD]; rfl
    · split
      · exact hD
      · split
        · rename_i h; exact absurd h.1 hne
        · exact hD
theorem know_step {n k : Nat} (hn : n ≤ 64) (hk : k < n) : ∀ m, m ≤ n → Ni (Af n) (fun i => i = 0) k (knowS k m (Det.new k)) ∧ (knowS k m (Det.new k)).f = fullK m k ∧ (knowS k m (Det.new k)).D = [] ∧ (knowS k m (Det.new k)).E = [] ∧ (knowS k m (Det.new k)).W = [] ∧ (knowS k m (Det.new k)).le = false
  | 0, _ => ⟨Ni.new ⟨by show (0 : Int) ≤ k; omega, by show (k : Int) < n; omega, rfl, rfl⟩ rfl, by
      show newS k = _
      funext j
      unfold newS fullK
      by_cases e : j = k
      · subst e; rw [Tab.set_same, if_pos (.inr rfl)]
      · rw [Tab.set_other _ _ e, if_neg (by omega)], rfl, rfl, rfl, rfl⟩
  | m + 1, h => by
    obtain ⟨h1, h2, h3, h4, h5, h6⟩ := know_step hn hk m (by omega)
    obtain ⟨t1, t2, _, _, t5, t6⟩ := take_fr k (knowS k m (Det.new k)) ⟨m, 0, 0⟩ k []
    refine ⟨h1.take (af_cls n k) ⟨by show (0 : Int) ≤ m; omega, by show (m : Int) < n; omega, rfl, rfl⟩ _ _, ?_, take_D rfl h3 _ _, t2.trans h4, t1.trans h5, t5.trans h6⟩
    show ((knowS k m (Det.new k)).take k ⟨m, 0, 0⟩ k []).2.1.f = _
    rw [t6, h2]
    exact hear_know (by omega)
theorem began_cm {n k : Nat} (hn : n ≤ 64) (hk : k < n) : Cm n k (beganS n k) := by
  obtain ⟨h1, h2, h3, h4, h5, h6⟩ := know_step hn hk n (Nat.le_refl _)
  exact ⟨h1, h2.trans (fullK_top hk), h3, h4, h5, h6⟩
section
variable {n k : Nat} {d : Det}
theorem take_cm (hn : n ≤ 64) (hk : k < n) (hf : d.f = full n) {u : Upd} (hu : Af n u) (f : Int) (l : List Int) : d.take k u f l = (0, d, l) := by
  obtain ⟨j, hj, rfl⟩ := hu.eq
  unfold Det.take
  rw [hf, hear_full hn hk hj]
  obtain ⟨f', s, Q, D, W, E, la, no, le⟩ := d
  dsimp only at hf
  subst hf
  rfl
theorem takes_cm (hn : n ≤ 64) (hk : k < n) (hf : d.f = full n) (f : Int) (l : List Int) : ∀ U : List Upd, (∀ u ∈ U, Af n u) → d.takes k f U l = (0, d, l)
  | [], _ => rfl
  | u :: r, h => by
    rw [Det.takes, take_cm hn hk hf (h u (by simp)), if_neg (show ¬ (0 : Int) = 60 by decide)]
    exact takes_cm hn hk hf f l r fun v hv => h v (by simp [hv])
theorem first_cm (hf : d.f = full n) {x : Nat} (hx : x < n) (hx64 : x < 64) (l : List Int) : d.first k x l = (d, l) := by
  unfold Det.first
  rw [if_pos]
  unfold getS
  rw [if_pos (by omega), hf]
  unfold full
  rw [Int.toNat_natCast, if_pos hx]
  rfl
/-- A note that is heard in peace is answered, and that is all. -/
theorem hear_cm (hn : n ≤ 64) (hk : k < n) (hf : d.f = full n) (hle : d.le = false) {K q o : Int} {x : Nat} {U : List Upd} (hx : x < n) (hxk : x ≠ k) (ho : Nd o) (hK : 1 ≤ K ∧ K ≤ 3) (hU : ∀ u ∈ U, Af n u) (l : List Int) :
    d.hear k ⟨K, x, k, q, o, U⟩ l = (((d.answer k ⟨K, x, k, q, o, U⟩).1, 0), (d.answer k ⟨K, x, k, q, o, U⟩).2, l) := by
  have hflt : d.fault k ⟨K, x, k, q, o, U⟩ = 0 := by
    unfold Det.fault
    rw [if_neg (by rw [hle]; decide)]
    have h1 : nodeB (x : Int) = true := by unfold nodeB; simp; omega
    have h2 : nodeB o = true := by unfold nodeB; simp; exact ho
    rw [if_neg (by simp [h1, h2]; omega), if_neg (show ¬ (K < 1 ∨ 3 < K) by omega)]
  unfold Det.hear
  rw [if_neg (by rw [hflt]; decide)]
  dsimp only
  rw [first_cm hf hx (by omega), takes_cm hn hk hf _ _ U hU]
  rfl
theorem Cm.told (h : Cm n k d) (x : Int) : Cm n k (d.told k x) := ⟨h.ni.told x, h.f, h.D, h.E, h.W, h.le⟩
/-- An answer ends the watch. -/
theorem ack_cm {x : Nat} {q a : Int} {U : List Upd} (hE : d.E = []) (hW : d.W = [⟨x, q, a, false⟩]) : d.answer k ⟨2, x, k, q, x, U⟩ = ([], { d with W := [] }) := by
  unfold Det.answer
  rw [if_neg (by show ¬ (2 : Int) = 1; decide), if_pos rfl]
  unfold Det.acked
  rw [hE, hW]
  show (_, _) = _
  simp [ackW]
/-- Others are known. -/
theorem oth_full (hn : n ≤ 64) (h2 : 2 ≤ n) (hI : Inv k (full n)) : othS k (full n) ≠ [] ∧ ∀ x ∈ othS k (full n), ∃ j : Nat, x = j ∧ j < n ∧ j ≠ k := by
  refine ⟨fun e => ?_, fun x hx => ?_⟩
  · have hj : ∃ j : Nat, j < n ∧ j ≠ k := by
      by_cases h : k = 0
      · exact ⟨1, by omega, by omega⟩
      · exact ⟨0, by omega, by omega⟩
    obtain ⟨j, hj, hjk⟩ := hj
    have : (j : Int) ∈ othS k (full n) := by
      unfold othS
      rw [Bnd.mem_lst]
      unfold Bnd.hasS
      rw [Bnd.testBit_lessS, Int.toNat_natCast, testBit_all hI (by omega : j < 64)]
      have hl : liveAt (full n) j = true := by
        unfold liveAt full
        rw [if_pos hj]
        rfl
      simp [hl, Bnd.nodeS]
      omega
    rw [e] at this
    cases this
  · have hne := oth_not k (full n) x hx
    have hr := oth_nd hx
    unfold othS at hx
    rw [Bnd.mem_lst] at hx
    unfold Bnd.hasS at hx
    simp only [Bool.and_eq_true] at hx
    have h2 := hx.2
    rw [Bnd.testBit_lessS, testBit_all hI (by have := hr.2; omega : x.toNat < 64)] at h2
    have hl : liveAt (full n) x.toNat = true := by
      cases e : liveAt (full n) x.toNat
      · rw [e] at h2; cases h2
      · rfl
    refine ⟨x.toNat, by have := hr.1; omega, ?_, by have := hr.1; omega⟩
    unfold liveAt full at hl
    by_cases h : x.toNat < n
    · exact h
    · rw [if_neg h] at hl; cases hl
theorem nxt_some {s o : List Int} (l : List Int) (h : o ≠ []) : (Rn.nxtS s o l).1.2 = true := by
  unfold Rn.nxtS
  rw [if_neg h]
  split <;> rfl
theorem inv_full (hn : n ≤ 64) (hk : k < n) : Inv k (full n) := by
  refine ⟨by omega, ⟨0, ?_⟩, fun j u h => ?_⟩
  · unfold full
    rw [if_pos hk]
  · unfold full at h
    by_cases e : j < n
    · rw [if_pos e] at h
      obtain rfl := Option.some.inj h
      exact ⟨may_alive (by omega), rfl, by unfold InOk; dsimp only; omega⟩
    · rw [if_neg e] at h; cases h
/-- Behind a ping that is not yet answered. -/
structure Cp (n k : Nat) (x q a : Int) (d : Det) : Prop where
  ni : Ni (Af n) (fun i => i = 0) k d
  f : d.f = full n
  D : d.D = []
  E : d.E = []
  W : d.W = [⟨x, q, a, false⟩]
  le : d.le = false
theorem tick_cm (hn : n ≤ 64) (hk : k < n) (h2 : 2 ≤ n) (h : Cm n k d) (l : List Int) :
    ∃ (x : Nat) (q a : Int) (U : List Upd), x < n ∧ x ≠ k ∧ (d.tick k l).1 = [⟨1, k, x, q, 0, U⟩] ∧ Nin (Af n) ⟨1, k, x, q, 0, U⟩ ∧ Cp n k x q a (d.tick k l).2.1 := by
  have ht := Ni.tick (af_cls n k) h.ni (fun x hx => by rw [h.W] at hx; cases hx) l
  have ho := oth_full (k := k) hn h2 (inv_full hn hk)
  obtain ⟨f, s, Q, D, W, E, la, no, le⟩ := d
  obtain ⟨_, h2', h3, h4, h5, h6⟩ := h
  dsimp only at h2' h3 h4 h5 h6
  subst h2' h3 h4 h5 h6
  have e : (⟨full n, s, Q, [], [], [], la, no, false⟩ : Det).tick k l = (⟨full n, s, Q, [], [], [], la, u64w (no + 1), false⟩ : Det).pingNext k l := rfl
  rw [e] at ht ⊢
  have hnx := nxt_some (s := s) (o := othS k (full n)) l ho.1
  obtain ⟨x, hx, hxn, hxk⟩ := ho.2 _ (nxt_in (s := s) l hnx)
  unfold Det.pingNext at ht ⊢
  dsimp only at ht ⊢
  rw [if_neg (by rw [hnx]; decide)] at ht ⊢
  rw [hx] at ht ⊢
  exact ⟨x, _, _, _, hxn, hxk, rfl, ht.1 _ (by simp; rfl), ⟨ht.2, rfl, rfl, rfl, rfl, rfl⟩⟩
/-- A tick of one of them, and what follows. -/
theorem calm_step {F : Nat → Det} (hn : n ≤ 8) (hk : k < n) (h2 : 2 ≤ n) (h : ∀ j, j < n → Cm n j (F j)) (l : List Int) :
    (∀ x ∈ ((F k).tick k l).1, Nin A64 x) ∧ ((F k).tick k l).1.length ≤ 1 ∧ All64 n (putF F k ((F k).tick k l).2.1) ∧ (settleS n 255 5001 (putF F k ((F k).tick k l).2.1) ((F k).tick k l).1 ((F k).tick k l).2.2).1 = true ∧
      ∀ j, j < n → Cm n j ((settleS n 255 5001 (putF F k ((F k).tick k l).2.1) ((F k).tick k l).1 ((F k).tick k l).2.2).2.1 j) := by
  obtain ⟨x, q, a, U, hx, hxk, e1, hN, hP⟩ := tick_cm (by omega) hk h2 (h k hk) l
  generalize (F k).tick k l = T at *
  obtain ⟨T1, T2, T3⟩ := T
  dsimp only at e1 hP ⊢
  subst e1
  have hup : ∀ j : Nat, j < n → Bnd.hasS 255 j = true := fun j hj => by
    have : j = 0 ∨ j = 1 ∨ j = 2 ∨ j = 3 ∨ j = 4 ∨ j = 5 ∨ j = 6 ∨ j = 7 := by omega
    rcases this with e | e | e | e | e | e | e | e <;> subst e <;> rfl
  have to64 : ∀ {A : Upd → Prop}, (∀ u, A u → A64 u) → ∀ {m : Nte}, Nin A m → Nin A64 m := fun ha m hm => ⟨hm.q, hm.len, fun v hv => ha v (hm.u v hv)⟩
  have haf : ∀ u, Af n u → A64 u := fun u hu => by unfold A64; rw [hu.i]; exact ⟨by decide, by decide⟩
  have hni : ∀ {j : Nat} {d : Det}, Ni (Af n) (fun i => i = 0) j d → Ni A64 U64 j d := fun hd => ⟨by
      obtain ⟨i, hi, e⟩ := hd.m
      exact ⟨i, hi, by rw [e]; exact ⟨by decide, by decide⟩⟩, fun j u hu => haf u (hd.f j u hu), hd.n, fun y hy => haf _ (hd.Q y hy), fun y hy => haf _ (hd.D y hy), hd.E, hd.W⟩
  have hFx : putF F k T2 x = F x := putF_other _ _ hxk
  have hcx := h x hx
  have hh1 := hear_cm (d := F x) (K := 1) (q := q) (o := 0) (U := U) (by omega) hx hcx.f hcx.le hk (fun e => hxk e.symm) ⟨by decide, by decide⟩ ⟨by decide, by decide⟩ hN.u T3
  have ha1 : (F x).answer x ⟨1, k, x, q, 0, U⟩ = ([⟨2, x, k, q, x, (F x).news x k⟩], (F x).told x k) := rfl
  rw [ha1] at hh1
  have hcx' := hcx.told k
  obtain ⟨V, HV⟩ : ∃ V, (F x).news x k = V := ⟨_, rfl⟩
  have hVA : ∀ u ∈ V, Af n u := by rw [← HV]; exact (news_A hcx.ni k).2
  rw [HV] at hh1
  have hh2 := hear_cm (d := T2) (K := 2) (q := q) (o := x) (U := V) (by omega) hk hP.f hP.le hx hxk ⟨by omega, by omega⟩ ⟨by decide, by decide⟩ hVA T3
  rw [ack_cm hP.E hP.W] at hh2
  have hFk : putF (putF F k T2) x ((F x).told x k) k = T2 := by rw [putF_other _ _ (fun e => hxk e.symm), putF_same]
  have hset : settleS n 255 5001 (putF F k T2) [⟨1, k, x, q, 0, U⟩] T3 = (true, putF (putF (putF F k T2) x ((F x).told x k)) k { T2 with W := [] }, T3) := by
    have s1 : skipN n 255 ⟨1, k, x, q, 0, U⟩ = false := by
      unfold skipN
      dsimp only
      rw [hup x hx, hup k hk, decide_eq_false (by omega)]
      rfl
    have s2 : skipN n 255 ⟨2, x, k, q, x, V⟩ = false := by
      unfold skipN
      dsimp only
      rw [hup x hx, hup k hk, decide_eq_false (by omega)]
      rfl
    show settleS n 255 (5000 + 1) _ _ _ = _
    rw [settleS, s1, if_neg (by decide)]
    dsimp only
    rw [Int.toNat_natCast, hFx, hh1, if_pos rfl]
    dsimp only
    show settleS n 255 (4999 + 1) _ _ _ = _
    rw [List.nil_append, settleS, s2, if_neg (by decide)]
    dsimp only
    rw [Int.toNat_natCast, hFk, hh2, if_pos rfl]
    rfl
  rw [hset]
  refine ⟨fun y hy => ?_, Nat.le_refl _, ⟨fun j hj => ?_, fun j hj => ?_⟩, rfl, fun j hj => ?_⟩
  · obtain rfl := List.mem_singleton.1 hy
    exact to64 haf hN
  · by_cases e : j = k
    · subst e; rw [putF_same]; exact hni hP.ni
    · rw [putF_other _ _ e]; exact hni (h j hj).ni
  · by_cases e : j = k
    · subst e; rw [putF_same, hP.W]; simp
    · rw [putF_other _ _ e, (h j hj).W]; simp
  · show Cm n j (putF _ _ _ j)
    by_cases e : j = k
    · subst e; rw [putF_same]
      exact ⟨⟨hP.ni.m, hP.ni.f, hP.ni.n, hP.ni.Q, hP.ni.D, hP.ni.E, fun y hy => by cases hy⟩, hP.f, hP.D, hP.E, rfl, hP.le⟩
    · rw [putF_other _ _ e]
      by_cases e' : j = x
      · subst e'; rw [putF_same]; exact hcx'
      · rw [putF_other _ _ e', putF_other _ _ e]; exact h j hj
end
theorem lf2 : Bnd.manyS (bandS (allS (full 2))) = 2 := by kernel_rfl
theorem lf3 : Bnd.manyS (bandS (allS (full 3))) = 3 := by kernel_rfl
theorem lf4 : Bnd.manyS (bandS (allS (full 4))) = 4 := by kernel_rfl
theorem lf5 : Bnd.manyS (bandS (allS (full 5))) = 5 := by kernel_rfl
theorem lf6 : Bnd.manyS (bandS (allS (full 6))) = 6 := by kernel_rfl
theorem lf7 : Bnd.manyS (bandS (allS (full 7))) = 7 := by kernel_rfl
theorem lf8 : Bnd.manyS (bandS (allS (full 8))) = 8 := by kernel_rfl
theorem live_full : ∀ n : Nat, 2 ≤ n → n ≤ 8 → Bnd.manyS (bandS (allS (full n))) = n := fun n h2 h8 => by
  have : n = 2 ∨ n = 3 ∨ n = 4 ∨ n = 5 ∨ n = 6 ∨ n = 7 ∨ n = 8 := by omega
  rcases this with e | e | e | e | e | e | e <;> subst e
  · exact lf2
  · exact lf3
  · exact lf4
  · exact lf5
  · exact lf6
  · exact lf7
  · exact lf8
theorem all_full {n : Nat} (hn : n ≤ 64) (hk : 0 < n) : ∀ u ∈ allS (full n), u.i = 0 ∧ u.s = 0 := fun u hu => by
  have h := (all_get (inv_full hn hk) hu).1
  unfold getS at h
  split at h
  · unfold full at h
    split at h
    · rw [← Option.some.inj h]; exact ⟨rfl, rfl⟩
    · cases h
  · cases h
end Go.Proofs.YtpoofjnfaijjjaaGreatDoor
