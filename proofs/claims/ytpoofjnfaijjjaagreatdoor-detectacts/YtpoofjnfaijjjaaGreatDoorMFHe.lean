/-
  The reference's Hear.
-/
import Derived.Test.YtpoofjnfaijjjaaGreatDoorMFAc
namespace Go.Proofs.YtpoofjnfaijjjaaGreatDoor.Fx
open Go.RowKit Go.Proofs.YtpoofjnfaijjjaaGreatDoor Go.Proofs.YtpoofjnfaijjjaaGreatDoor.Ro
def Nv (c : Rc) (b : Rw) (w : World) (v : Value) (u : List Upd) : Prop := u = [] ∨ ∀ g, v.ownBlock = some g → g < w.heap.size ∧ g ≠ c.y ∧ ∀ i, c.own b i ≠ some g
section
variable {c : Rc} {b b' : Rw} {d : Det} {m : List Int} {w w' : World}
theorem Nv.step {v : Value} {u : List Upd} (h : Nv c b w v u) (S : Sr c b w b' w') : Nv c b' w' v u := by
  rcases h with h | h
  · exact .inl h
  · refine .inr fun g hg => ?_
    obtain ⟨h1, h2, h3⟩ := h g hg
    refine ⟨Nat.lt_of_lt_of_le h1 S.size, h2, fun i e => ?_⟩
    rcases S.fr i g e with e | e
    · exact h3 i e
    · omega
theorem ruN {v : Value} {u : List Upd} (hU : Ro.Ru v u w) (h : Nv c b w v u) (S : Sr c b w b' w') : Ro.Ru v u w' := by
  rcases h with h | h
  · subst h
    obtain ⟨a, cap, e, h1, h2, _⟩ := hU
    exact ⟨a, cap, e, h1, h2, .inl rfl⟩
  · exact hU.keep fun g hg _ => S.block g (h g hg).1 (h g hg).2.1 (h g hg).2.2
theorem takes_drop (k : Nat) (d : Det) (f : Int) (U : List Upd) (l : List Int) (j : Nat) (hj : j < U.length) : d.takes k f (U.drop j) l = if (d.take k U[j] f l).1 = 60 then (60, (d.take k U[j] f l).2) else (d.take k U[j] f l).2.1.takes k f (U.drop (j + 1)) (d.take k U[j] f l).2.2 := by
  rw [List.drop_eq_getElem_cons hj]
  rfl
theorem takes_W (k : Nat) (f : Int) : ∀ (U : List Upd) (d : Det) (l : List Int), (d.takes k f U l).2.1.W = d.W
  | [], _, _ => rfl
  | u :: r, d, l => by
    unfold Det.takes
    split
    · exact (take_W k d u f l).1
    · rw [takes_W k f r]; exact (take_W k d u f l).1
theorem first_W (k : Nat) (d : Det) (f : Int) (l : List Int) : (d.first k f l).1.W = d.W := by
  unfold Det.first
  split
  · rfl
  · exact (take_W k d _ f l).1
set_option maxRecDepth 100000 in
set_option maxHeartbeats 16000000 in
theorem fhearn_any (h : Ry c b d m w) (n : Nte) (na : Option Addr) (nl nc : Nat) (hU : Ro.Ru (.slice na nl nc) n.u w) (hA : Nv c b w (.slice na nl nc) n.u) (hl : n.u.length ≤ 1000000) (hin : ∀ u ∈ n.u, U64 u.i) (hW : d.W.length ≤ 100000) (hq : U64 n.q) :
    Calls Tryz.prog 16 #[.pointer (some ⟨c.q, 0, none⟩), .agg (ntC n.k n.f n.t n.q n.o (.slice na nl nc)), .pointer (some ⟨c.y, 0, none⟩)] w fun e w' => ∃ v X b', e = .returned (.tuple #[v, .int .i64 (d.hear c.k n m).1.2]) ∧ Fx.Sd c b' w v X w' ∧ X.map NtX.n = (d.hear c.k n m).1.1 ∧ Ry c b' (d.hear c.k n m).2.1 (d.hear c.k n m).2.2 w' ∧ Sr c b w b' w' := by
  obtain ⟨K, F, T, Q, O, U⟩ := n
  dsimp only at hU hA hl hin hq ⊢
  have ba := below_alloc w (.cells (ntC K F T Q O (.slice na nl nc)) 52)
  have hN := Fx.Bn.new K F T Q O (.slice na nl nc) w
  have h1 := h.below ba
  obtain ⟨w1, HW1⟩ : ∃ w1, Hid (w1 = w.alloc (.cells (ntC K F T Q O (.slice na nl nc)) 52)) := ⟨_, rfl⟩
  rw [← HW1.out] at ba hN h1
  obtain ⟨gn, HGN⟩ : ∃ gn, Hid (w.heap.size = gn) := ⟨_, rfl⟩
  rw [HGN.out] at hN
  have hgn : ∀ {w' : World}, gn < w'.heap.size → Off c b w' gn := fun hlt => h.off (by rw [HGN.out]; exact Nat.le_refl _) hlt
  have S1 : Sr c b w b w1 := Sr.of ba
  obtain ⟨R, HR⟩ : ∃ R, Hid (d.hear c.k ⟨K, F, T, Q, O, U⟩ m = R) := ⟨_, rfl⟩
  rw [HR.out]
  have c9 := h1.c9
  cases hle : d.le
  case true =>
    have HR1 := HR
    unfold Det.hear at HR1
    have hf : d.fault c.k ⟨K, F, T, Q, O, U⟩ = 5 := by unfold Det.fault; rw [if_pos hle]
    rw [if_pos (by rw [hf]; decide), hf] at HR1
    rw [hle] at c9
    go_enter Tryz.func16, Tryz.ntmps16
    go_upto_region 1 with fail
    rw [HGN.out, ← HW1.out]
    go_wp2_with fail
    rw [← HR1.out]
    first
      | exact bodyPost_ret (v := .tuple #[.slice none 0 0, .int .i64 5]) (by simp [results, Tryz.results16, go_sem]) rfl ⟨_, rfl, [], b, Fx.Sd.nil _ _ _ _, rfl, h1, S1⟩
      | exact bodyPost_ret (v := .tuple #[.slice none 0 0, .int .i64 5]) (by simp [results, Tryz.results16, go_sem]) rfl ⟨_, [], b, rfl, Fx.Sd.nil _ _ _ _, rfl, h1, S1⟩
  case false =>
  rw [hle] at c9
  obtain ⟨Bd, HB⟩ : ∃ Bd : Bool, Hid (decide (T ≠ (c.k : Int) ∨ F = (c.k : Int) ∨ nodeB F = false ∨ nodeB O = false) = Bd) := ⟨_, rfl⟩
  have HF : Hid (d.fault c.k ⟨K, F, T, Q, O, U⟩ = if Bd = true then 1 else if K < 1 ∨ 3 < K then 150 else 0) := by
    show _ = _
    unfold Det.fault
    rw [if_neg (by rw [hle]; decide), ← HB.out]
    simp only [decide_eq_true_eq]
  have hN1 := hN
  have c0 := h1.c0
  have n1 := hN.c1
  have n2 := hN.c2
  have n4 := hN.c4
  go_enter Tryz.func16, Tryz.ntmps16
  go_upto_region 1 with fail
  rw [HGN.out, ← HW1.out]
  go_upto_region 3 with fail
  go_cut [51] from 16 to 51 (fun t51 wx => t51 = .bool Bd ∧ Below w1.heap.size w1 wx)
  case first =>
    cases hT : (T != (c.k : Int))
    case true =>
      have hb : Bd = true := by rw [← HB.out]; simp at hT ⊢; exact .inl hT
      subst hb
      go_quiet (fail)
      have bq := Ro.below_drewN w1.heap.size w1 nq
      go_wp2_with fail
      go_meet
      exact ⟨rfl, bq⟩
    case false =>
    have eT : Hid (¬ T ≠ (c.k : Int)) := by show ¬ _; simpa using hT
    cases hF0 : decide (F < 0)
    case true =>
      have hb : Bd = true := by rw [← HB.out]; simp at hF0; simp [nodeB]; omega
      subst hb
      go_quiet (fail)
      have bq := Ro.below_drewN w1.heap.size w1 nq
      go_wp2_with fail
      go_meet
      exact ⟨rfl, bq⟩
    case false =>
    have eF0 : Hid (¬ F < 0) := by show ¬ _; simpa using hF0
    cases hF1 : decide ((64 : Int) ≤ F)
    case true =>
      have hb : Bd = true := by rw [← HB.out]; simp at hF1; simp [nodeB]; omega
      subst hb
      go_quiet (fail)
      have bq := Ro.below_drewN w1.heap.size w1 nq
      go_wp2_with fail
      go_meet
      exact ⟨rfl, bq⟩
    case false =>
    have eF1 : Hid (¬ (64 : Int) ≤ F) := by show ¬ _; simpa using hF1
    cases hFk : (F == (c.k : Int))
    case true =>
      have hb : Bd = true := by rw [← HB.out]; simp at hFk; simp [hFk]
      subst hb
      go_quiet (fail)
      have bq := Ro.below_drewN w1.heap.size w1 nq
      go_wp2_with fail
      go_meet
      exact ⟨rfl, bq⟩
    case false =>
    have eFk : Hid (¬ F = (c.k : Int)) := by show ¬ _; simpa using hFk
    cases hO0 : decide (O < 0)
    case true =>
      have hb : Bd = true := by rw [← HB.out]; simp at hO0; simp [nodeB]; omega
      subst hb
      go_quiet (fail)
      have bq := Ro.below_drewN w1.heap.size w1 nq
      go_wp2_with fail
      go_meet
      exact ⟨rfl, bq⟩
    case false =>
    have eO0 : Hid (¬ O < 0) := by show ¬ _; simpa using hO0
    cases hO1 : decide ((64 : Int) ≤ O)
    case true =>
      have hb : Bd = true := by rw [← HB.out]; simp at hO1; simp [nodeB]; omega
      subst hb
      go_quiet (fail)
      have bq := Ro.below_drewN w1.heap.size w1 nq
      go_wp2_with fail
      go_meet
      exact ⟨rfl, bq⟩
    case false =>
      have eO1 : ¬ (64 : Int) ≤ O := by simpa using hO1
      have hb : Bd = false := by
        rw [← HB.out]
        have q1 := eT.out
        have q2 := eF0.out
        have q3 := eF1.out
        have q4 := eFk.out
        have q5 := eO0.out
        simp only [nodeB]
        simp
        refine ⟨by simpa using q1, q4, by omega, by omega⟩
      subst hb
      go_quiet (fail)
      have bq := Ro.below_drewN w1.heap.size w1 nq
      go_wp2_with fail
      go_meet
      exact ⟨rfl, bq⟩
  case rest =>
  obtain ⟨rfl, b2⟩ := hcut
  generalize wc = w2 at *
  have h2 := h1.below b2
  have hN2 := hN.below b2
  have S2 := S1.then b2
  clear hN1 c0 n1 n2 n4 c9 h1 hN
  have n0 := hN2.c0
  have n1 := hN2.c1
  have c1 := h2.c1
  cases Bd
  case true =>
    have HR1 := HR
    unfold Det.hear at HR1
    have hf := HF.out
    rw [if_pos rfl] at hf
    rw [if_pos (by rw [hf]; decide), hf] at HR1
    go_wp2_with fail
    rw [← HR1.out]
    first
      | exact bodyPost_ret (v := .tuple #[.slice none 0 0, .int .i64 1]) (by simp [results, Tryz.results16, go_sem]) rfl ⟨_, rfl, [], b, Fx.Sd.nil _ _ _ _, rfl, h2, S2⟩
      | exact bodyPost_ret (v := .tuple #[.slice none 0 0, .int .i64 1]) (by simp [results, Tryz.results16, go_sem]) rfl ⟨_, [], b, rfl, Fx.Sd.nil _ _ _ _, rfl, h2, S2⟩
  case false =>
  have hnode : Nd F ∧ Nd O ∧ F ≠ (c.k : Int) := by
    have := HB.out
    simp only [decide_eq_false_iff_not] at this
    have q1 : ¬ nodeB F = false := fun e => this (.inr (.inr (.inl e)))
    have q2 : ¬ nodeB O = false := fun e => this (.inr (.inr (.inr e)))
    have q3 : ¬ F = (c.k : Int) := fun e => this (.inr (.inl e))
    unfold nodeB at q1 q2
    simp at q1 q2
    exact ⟨⟨q1.1, q1.2⟩, ⟨q2.1, q2.2⟩, q3⟩
  have HND : Hid _ := hnode
  clear hnode
  by_cases hK1 : K < 1
  · have HR1 := HR
    unfold Det.hear at HR1
    have hf := HF.out
    rw [if_neg (by decide), if_pos (Or.inl hK1)] at hf
    rw [if_pos (by rw [hf]; decide), hf] at HR1
    go_wp2_with fail
    rw [← HR1.out]
    first
      | exact bodyPost_ret (v := .tuple #[.slice none 0 0, .int .i64 150]) (by simp [results, Tryz.results16, go_sem]) rfl ⟨_, rfl, [], b, Fx.Sd.nil _ _ _ _, rfl, h2, S2⟩
      | exact bodyPost_ret (v := .tuple #[.slice none 0 0, .int .i64 150]) (by simp [results, Tryz.results16, go_sem]) rfl ⟨_, [], b, rfl, Fx.Sd.nil _ _ _ _, rfl, h2, S2⟩
  by_cases hK3 : 3 < K
  · have HR1 := HR
    unfold Det.hear at HR1
    have hf := HF.out
    rw [if_neg (by decide), if_pos (Or.inr hK3)] at hf
    rw [if_pos (by rw [hf]; decide), hf] at HR1
    go_wp2_with fail
    rw [← HR1.out]
    first
      | exact bodyPost_ret (v := .tuple #[.slice none 0 0, .int .i64 150]) (by simp [results, Tryz.results16, go_sem]) rfl ⟨_, rfl, [], b, Fx.Sd.nil _ _ _ _, rfl, h2, S2⟩
      | exact bodyPost_ret (v := .tuple #[.slice none 0 0, .int .i64 150]) (by simp [results, Tryz.results16, go_sem]) rfl ⟨_, [], b, rfl, Fx.Sd.nil _ _ _ _, rfl, h2, S2⟩
  have HR1 := HR
  unfold Det.hear at HR1
  have hf := HF.out
  rw [if_neg (by decide), if_neg (by omega)] at hf
  rw [if_neg (by rw [hf]; decide)] at HR1
  dsimp only at HR1
  clear hf HF HB HR
  go_upto_region 7 with fail
  have hgt := fun w' (h' : Ry c b d m w') => fget_any h' F
  have hfi : Hid ((d.first c.k F m) = if (getS d.f F).isSome = true then (d, m) else (d.take c.k ⟨F, 0, 0⟩ F m).2) := rfl
  have hD0W := first_W c.k d F m
  obtain ⟨D0, HD0⟩ : ∃ D0, Hid (d.first c.k F m = D0) := ⟨_, rfl⟩
  rw [HD0.out] at hfi HR1 hD0W
  clear HD0
  generalize (getS d.f F).isSome = sm at *
  generalize ud (getS d.f F) = u at *
  have hkeep : ∀ w', Below w2.heap.size w2 w' → Below w2.heap.size w2 w' ∧ w'.cell? ⟨c.q, 1, none⟩ = some (.pointer (some ⟨c.r, 0, none⟩)) ∧ w'.cell? ⟨gn, 1, none⟩ = some (.int .i64 F) := fun w' hb => ⟨hb, (h2.below hb).c1, (hN2.below hb).c1⟩
  have hE0 : Below w2.heap.size w2 w2 := Below.refl _ _
  have hE1 : Below w2.heap.size w2 w2.drew := bD hE0
  go_cut [8, 9] from 60 to 69 (fun t8 t9 wx => ∃ gy : Nat, t8 = .pointer (some ⟨gy, 0, none⟩) ∧ t9 = .bool sm ∧ Below w2.heap.size w2 wx)
  case first =>
    go_region_held3 (fun w' => Below w2.heap.size w2 w' ∧ w'.cell? ⟨c.q, 1, none⟩ = some (.pointer (some ⟨c.r, 0, none⟩)) ∧ w'.cell? ⟨gn, 1, none⟩ = some (.int .i64 F)) ((refine hkeep _ ?_; (first | assumption | (refine bD (bA ?_ _); assumption) | (refine bA ?_ _; assumption) | (refine bS3 ?_ (Nat.le_refl _) _ _ _; assumption) | (refine bS3 (bA ?_ _) (Below.size (by assumption)) _ _ _; assumption)))) ((first
      | (go_at_call 55; refine (hgt _ (by first | exact (h2.below hE1) | exact (h2.below (bD (bA hE0 _))))).mono ?_; rintro e w5 ⟨rfl, hb5⟩; (first | have hE2 := bT hE1 hb5 | (have hE2 := bT (bD (bA hE0 _)) hb5; have hC := (Bx.new 39 0 0 0 w2).drew.below hb5; have q0 := hC.c0; have q1 := hC.c1; have q2 := hC.c2; have e0 := hC.free 0; have e1 := hC.free 1; have e2 := hC.free 2)))))
    all_goals
      rename_i hH
      obtain ⟨hE3, _, _⟩ := hH
      go_wp2_with fail
      go_meet
      exact ⟨_, rfl, rfl, hE3⟩
  case rest =>
  obtain ⟨gy, rfl, rfl, hE5⟩ := hcut
  generalize wc = w3 at *
  have h3 := h2.below hE5
  have hN3 := hN2.below hE5
  have S3 := S2.then hE5
  have hA3 := hgn hN3.lt
  clear hkeep hE0 hE1 hgt h2 hN2 S2 b2 hE5 n0 n1 c1
  have n1 := hN3.c1
  go_upto_if 71 with fail
  go_cut [] from 72 to 79 (fun wx => ∃ b', Ry c b' D0.1 D0.2 wx ∧ Sr c b w3 b' wx ∧ Fx.Bn gn K F T Q O (.slice na nl nc) wx)
  case first =>
    cases sm
    case true =>
      have hD := hfi.out
      rw [if_pos rfl] at hD
      subst hD
      go_wp2_with fail
      go_meet
      exact ⟨b, h3, Sr.refl _ _ _, hN3⟩
    case false =>
      have hD := hfi.out
      rw [if_neg (by decide)] at hD
      have HD : Hid _ := hD
      clear hD hfi
      have htk := ftk_any h3 ⟨F, 0, 0⟩ F (show U64 (0 : Int) from ⟨by decide, by decide⟩)
      go_wp2_with (go_at_call 48; go_must (refine htk.mono ?_; rintro e w4 ⟨rfl, b4, h4, s4, u4⟩))
      go_meet
      rw [HD.out]
      exact ⟨b4, h4, s4, hN3.off hA3 s4⟩
  case rest =>
  obtain ⟨b4, h4, s4, hN4⟩ := hcut
  generalize wc = w4 at *
  have S4 := S3.trans s4
  have hA4 := hA3.step s4
  have hU4 := ruN hU hA S4
  have hV4 := hA.step S4
  clear h3 hN3 hA3 hA S3 s4 n1 hfi hU hgn
  obtain ⟨D1, D2⟩ := D0
  dsimp only at h4 HR1 hD0W
  have hTW := takes_W c.k F U D1 D2
  obtain ⟨Z, HZ⟩ : ∃ Z, Hid (D1.takes c.k F U D2 = Z) := ⟨_, rfl⟩
  rw [HZ.out] at HR1 hTW
  obtain ⟨na', nc', e', q1, q2, q3⟩ := id hU4
  have hnl : U.length = nl := by injection e' with _ h2 _; exact h2.symm
  have hna : na = na' := by injection e'
  subst hna
  have q4 : nl = 0 ∨ ∃ g off, na = some ⟨g, off, none⟩ := q3.imp (fun e => by omega) (fun ⟨g, off, e, _⟩ => ⟨g, off, e⟩)
  have HNL : Hid (U.length = nl) := hnl
  clear hnl e' q1 q2 q3
  go_wp2_with fail
  go_loopg [10, 11] nl (fun gk t10 t11 wr => ∃ (j : Nat) (dj : Det) (lj : List Int) (bj : Rw), j + gk = nl ∧ t10 = .int .i64 j ∧ Hid (dj.takes c.k F (U.drop j) lj = Z) ∧ Ry c bj dj lj wr ∧ Sr c b4 w4 bj wr)
  case atStart => exact ⟨0, D1, D2, b4, by omega, rfl, by show _ = _; rw [List.drop_zero]; exact HZ.out, h4, Sr.refl _ _ _⟩
  case round =>
    obtain ⟨j, dj, lj, bj, hj, rfl, hr, hjx, hjs⟩ := hrel
    have hNj := hN4.off hA4 hjs
    have hAj := hA4.step hjs
    have n5 := hNj.c5
    by_cases hlt2 : (j : Int) < nl
    · have hj' : j < U.length := by rw [HNL.out]; omega
      have j0 : (0 : Int) ≤ j := by omega
      obtain ⟨gv, off, rfl⟩ : ∃ gn off, na = some ⟨gn, off, none⟩ := by
        rcases q4 with q3 | ⟨gn, off, e⟩
        · omega
        · exact ⟨gn, off, e⟩
      have hUj := ruN hU4 hV4 hjs
      obtain ⟨x0, x1, x2⟩ : wr.cell? ⟨gv, off + j * 3, none⟩ = some (.int .i64 U[j].n) ∧ wr.cell? ⟨gv, off + j * 3 + 1, none⟩ = some (.int .u64 U[j].i) ∧ wr.cell? ⟨gv, off + j * 3 + 2, none⟩ = some (.int .i64 U[j].s) := by
        obtain ⟨_, _, e, _, _, e3⟩ := hUj
        cases e
        rcases e3 with e3 | ⟨g', off', e, e3⟩
        · omega
        · cases e; exact e3 j hj'
      have i0 := hin U[j] (List.getElem_mem hj')
      have hst : Hid _ := hr.out.symm.trans (takes_drop c.k dj F U lj j hj')
      have hVg : gv < wr.heap.size ∧ gv ≠ c.y ∧ ∀ i, c.own bj i ≠ some gv := by
        rcases hV4.step hjs with e | e
        · rw [e] at hj'; cases hj'
        · exact e gv rfl
      clear hr hUj
      generalize U[j] = u at *
      have n1 := hNj.c1
      have hS8 := And.intro n5 (And.intro n1 (And.intro x0 (And.intro x1 x2)))
      go_upto_region 13 with fail
      go_region_held3 (fun w' => w'.cell? ⟨gn, 5, none⟩ = some (.slice (some ⟨gv, off, none⟩) nl nc) ∧ w'.cell? ⟨gn, 1, none⟩ = some (.int .i64 F) ∧ w'.cell? ⟨gv, off + j * 3, none⟩ = some (.int .i64 u.n) ∧ w'.cell? ⟨gv, off + j * 3 + 1, none⟩ = some (.int .u64 u.i) ∧ w'.cell? ⟨gv, off + j * 3 + 2, none⟩ = some (.int .i64 u.s)) (first | exact hS8 | exact hS9) ((first
        | (go_at_call 48; refine (ftk_any hjx.drew u F i0).mono ?_; rintro e w9 ⟨rfl, b9, h9, s9, u9⟩; have hq9 := s9.block gv hVg.1 hVg.2.1 hVg.2.2; have hN9 := hNj.drew.off hAj.drew s9; have hS9 := And.intro hN9.c5 (And.intro hN9.c1 (And.intro ((World.cell?_of_block (w := wr.drew) (a := ⟨gv, off + j * 3, none⟩) hq9).trans x0) (And.intro ((World.cell?_of_block (w := wr.drew) (a := ⟨gv, off + j * 3 + 1, none⟩) hq9).trans x1) ((World.cell?_of_block (w := wr.drew) (a := ⟨gv, off + j * 3 + 2, none⟩) hq9).trans x2)))))))
      all_goals
        have S9 := hjs.drew.trans s9
        obtain ⟨E, HE⟩ : ∃ E, Hid ((dj.take c.k u F lj).1 = E) := ⟨_, rfl⟩
        rw [HE.out] at hst ⊢
        by_cases h60 : E = 60
        · have t60 : (E == 60) = true := by simpa using h60
          have hst2 := hst.out
          rw [if_pos h60] at hst2
          rw [hst2] at HR1
          dsimp only at HR1
          rw [if_pos (show (60 : Int) ≠ 0 by decide)] at HR1
          have HR2 : Hid _ := HR1
          subst h60
          go_wp2_with fail
          rw [← HR2.out]
          first
            | exact bodyPost_ret (v := .tuple #[.slice none 0 0, .int .i64 60]) (by simp [results, Tryz.results16, go_sem]) rfl ⟨_, rfl, [], b9, Fx.Sd.nil _ _ _ _, rfl, h9, S4.trans S9⟩
            | exact bodyPost_ret (v := .tuple #[.slice none 0 0, .int .i64 60]) (by simp [results, Tryz.results16, go_sem]) rfl ⟨_, [], b9, rfl, Fx.Sd.nil _ _ _ _, rfl, h9, S4.trans S9⟩
        · have t60 : (E == 60) = false := by simpa using h60
          have hst2 := hst.out
          rw [if_neg h60] at hst2
          have HST : Hid _ := hst2
          clear hst hst2 h60
          go_wp2_with fail
          go_roundg (gk - 1)
          case rel => exact ⟨j + 1, _, _, b9, by omega, by go_num, HST.out.symm, h9, S9⟩
          case measure => omega
    · obtain rfl : j = nl := by omega
      have hend : Hid ((0, dj, lj) = Z) := by
        have := hr.out
        rw [List.drop_of_length_le (by rw [HNL.out]; exact Nat.le_refl _)] at this
        exact this
      clear hr
      rw [← hend.out] at HR1 hTW
      dsimp only at HR1 hTW
      rw [if_neg (show ¬ (0 : Int) ≠ 0 by decide)] at HR1
      have HR2 : Hid _ := HR1
      have S5 := S4.trans hjs
      have hdW : dj.W.length ≤ 100000 := by rw [hTW, hD0W]; exact hW
      clear HR1 HZ hend hTW hD0W S4 h4 hN4 hA4 hU4 hV4 hjs hle hW
      obtain ⟨w5, HW5⟩ : ∃ w5, Hid (w5 = wr) := ⟨_, rfl⟩
      rw [← HW5.out] at hjx hNj hAj S5 n5 ⊢
      clear HW5
      have n0 := hNj.c0
      have n1 := hNj.c1
      have n2 := hNj.c2
      have n3 := hNj.c3
      have n4 := hNj.c4
      by_cases hK2 : K = 2
      · subst hK2
        have hack := fack_any hjx hdW ⟨2, F, T, Q, O, U⟩ na j nc
        dsimp only at hack
        have han : Hid (dj.answer c.k ⟨2, F, T, Q, O, U⟩ = dj.acked c.k ⟨2, F, T, Q, O, U⟩) := by
          show _ = _
          unfold Det.answer
          dsimp only
          rw [if_neg (by omega), if_pos rfl]
        rw [han.out] at HR2
        go_wp2_with (go_at_call 56; go_must (refine hack.mono ?_; rintro e w6 ⟨v6, X6, b6, rfl, hs6, hX6, h6, s6⟩))
        obtain ⟨a6, L6, c6, rfl⟩ : ∃ a L cc, v6 = .slice a L cc := (by obtain ⟨a, cap, e, _⟩ := hs6.row.len; exact ⟨a, _, cap, e⟩)
        rw [← HR2.out]
        first
          | exact bodyPost_ret (v := .tuple #[.slice a6 L6 c6, .int .i64 0]) (by simp [results, Tryz.results16, go_sem]) rfl ⟨_, rfl, X6, b6, hs6.up S5.size, hX6, h6, S5.trans s6⟩
          | exact bodyPost_ret (v := .tuple #[.slice a6 L6 c6, .int .i64 0]) (by simp [results, Tryz.results16, go_sem]) rfl ⟨_, X6, b6, rfl, hs6.up S5.size, hX6, h6, S5.trans s6⟩
      have t2 : (K == 2) = false := by simpa using hK2
      by_cases hping : K = 1 ∨ O = (c.k : Int)
      · have han : Hid (dj.answer c.k ⟨K, F, T, Q, O, U⟩ = dj.pinged c.k ⟨K, F, T, Q, O, U⟩) := by
          show _ = _
          unfold Det.answer
          dsimp only
          rcases hping with e | e
          · rw [if_pos e]
          · by_cases hk1 : K = 1
            · rw [if_pos hk1]
            · rw [if_neg hk1, if_neg hK2]
              unfold Det.helped
              rw [if_pos e]
        rw [han.out] at HR2
        have c0 := hjx.c0
        have hJ : ((K == 1) = true) ∨ ((K == 1) = false ∧ (O == (c.k : Int)) = true) := by
          rcases hping with e | e
          · exact .inl (by simpa using e)
          · cases hk1 : (K == 1)
            · exact .inr ⟨rfl, by simpa using e⟩
            · exact .inl rfl
        clear hping hK1 hK2 hK3 han
        rcases hJ with hk1 | ⟨hk1, hok⟩
        all_goals
          go_upto_region 18 with fail
          go_quiet (fail)
          have bq := Ro.below_drewN w5.heap.size w5 nq
          have hj6 := hjx.below bq
          have hN6 := hNj.below bq
          have hA6 := hAj.step (Sr.of bq)
          have S6 := S5.then bq
          obtain ⟨w6, HW6⟩ : ∃ w6, Hid (w6 = w5.drewN nq) := ⟨_, rfl⟩
          rw [← HW6.out] at hj6 hN6 hA6 S6 ⊢
          clear n0 n1 n2 n3 n4 n5 c0 bq
          go_upto_region 19 with fail
          have hj7 := hj6.drew
          have hN7 := hN6.drew
          have hA7 := hA6.drew
          have S7 := S6.drew
          obtain ⟨wd, HWD⟩ : ∃ wd, Hid (wd = w6.drew) := ⟨_, rfl⟩
          rw [← HWD.out] at hj7 hN7 hA7 S7
          have hSS := And.intro hN7.c1 (And.intro hN7.c3 hj7.c0)
          have hsay := fsay_any hj7 2 0 F Q c.k
          refine wp_region_D (fun w' => w'.cell? ⟨gn, 1, none⟩ = some (.int .i64 F) ∧ w'.cell? ⟨gn, 3, none⟩ = some (.int .u64 Q) ∧ w'.cell? ⟨c.q, 0, none⟩ = some (.int .i64 c.k)) (fun _ => false) (by kernel_rfl) ?_
          rw [← HWD.out]
          refine wpAnyD_take (i := 0) (v := .pointer (some ⟨c.q, 0, none⟩)) rfl (by kernel_rfl) (by kernel_rfl) (by kernel_rfl) (by kernel_rfl) (fun _ _ _ h => h) (Or.inl ⟨by rfl, ?_⟩) hSS ?_
          · intro w0 hw0
            clear hw0
            go_simp
          refine wpAnyD_take (i := 1) (v := .pointer (some ⟨gn, 1, none⟩)) rfl (by kernel_rfl) (by kernel_rfl) (by kernel_rfl) (by kernel_rfl) (fun _ _ _ h => h) (Or.inl ⟨by rfl, ?_⟩) hSS ?_
          · intro w0 hw0
            clear hw0
            go_simp
          refine wpAnyD_take (i := 2) (v := .int .i64 F) rfl (by kernel_rfl) (by kernel_rfl) (by kernel_rfl) (by kernel_rfl) (fun _ _ _ h => h) (Or.inl ⟨by rfl, ?_⟩) hSS ?_
          · intro w0 hw0
            obtain ⟨z0, z1, z2⟩ := hw0
            go_simp
          refine wpAnyD_take (i := 3) (v := .pointer (some ⟨gn, 3, none⟩)) rfl (by kernel_rfl) (by kernel_rfl) (by kernel_rfl) (by kernel_rfl) (fun _ _ _ h => h) (Or.inl ⟨by rfl, ?_⟩) hSS ?_
          · intro w0 hw0
            clear hw0
            go_simp
          refine wpAnyD_take (i := 4) (v := .int .u64 Q) rfl (by kernel_rfl) (by kernel_rfl) (by kernel_rfl) (by kernel_rfl) (fun _ _ _ h => h) (Or.inl ⟨by rfl, ?_⟩) hSS ?_
          · intro w0 hw0
            obtain ⟨z0, z1, z2⟩ := hw0
            go_simp
          refine wpAnyD_take (i := 5) (v := .pointer (some ⟨c.q, 0, none⟩)) rfl (by kernel_rfl) (by kernel_rfl) (by kernel_rfl) (by kernel_rfl) (fun _ _ _ h => h) (Or.inl ⟨by rfl, ?_⟩) hSS ?_
          · intro w0 hw0
            clear hw0
            go_simp
          refine wpAnyD_take (i := 6) (v := .pointer (some ⟨c.q, 0, none⟩)) rfl (by kernel_rfl) (by kernel_rfl) (by kernel_rfl) (by kernel_rfl) (fun _ _ _ h => h) (Or.inl ⟨by rfl, ?_⟩) hSS ?_
          · intro w0 hw0
            clear hw0
            go_simp
          refine wpAnyD_take (i := 7) (v := .pointer (some ⟨c.q, 0, none⟩)) rfl (by kernel_rfl) (by kernel_rfl) (by kernel_rfl) (by kernel_rfl) (fun _ _ _ h => h) (Or.inl ⟨by rfl, ?_⟩) hSS ?_
          · intro w0 hw0
            clear hw0
            go_simp
          refine wpAnyD_take (i := 8) (v := .int .i64 c.k) rfl (by kernel_rfl) (by kernel_rfl) (by kernel_rfl) (by kernel_rfl) (fun _ _ _ h => h) (Or.inl ⟨by rfl, ?_⟩) hSS ?_
          · intro w0 hw0
            obtain ⟨z0, z1, z2⟩ := hw0
            go_simp
          refine wpAnyD_take (i := 9) (v := .agg (ntC 2 0 F Q c.k (.slice none 0 0))) rfl (by kernel_rfl) (by kernel_rfl) (by kernel_rfl) (by kernel_rfl) (fun _ _ _ h => h) (Or.inl ⟨by rfl, ?_⟩) hSS ?_
          · intro w0 hw0
            clear hw0
            go_simp
          refine wpAnyD_one (i := 10) (by kernel_rfl) rfl (fun K hK => ?_)
          go_simp
          go_at_call 51
          refine hsay.mono ?_
          rintro e w8 ⟨v8, rfl, hO8, b8, h8, s8, u8, hA8⟩
          obtain ⟨a8, L8, c8, rfl⟩ : ∃ a L cc, v8 = .slice a L cc := (by obtain ⟨a, cap, e, _⟩ := hO8.ru; exact ⟨a, _, cap, e⟩)
          have hN8 := hN7.off hA7 s8
          have hS8 := And.intro hN8.c1 (And.intro hN8.c3 h8.c0)
          refine hK _ _ (fun _ => hS8) ?_
          clear hK K
          have b9 := below_alloc w8 (.cells (ntC 2 c.k F Q c.k (.slice a8 L8 c8)) 52)
          have S8 := S7.trans s8
          have S9 := S8.then b9
          have h9 := h8.below b9
          have hN9 := hN8.below b9
          have hone := Fx.Sd.one (c := c) (w0 := w) (n := ⟨2, c.k, F, Q, c.k, dj.news c.k F⟩) h8 S8.size (Ro.Own.mono hO8 S7.size) hA8
          obtain ⟨w9, HW9⟩ : ∃ w9, Hid (w9 = w8.alloc (.cells (ntC 2 c.k F Q c.k (.slice a8 L8 c8)) 52)) := ⟨_, rfl⟩
          rw [← HW9.out] at S9 h9 hN9 hone
          have hS9 := And.intro hN9.c1 (And.intro hN9.c3 h9.c0)
          refine wpAnyD_one (i := 11) (by kernel_rfl) rfl (fun K hK => ?_)
          go_simp
          rw [← HW9.out]
          refine hK _ _ (fun _ => hS9) ?_
          clear hK K
          refine wpAnyD_one (i := 12) (by kernel_rfl) rfl (fun K hK => ?_)
          go_simp
          refine hK _ _ (fun _ => hS9) ?_
          clear hK K
          refine wpAnyD_one (i := 13) (by kernel_rfl) rfl (fun K hK => ?_)
          go_simp
          refine hK _ _ (fun _ => hS9) ?_
          clear hK K
          refine wpAnyD_done (by kernel_rfl) ?_ _
          go_wp2_with fail
          rw [← HR2.out]
          first
            | exact bodyPost_ret (v := .tuple #[.slice (some ⟨w8.heap.size, 0, none⟩) 1 1, .int .i64 0]) (by simp [results, Tryz.results16, go_sem]) rfl ⟨_, rfl, _, b8, hone, rfl, h9, S9⟩
            | exact bodyPost_ret (v := .tuple #[.slice (some ⟨w8.heap.size, 0, none⟩) 1 1, .int .i64 0]) (by simp [results, Tryz.results16, go_sem]) rfl ⟨_, _, b8, rfl, hone, rfl, h9, S9⟩
      · have hk1 : (K == 1) = false := by simpa using fun e => hping (.inl e)
        have hok : (O == (c.k : Int)) = false := by simpa using fun e => hping (.inr e)
        obtain ⟨yy, HYY⟩ : ∃ yy, Hid (u64w (dj.la + 1) = yy) := ⟨_, rfl⟩
        obtain ⟨E1, HE1⟩ : ∃ E1, Hid ((if 32 ≤ dj.E.length then dj.E.tail else dj.E) = E1) := ⟨_, rfl⟩
        have han : Hid (dj.answer c.k ⟨K, F, T, Q, O, U⟩ = ([⟨1, c.k, O, yy, 0, dj.news c.k O⟩], ({ dj with la := yy, E := E1 ++ [⟨O, yy, dj.no, F, Q⟩] } : Det).told c.k O)) := by
          show _ = _
          unfold Det.answer
          dsimp only
          rw [if_neg (fun e => hping (.inl e)), if_neg hK2]
          unfold Det.helped
          rw [if_neg (fun e => hping (.inr e)), ← HYY.out, ← HE1.out]
          rfl
        rw [han.out] at HR2
        clear hping hK1 hK2 hK3 han
        have c0 := hjx.c0
        go_upto_region 18 with fail
        go_quiet (fail)
        have bq := Ro.below_drewN w5.heap.size w5 nq
        have hj6 := hjx.below bq
        have hN6 := hNj.below bq
        have hA6 := hAj.step (Sr.of bq)
        have S6 := S5.then bq
        obtain ⟨w6, HW6⟩ : ∃ w6, Hid (w6 = w5.drewN nq) := ⟨_, rfl⟩
        rw [← HW6.out] at hj6 hN6 hA6 S6 ⊢
        clear n0 n1 n2 n3 n4 n5 c0 bq hjx hNj hAj S5
        have hyy : IntKind.u64.wrap (dj.la + 1) = yy := HYY.out
        have hy2 : (dj.la + 1) % 18446744073709551616 = yy := by rw [← IntKind.wrap_u64]; exact hyy
        have hyyu : U64 yy := by rw [← HYY.out]; exact u64w_ok _
        have c7 := hj6.c7
        have f7 := hj6.free 7
        have ok := hj6.ok
        have hel := ok.el
        obtain ⟨h7, s7⟩ := hj6.setN (d' := { dj with la := yy }) 7 (.int .u64 yy) (by simp [Rc.cells]) ⟨ok.k64, ok.inv, ok.qi, ok.ql, ok.di, ok.s1, ok.s2, ok.W, ok.E, ok.el, hyyu, ok.no⟩ rfl rfl rfl rfl rfl rfl
        have S7 := S6.trans s7
        have hN7 := hN6.off hA6 s7
        have hA7 := hA6.step s7
        obtain ⟨w7, HW7⟩ : ∃ w7, Hid (w7 = w6.setCell ⟨c.q, 7, none⟩ (.int .u64 yy)) := ⟨_, rfl⟩
        rw [← HW7.out] at h7 S7 hN7 hA7
        go_upto_region 21 with fail
        rw [← HW7.out]
        clear c7 f7 s7 hj6 hN6 hA6 S6 hyy hy2
        obtain ⟨va, vcap, hve, _⟩ := h7.es.len
        dsimp only at hve
        have hE7 := h7.es
        dsimp only at hE7
        have c6 := h7.c6
        have f6 := h7.free 6
        rw [hve] at c6
        obtain ⟨N, HN⟩ : ∃ N, Hid (dj.E.length = N) := ⟨_, rfl⟩
        rw [HN.out] at c6 hve hel
        go_upto_if 143 with fail
        go_cut [] from 143 to 151 (fun wx => ∃ b1, Ry c b1 { dj with la := yy, E := E1 } lj wx ∧ Sr c bj w7 b1 wx ∧ E1.length ≤ 31)
        case first =>
          by_cases h32 : 32 ≤ N
          · have h32' : (32 : Int) ≤ N := by omega
            have hE1 : dj.E.tail = E1 := by rw [← HE1.out, if_pos (by rw [HN.out]; exact h32)]
            obtain ⟨x, r, hxr⟩ : ∃ x r, dj.E = x :: r := by
              cases hx : dj.E with
              | nil => rw [hx] at HN; have := HN.out; simp at this; omega
              | cons x r => exact ⟨x, r, rfl⟩
            have hr1 : r = E1 := by rw [← hE1, hxr]; rfl
            obtain ⟨ge, oe, rfl, -, hnc, -⟩ := hE7.at_ (j := 0) (by rw [HN.out]; omega) hve
            have hv1 : ¬ vcap = 1 := by omega
            have hE8 := hE7
            rw [hve, hxr] at hE8
            have hs9 : sliced (some ⟨ge, oe, none⟩) 1 N vcap 5 = .slice (some ⟨ge, oe + 5, none⟩) (N - 1) (vcap - 1) := by rw [sliced, if_neg hv1]; simp [Addr.add]
            have hE9 : QuE encE 116 (.slice (some ⟨ge, oe + 5, none⟩) (N - 1) (vcap - 1)) r w7 := by rw [← hs9]; exact hE8.tail
            have hso : (Value.slice (some ⟨ge, oe + 5, none⟩) (N - 1) (vcap - 1)).ownBlock = (Value.slice (some ⟨ge, oe, none⟩) N vcap).ownBlock := rfl
            have hfr : ∀ w', (Instr.slice 61 (.slice (some ⟨ge, oe, none⟩) N vcap) (some (.int .i64 1)) none none).run Tryz.prog w' = .ok (.slice (some ⟨ge, oe + 5, none⟩) (N - 1) (vcap - 1)) w' := fun w' => (from1E (a := some ⟨ge, oe, none⟩) (n := N) (cap := vcap) (by omega) w').trans (by rw [hs9])
            have hmem : ∀ z ∈ r, ErnOk z := fun z hz => ok.E z (by rw [hxr]; exact List.mem_cons_of_mem _ hz)
            have hlen : r.length ≤ 31 := by have := HN.out; rw [hxr, List.length_cons] at this; omega
            obtain ⟨h8, s8⟩ := h7.setE (w' := w7) hE9 ⟨rfl, rfl, rfl, Nat.le_refl _, fun _ _ _ => rfl⟩ (.inl (by rw [hve]; exact hso)) hmem (by omega)
            rw [hr1] at h8 hlen
            have H8 : Hid _ := h8
            have S8' : Hid _ := s8
            clear hxr hE1 hr1 hE8 hE9 hs9 hso hmem h8 s8 hE7 hve
            go_wp2_with fail
            go_meet
            exact ⟨_, H8.out, S8'.out, hlen⟩
          · have h32' : ¬ (32 : Int) ≤ N := by omega
            have hE1 : dj.E = E1 := by rw [← HE1.out, if_neg (by rw [HN.out]; exact h32)]
            have hlen : E1.length ≤ 31 := by rw [← hE1, HN.out]; omega
            have h8 : Ry c bj { dj with la := yy, E := E1 } lj w7 := by rw [← hE1]; exact h7
            go_wp2_with fail
            go_meet
            exact ⟨_, h8, Sr.refl _ _ _, hlen⟩
        case rest =>
        obtain ⟨b8, h8, s8, hlen8⟩ := hcut
        generalize wc = w8 at *
        have S8 := S7.trans s8
        have hN8 := hN7.off hA7 s8
        have hA8 := hA7.step s8
        clear h7 hE7 c6 f6 s8 hN7 hA7 S7 hve
        go_upto_region 23 with fail
        have h9 := h8.drew
        have hN9 := hN8.drew
        have hA9 := hA8.drew
        have S9 := S8.drew
        obtain ⟨wd, HWD⟩ : ∃ wd, Hid (wd = w8.drew) := ⟨_, rfl⟩
        rw [← HWD.out] at h9 hN9 hA9 S9
        clear h8 hN8 hA8 S8
        obtain ⟨v6, HV6⟩ : ∃ v6, Hid (b8.ve = v6) := ⟨_, rfl⟩
        have c6 := h9.c6
        rw [HV6.out] at c6
        have hSS := And.intro c6 (And.intro hN9.c4 (And.intro h9.c7 (And.intro h9.c8 (And.intro hN9.c1 hN9.c3))))
        dsimp only at hSS
        have b14 := below_alloc wd (.cells (cellsE ⟨O, yy, dj.no, F, Q⟩) 116)
        have hY14 := BE.row (x := ⟨O, yy, dj.no, F, Q⟩) wd
        have h14 := h9.below b14
        have S14 := S9.then b14
        have hN14 := hN9.below b14
        have hA14 := hA9.step (Sr.of b14)
        obtain ⟨w14, HW14⟩ : ∃ w14, Hid (w14 = wd.alloc (.cells (cellsE ⟨O, yy, dj.no, F, Q⟩) 116)) := ⟨_, rfl⟩
        rw [← HW14.out] at hY14 h14 S14 hN14 hA14
        have hrow14 := h14.es
        have c6' := h14.c6
        rw [HV6.out] at hrow14 c6'
        have hSS14 := And.intro c6' (And.intro hN14.c4 (And.intro h14.c7 (And.intro h14.c8 (And.intro hN14.c1 hN14.c3))))
        dsimp only at hSS14
        have HROW : Hid (QuE encE 116 v6 E1 w14) := hrow14
        have HY14 : Hid _ := hY14
        have hno := h14.ok.no
        clear hrow14 c6 c6' hY14 b14
        refine wp_region_D (fun w' => w'.cell? ⟨c.q, 6, none⟩ = some v6 ∧ w'.cell? ⟨gn, 4, none⟩ = some (.int .i64 O) ∧ w'.cell? ⟨c.q, 7, none⟩ = some (.int .u64 yy) ∧ w'.cell? ⟨c.q, 8, none⟩ = some (.int .u64 dj.no) ∧ w'.cell? ⟨gn, 1, none⟩ = some (.int .i64 F) ∧ w'.cell? ⟨gn, 3, none⟩ = some (.int .u64 Q)) (fun j => j == 24) (by kernel_rfl) ?_
        rw [← HWD.out]
        refine wpAnyD_take (i := 0) (v := .pointer (some ⟨c.q, 0, none⟩)) rfl (by kernel_rfl) (by kernel_rfl) (by kernel_rfl) (by kernel_rfl) (fun _ _ _ h => h) (Or.inl ⟨by rfl, ?_⟩) hSS ?_
        · intro w0 hw0
          clear hw0
          go_simp
        refine wpAnyD_take (i := 1) (v := .pointer (some ⟨c.q, 0, none⟩)) rfl (by kernel_rfl) (by kernel_rfl) (by kernel_rfl) (by kernel_rfl) (fun _ _ _ h => h) (Or.inl ⟨by rfl, ?_⟩) hSS ?_
        · intro w0 hw0
          clear hw0
          go_simp
        refine wpAnyD_take (i := 2) (v := .pointer (some ⟨c.q, 0, none⟩)) rfl (by kernel_rfl) (by kernel_rfl) (by kernel_rfl) (by kernel_rfl) (fun _ _ _ h => h) (Or.inl ⟨by rfl, ?_⟩) hSS ?_
        · intro w0 hw0
          clear hw0
          go_simp
        refine wpAnyD_take (i := 3) (v := .pointer (some ⟨c.q, 6, none⟩)) rfl (by kernel_rfl) (by kernel_rfl) (by kernel_rfl) (by kernel_rfl) (fun _ _ _ h => h) (Or.inl ⟨by rfl, ?_⟩) hSS ?_
        · intro w0 hw0
          clear hw0
          go_simp
        refine wpAnyD_take (i := 4) (v := v6) rfl (by kernel_rfl) (by kernel_rfl) (by kernel_rfl) (by kernel_rfl) (fun _ _ _ h => h) (Or.inl ⟨by rfl, ?_⟩) hSS ?_
        · intro w0 hw0
          obtain ⟨z0, z1, z2, z3, z4, z5⟩ := hw0
          go_simp
        refine wpAnyD_take (i := 5) (v := .pointer (some ⟨gn, 4, none⟩)) rfl (by kernel_rfl) (by kernel_rfl) (by kernel_rfl) (by kernel_rfl) (fun _ _ _ h => h) (Or.inl ⟨by rfl, ?_⟩) hSS ?_
        · intro w0 hw0
          clear hw0
          go_simp
        refine wpAnyD_take (i := 6) (v := .int .i64 O) rfl (by kernel_rfl) (by kernel_rfl) (by kernel_rfl) (by kernel_rfl) (fun _ _ _ h => h) (Or.inl ⟨by rfl, ?_⟩) hSS ?_
        · intro w0 hw0
          obtain ⟨z0, z1, z2, z3, z4, z5⟩ := hw0
          go_simp
        refine wpAnyD_take (i := 7) (v := .pointer (some ⟨c.q, 0, none⟩)) rfl (by kernel_rfl) (by kernel_rfl) (by kernel_rfl) (by kernel_rfl) (fun _ _ _ h => h) (Or.inl ⟨by rfl, ?_⟩) hSS ?_
        · intro w0 hw0
          clear hw0
          go_simp
        refine wpAnyD_take (i := 8) (v := .pointer (some ⟨c.q, 0, none⟩)) rfl (by kernel_rfl) (by kernel_rfl) (by kernel_rfl) (by kernel_rfl) (fun _ _ _ h => h) (Or.inl ⟨by rfl, ?_⟩) hSS ?_
        · intro w0 hw0
          clear hw0
          go_simp
        refine wpAnyD_take (i := 9) (v := .pointer (some ⟨c.q, 7, none⟩)) rfl (by kernel_rfl) (by kernel_rfl) (by kernel_rfl) (by kernel_rfl) (fun _ _ _ h => h) (Or.inl ⟨by rfl, ?_⟩) hSS ?_
        · intro w0 hw0
          clear hw0
          go_simp
        refine wpAnyD_take (i := 10) (v := .int .u64 yy) rfl (by kernel_rfl) (by kernel_rfl) (by kernel_rfl) (by kernel_rfl) (fun _ _ _ h => h) (Or.inl ⟨by rfl, ?_⟩) hSS ?_
        · intro w0 hw0
          obtain ⟨z0, z1, z2, z3, z4, z5⟩ := hw0
          go_simp
        refine wpAnyD_take (i := 11) (v := .pointer (some ⟨c.q, 0, none⟩)) rfl (by kernel_rfl) (by kernel_rfl) (by kernel_rfl) (by kernel_rfl) (fun _ _ _ h => h) (Or.inl ⟨by rfl, ?_⟩) hSS ?_
        · intro w0 hw0
          clear hw0
          go_simp
        refine wpAnyD_take (i := 12) (v := .pointer (some ⟨c.q, 0, none⟩)) rfl (by kernel_rfl) (by kernel_rfl) (by kernel_rfl) (by kernel_rfl) (fun _ _ _ h => h) (Or.inl ⟨by rfl, ?_⟩) hSS ?_
        · intro w0 hw0
          clear hw0
          go_simp
        refine wpAnyD_take (i := 13) (v := .pointer (some ⟨c.q, 8, none⟩)) rfl (by kernel_rfl) (by kernel_rfl) (by kernel_rfl) (by kernel_rfl) (fun _ _ _ h => h) (Or.inl ⟨by rfl, ?_⟩) hSS ?_
        · intro w0 hw0
          clear hw0
          go_simp
        refine wpAnyD_take (i := 14) (v := .int .u64 dj.no) rfl (by kernel_rfl) (by kernel_rfl) (by kernel_rfl) (by kernel_rfl) (fun _ _ _ h => h) (Or.inl ⟨by rfl, ?_⟩) hSS ?_
        · intro w0 hw0
          obtain ⟨z0, z1, z2, z3, z4, z5⟩ := hw0
          go_simp
        refine wpAnyD_take (i := 15) (v := .pointer (some ⟨gn, 1, none⟩)) rfl (by kernel_rfl) (by kernel_rfl) (by kernel_rfl) (by kernel_rfl) (fun _ _ _ h => h) (Or.inl ⟨by rfl, ?_⟩) hSS ?_
        · intro w0 hw0
          clear hw0
          go_simp
        refine wpAnyD_take (i := 16) (v := .int .i64 F) rfl (by kernel_rfl) (by kernel_rfl) (by kernel_rfl) (by kernel_rfl) (fun _ _ _ h => h) (Or.inl ⟨by rfl, ?_⟩) hSS ?_
        · intro w0 hw0
          obtain ⟨z0, z1, z2, z3, z4, z5⟩ := hw0
          go_simp
        refine wpAnyD_take (i := 17) (v := .pointer (some ⟨gn, 3, none⟩)) rfl (by kernel_rfl) (by kernel_rfl) (by kernel_rfl) (by kernel_rfl) (fun _ _ _ h => h) (Or.inl ⟨by rfl, ?_⟩) hSS ?_
        · intro w0 hw0
          clear hw0
          go_simp
        refine wpAnyD_take (i := 18) (v := .int .u64 Q) rfl (by kernel_rfl) (by kernel_rfl) (by kernel_rfl) (by kernel_rfl) (fun _ _ _ h => h) (Or.inl ⟨by rfl, ?_⟩) hSS ?_
        · intro w0 hw0
          obtain ⟨z0, z1, z2, z3, z4, z5⟩ := hw0
          go_simp
        refine wpAnyD_take (i := 19) (v := .agg (cellsE ⟨O, yy, dj.no, F, Q⟩)) rfl (by kernel_rfl) (by kernel_rfl) (by kernel_rfl) (by kernel_rfl) (fun _ _ _ h => h) (Or.inl ⟨by rfl, ?_⟩) hSS ?_
        · intro w0 hw0
          clear hw0
          go_simp
        refine wpAnyD_one (i := 20) (by kernel_rfl) rfl (fun K hK => ?_)
        go_simp
        rw [← HW14.out]
        refine hK _ _ (fun _ => hSS14) ?_
        clear hK K
        refine wpAnyD_one (i := 21) (by kernel_rfl) rfl (fun K hK => ?_)
        refine step_appQ Tryz.undEr Tryz.infoEr (by decide) (by decide) w14 (by rfl) (.tmp 156) (.tmp 172) (by rfl) v6 (.slice (some ⟨wd.heap.size, 0, none⟩) 1 1) E1 [⟨O, yy, dj.no, F, Q⟩] (by rfl) HROW.out (by rfl) HY14.out (by simp; omega) ?_
        intro v15 w15 hO15 hg15 hv15
        obtain ⟨a15, L15, c15, rfl⟩ : ∃ a L cc, v15 = .slice a L cc := (by obtain ⟨a, cap, e, _⟩ := hO15.len; exact ⟨a, _, cap, e⟩)
        have hown : c.own b8 10 = v6.ownBlock := by rw [← HV6.out]; rfl
        have hq15 : w15.heap[c.q]? = w14.heap[c.q]? := hg15.block c.q h14.qlt (fun e => by have := h14.sep.one 0 10 c.q rfl (by rw [hown, ← e]); omega)
        have hn15 := hN14.grown hg15 (fun e => hA14.own 10 (by rw [hown, e]))
        have f6 := (World.frozen?_of_block (w := w14) (a := ⟨c.q, 6, none⟩) hq15).trans (h14.free 6)
        have hSS15 := And.intro ((World.cell?_of_block (w := w14) (a := ⟨c.q, 6, none⟩) hq15).trans hSS14.1) (And.intro hn15.c4 (And.intro ((World.cell?_of_block (w := w14) (a := ⟨c.q, 7, none⟩) hq15).trans hSS14.2.2.1) (And.intro ((World.cell?_of_block (w := w14) (a := ⟨c.q, 8, none⟩) hq15).trans hSS14.2.2.2.1) (And.intro hn15.c1 hn15.c3))))
        obtain ⟨h16, s16⟩ := h14.setE hO15 (by rw [HV6.out]; exact hg15) (by rw [HV6.out]; exact hv15.imp id (fun e g hg => by rw [e] at hg; cases hg; exact Nat.le_refl _)) (fun z hz => (List.mem_append.1 hz).elim (fun hz => h14.ok.E z hz) (fun hz => by obtain rfl := List.mem_singleton.1 hz; exact ⟨HND.out.2.1, hyyu, hno, HND.out.1, hq⟩)) (by simp; omega)
        refine hK _ _ (fun _ => hSS15) ?_
        clear hK K hSS hSS14
        have hSS := hSS15
        refine wpAnyD_one (i := 22) (by kernel_rfl) rfl (fun K hK => ?_)
        go_simp
        refine hK _ _ (fun _ => hSS) ?_
        clear hK K
        refine wpAnyD_one (i := 23) (by kernel_rfl) rfl (fun K hK => ?_)
        go_simp
        refine hK _ _ (fun _ => hSS) ?_
        clear hK K
        refine wpAnyD_one (i := 24) (by kernel_rfl) rfl (fun K hK => ?_)
        go_simp
        refine hK _ _ (fun e => absurd e (by decide)) ?_
        clear hK K
        refine wpAnyD_done (by kernel_rfl) ?_ _
        have S16 := S14.trans s16
        have hN16 := hN14.off hA14 s16
        have hA16 := hA14.step s16
        obtain ⟨b16, HB16⟩ : ∃ b16 : Rw, Hid (({ b8 with ve := .slice a15 L15 c15 } : Rw) = b16) := ⟨_, rfl⟩
        rw [HB16.out] at h16 S16 hA16
        obtain ⟨w16, HW16⟩ : ∃ w16, Hid (w16 = w15.setCell ⟨c.q, 6, none⟩ (.slice a15 L15 c15)) := ⟨_, rfl⟩
        rw [← HW16.out] at h16 S16 hN16 hA16 ⊢
        clear hSS hSS15 f6 hq15 hown h14 S14 s16 hn15 hN14 hA14 h9 hN9 hA9 S9
        go_upto_region 24 with fail
        have h17 := h16.drew
        have hN17 := hN16.drew
        have hA17 := hA16.drew
        have S17 := S16.drew
        obtain ⟨we, HWE⟩ : ∃ we, Hid (we = w16.drew) := ⟨_, rfl⟩
        rw [← HWE.out] at h17 hN17 hA17 S17
        clear h16 hN16 hA16 S16
        have hSS := And.intro hN17.c4 h17.c7
        dsimp only at hSS
        have hsay := fsay_any h17 1 0 O yy 0
        refine wp_region_D (fun w' => w'.cell? ⟨gn, 4, none⟩ = some (.int .i64 O) ∧ w'.cell? ⟨c.q, 7, none⟩ = some (.int .u64 yy)) (fun _ => false) (by kernel_rfl) ?_
        rw [← HWE.out]
        refine wpAnyD_take (i := 0) (v := .pointer (some ⟨c.q, 0, none⟩)) rfl (by kernel_rfl) (by kernel_rfl) (by kernel_rfl) (by kernel_rfl) (fun _ _ _ h => h) (Or.inl ⟨by rfl, ?_⟩) hSS ?_
        · intro w0 hw0
          clear hw0
          go_simp
        refine wpAnyD_take (i := 1) (v := .pointer (some ⟨gn, 4, none⟩)) rfl (by kernel_rfl) (by kernel_rfl) (by kernel_rfl) (by kernel_rfl) (fun _ _ _ h => h) (Or.inl ⟨by rfl, ?_⟩) hSS ?_
        · intro w0 hw0
          clear hw0
          go_simp
        refine wpAnyD_take (i := 2) (v := .int .i64 O) rfl (by kernel_rfl) (by kernel_rfl) (by kernel_rfl) (by kernel_rfl) (fun _ _ _ h => h) (Or.inl ⟨by rfl, ?_⟩) hSS ?_
        · intro w0 hw0
          obtain ⟨z0, z1⟩ := hw0
          go_simp
        refine wpAnyD_take (i := 3) (v := .pointer (some ⟨c.q, 0, none⟩)) rfl (by kernel_rfl) (by kernel_rfl) (by kernel_rfl) (by kernel_rfl) (fun _ _ _ h => h) (Or.inl ⟨by rfl, ?_⟩) hSS ?_
        · intro w0 hw0
          clear hw0
          go_simp
        refine wpAnyD_take (i := 4) (v := .pointer (some ⟨c.q, 0, none⟩)) rfl (by kernel_rfl) (by kernel_rfl) (by kernel_rfl) (by kernel_rfl) (fun _ _ _ h => h) (Or.inl ⟨by rfl, ?_⟩) hSS ?_
        · intro w0 hw0
          clear hw0
          go_simp
        refine wpAnyD_take (i := 5) (v := .pointer (some ⟨c.q, 7, none⟩)) rfl (by kernel_rfl) (by kernel_rfl) (by kernel_rfl) (by kernel_rfl) (fun _ _ _ h => h) (Or.inl ⟨by rfl, ?_⟩) hSS ?_
        · intro w0 hw0
          clear hw0
          go_simp
        refine wpAnyD_take (i := 6) (v := .int .u64 yy) rfl (by kernel_rfl) (by kernel_rfl) (by kernel_rfl) (by kernel_rfl) (fun _ _ _ h => h) (Or.inl ⟨by rfl, ?_⟩) hSS ?_
        · intro w0 hw0
          obtain ⟨z0, z1⟩ := hw0
          go_simp
        refine wpAnyD_take (i := 7) (v := .agg (ntC 1 0 O yy 0 (.slice none 0 0))) rfl (by kernel_rfl) (by kernel_rfl) (by kernel_rfl) (by kernel_rfl) (fun _ _ _ h => h) (Or.inl ⟨by rfl, ?_⟩) hSS ?_
        · intro w0 hw0
          clear hw0
          go_simp
        refine wpAnyD_one (i := 8) (by kernel_rfl) rfl (fun K hK => ?_)
        go_simp
        go_at_call 51
        refine hsay.mono ?_
        rintro e w18 ⟨v18, rfl, hO18, b18, h18, s18, u18', hA18⟩
        obtain ⟨a18, L18, c18, rfl⟩ : ∃ a L cc, v18 = .slice a L cc := (by obtain ⟨a, cap, e, _⟩ := hO18.ru; exact ⟨a, _, cap, e⟩)
        have hN18 := hN17.off hA17 s18
        have hS18 := And.intro hN18.c4 h18.c7
        refine hK _ _ (fun _ => hS18) ?_
        clear hK K
        have b19 := below_alloc w18 (.cells (ntC 1 c.k O yy 0 (.slice a18 L18 c18)) 52)
        have S18 := S17.trans s18
        have S19 := S18.then b19
        have h19 := h18.below b19
        have hN19 := hN18.below b19
        have hone := Fx.Sd.one (c := c) (w0 := w) (n := ⟨1, c.k, O, yy, 0, dj.news c.k O⟩) h18 S18.size (Ro.Own.mono hO18 S17.size) hA18
        obtain ⟨w19, HW19⟩ : ∃ w19, Hid (w19 = w18.alloc (.cells (ntC 1 c.k O yy 0 (.slice a18 L18 c18)) 52)) := ⟨_, rfl⟩
        rw [← HW19.out] at S19 h19 hN19 hone
        have hS19 := And.intro hN19.c4 h19.c7
        refine wpAnyD_one (i := 9) (by kernel_rfl) rfl (fun K hK => ?_)
        go_simp
        rw [← HW19.out]
        refine hK _ _ (fun _ => hS19) ?_
        clear hK K
        refine wpAnyD_one (i := 10) (by kernel_rfl) rfl (fun K hK => ?_)
        go_simp
        refine hK _ _ (fun _ => hS19) ?_
        clear hK K
        refine wpAnyD_one (i := 11) (by kernel_rfl) rfl (fun K hK => ?_)
        go_simp
        refine hK _ _ (fun _ => hS19) ?_
        clear hK K
        refine wpAnyD_done (by kernel_rfl) ?_ _
        go_wp2_with fail
        rw [← HR2.out]
        first
          | exact bodyPost_ret (v := .tuple #[.slice (some ⟨w18.heap.size, 0, none⟩) 1 1, .int .i64 0]) (by simp [results, Tryz.results16, go_sem]) rfl ⟨_, rfl, _, b18, hone, rfl, h19, S19⟩
          | exact bodyPost_ret (v := .tuple #[.slice (some ⟨w18.heap.size, 0, none⟩) 1 1, .int .i64 0]) (by simp [results, Tryz.results16, go_sem]) rfl ⟨_, _, b18, rfl, hone, rfl, h19, S19⟩
end
end Go.Proofs.YtpoofjnfaijjjaaGreatDoor.Fx
