/-
  SpanReach, walked.
-/
import Derived.Test.YtipoppnoflhpiaaLmt
import Derived.Test.YtipoppnoflhpiaaDmn
import Derived.Test.YtipoppnoflhpiaaDfi
namespace Go.Proofs.Ytipoppnoflhpiaa
open Go.RowKit

/-- A world of which J holds. (A type of its own: the walk would take a subtype apart.) -/
structure Kept (J : World → Prop) where
  at_ : World
  is : J at_
theorem wp_region_kept {P : Program} {id : Nat} {Q : Exit → Act → World → Prop} {a : Act} {w : World} {l : List Oper} (J : World → Prop) (hm : P.follows .mixedOrders = true) (hB : Region.lexB .any l.toArray = true) (hJ : J w.drew)
    (h : wpQuiet P l.toArray (fun w' => ∃ x : Kept J, w' = x.at_) (fun a' => ∀ w', J w' → Q .normal a' w') l a) : (Code.region id l.toArray true).wp P Q a w := by
  refine wp_region_quiet (C := fun w' => ∃ x : Kept J, w' = x.at_) hm hB ⟨⟨w.drew, hJ⟩, rfl⟩ ?_
  have e : (fun a' => ∀ w', (∃ x : Kept J, w' = x.at_) → Q .normal a' w') = (fun a' => ∀ w', J w' → Q .normal a' w') := by
    funext a'
    refine propext ⟨fun h w' hw => h w' ⟨⟨w', hw⟩, rfl⟩, ?_⟩
    rintro h w' ⟨x, rfl⟩
    exact h x.at_ x.is
  rw [e]
  simpa using h

/-- Three lists, in a world that has grown. -/
structure Tri (w0 : World) (x f d : Value) (X F D : List Sn) (w : World) : Prop where
  b : Below w0.heap.size w0 w
  x : Rs x X w
  f : Rs f F w
  d : Rs d D w
theorem Tri.below {w0 : World} {x f d : Value} {X F D : List Sn} {w w' : World} (h : Tri w0 x f d X F D w) (hb : Below w.heap.size w w') : Tri w0 x f d X F D w' := ⟨h.b.trans (hb.mono h.b.size), h.x.below hb, h.f.below hb, h.d.below hb⟩
theorem Tri.drew {w0 : World} {x f d : Value} {X F D : List Sn} {w : World} (h : Tri w0 x f d X F D w) : Tri w0 x f d X F D w.drew := h.below ⟨rfl, rfl, rfl, Nat.le_refl _, fun _ _ => rfl⟩
theorem Tri.on {w0 : World} {x f d : Value} {X F D : List Sn} {y : Kept (Tri w0 x f d X F D)} {w' : World} (hb : Below y.at_.heap.size y.at_ w') : ∃ z : Kept (Tri w0 x f d X F D), w' = z.at_ := ⟨⟨w', y.is.below hb⟩, rfl⟩

theorem Rs.at0 {g n c : Nat} {l : List Sn} {w : World} (h : Rs (.slice (some ⟨g, 0, none⟩) n c) l w) (hl : 0 < l.length) : w.cell? ⟨g, 0, none⟩ = some (.int .u64 (el l 0).f) := by simpa using (h.at hl).1
theorem Rs.atz {g n c p : Nat} {l : List Sn} {w : World} (h : Rs (.slice (some ⟨g, 0, none⟩) n c) l w) (hl : p < l.length) : w.cell? ⟨g, p * 2 + 1, none⟩ = some (.int .u64 (el l p).t) := by simpa using (h.at hl).2

/-- What the law asks of the first ones, and of what is left. -/
theorem left_lt {X : List Sn} {n : Int} (hX : Up 0 X) (h : 0 < (minusS X (firstS X n)).length) {p : Nat} (hp : p < (firstS X n).length) : (el (firstS X n) p).t < (el (minusS X (firstS X n)) 0).f := by
  have hF := firstS_up (n := n) hX
  have hD := minusS_up hX hF
  have hm := hD.at h
  have hh : hasS (minusS X (firstS X n)) (el (minusS X (firstS X n)) 0).f = true := hasS_iff.2 ⟨_, el_mem h, Int.le_refl _, hm.2.1⟩
  rw [minusS_has hX hF, Bool.and_eq_true] at hh
  exact firstS_lt hX hh.1 (by simpa using hh.2) _ (el_mem hp)

set_option maxRecDepth 100000 in
set_option maxHeartbeats 8000000 in
theorem reach_core (v : Value) (l : List Int) (fr : Nat) (n : Int) (f1 : fr ≤ 255) (n0 : 0 ≤ n) (n1 : n ≤ 255) (w : World) (hR : Rn v l w) (hB : Bytes l) :
    Calls Try.prog 5 #[v, .int .u8 fr, .int .u8 n] w fun e w' => e = .returned (.bool true) ∧ Below w.heap.size w w' := by
  obtain ⟨a, cap, rfl, h3⟩ := id hR
  clear h3
  by_cases hla : 100 < l.length
  · have z1 : decide ((100 : Int) < (l.length : Int)) = true := decide_eq_true (by omega)
    have z1N : decide (100 < l.length) = true := decide_eq_true hla
    go_enter Try.func5, Try.ntmps5
    go_wp2_with fail
    refine (shown_any _).mono ?_
    rintro e w1 ⟨rfl, hb⟩
    go_wp2_with fail
    go_ret
    exact ⟨rfl, hb⟩
  · have z1 : decide ((100 : Int) < (l.length : Int)) = false := decide_eq_false (by omega)
    have z1N : decide (100 < l.length) = false := decide_eq_false hla
    have hll : l.length ≤ 100 := by omega
    obtain ⟨u1, u2, u3⟩ := madeS_spec l hB
    have ht : ∀ m, hasS (madeS l) m = true → m ≤ 255 := fun m hm => by
      rw [u2] at hm
      exact (hB m (by simpa using hm)).2
    have hK0 := reachS_ge (madeS l) fr
    have hK1 : reachS (madeS l) fr ≤ 255 := by
      rcases reachS_cases (madeS l) fr with ⟨e, _⟩ | ⟨s, hs, _, _, e⟩
      · omega
      · have := hasS_top u1 ht s hs; omega
    have hin : ∀ i : Int, (fr : Int) < i → i ≤ reachS (madeS l) fr → decide (i ∈ l) = true := fun i h1 h2 => by rw [← u2]; exact reachS_all h1 h2
    have hout : decide (reachS (madeS l) fr + 1 ∈ l) = false := by rw [← u2]; exact reachS_next u1
    have hMade := fun w' h => made_any (.slice a l.length cap) l w' h hB (by omega)
    have hIn := fun x w' h => in_any (.slice a l.length cap) l x w' h hB (by omega)
    have hF := firstS_up (n := n) u1
    have hD := minusS_up u1 hF
    have hFh := fun m => firstS_has (n := n) (m := m) u1
    have hmF := firstS_many n0 u1
    have hFl := firstS_len (madeS l) n
    have hDl := minusS_le (madeS l) (firstS (madeS l) n)
    have hlt := fun (h : 0 < (minusS (madeS l) (firstS (madeS l) n)).length) (p : Nat) (hp : p < (firstS (madeS l) n).length) => left_lt u1 h hp
    have hjn := first_join u1 hF hFh
    have hm0 := u1.many0
    have hm1 := u1.many1
    have eX : mayS (madeS l) = true := mayS_of u1
    have eF : mayS (firstS (madeS l) n) = true := mayS_of hF
    have eR : reachM (madeS l) fr = reachS (madeS l) fr := by unfold reachM; rw [eX]; rfl
    have eM : manyM (madeS l) = manyS (madeS l) := by unfold manyM; rw [eX]; rfl
    have eMF : manyM (firstS (madeS l) n) = manyS (firstS (madeS l) n) := by unfold manyM; rw [eF]; rfl
    have eFi : firstM (madeS l) n = firstS (madeS l) n := by unfold firstM; rw [eX]; rfl
    rw [hmF] at eMF
    have hFk := hF.ok
    clear u2 ht hla hD hFh hmF eX eF hF
    generalize madeS l = X at *
    generalize reachS X fr = K at *
    generalize manyS X = M at *
    have hm2 : M ≤ 18446744073709551615 := by omega
    clear hm1 u1
    have n2 : n ≤ 18446744073709551615 := by omega
    have f0 : (0 : Int) ≤ fr := by omega
    have f2 : (fr : Int) ≤ 255 := by omega
    have zge : decide ((fr : Int) ≤ K) = true := decide_eq_true hK0
    go_enter Try.func5, Try.ntmps5
    go_wp2_with fail
    refine (shown_any _).mono ?_
    rintro e w1 ⟨rfl, hb1⟩
    go_wp2_with fail
    refine (hMade _ (hR.below hb1)).mono ?_
    rintro e w2 ⟨⟨x, rfl, x2⟩, hb2⟩
    have hW2 := hb1.trans (hb2.mono hb1.size)
    go_wp2_with fail
    refine (reach_any _ X fr _ x2 (by omega) f0 (by omega)).mono ?_
    rw [eR]
    rintro e w3 ⟨rfl, hb3⟩
    have hW3 := hW2.trans (hb3.mono hW2.size)
    have x3 := x2.below hb3
    clear hb1 hb2 hb3 hW2 x2
    go_wp2_with fail
    go_loopg [9] (255 - fr) (fun gk t9 wr => ∃ i : Nat, i + gk = 256 ∧ t9 = .int .u64 i ∧ fr < i ∧ (i : Int) ≤ K + 1 ∧ wr = w3)
    case atStart => exact ⟨fr + 1, by omega, by go_num, by omega, by omega, rfl⟩
    case round =>
      obtain ⟨i, hi, rfl, h1, h2, rfl⟩ := hrel
      have i0 : (0 : Int) ≤ i := by omega
      have i1 : (i : Int) ≤ 256 := by omega
      by_cases hle : (i : Int) ≤ K
      · have hii := hin i (by omega) hle
        have z3 : decide ((i : Int) ≤ K) = true := decide_eq_true hle
        have z4 : decide ((i : Int) < 300) = true := decide_eq_true (by omega)
        have z5 : decide (i < 300) = true := decide_eq_true (by omega)
        go_wp2_with fail
        refine (hIn _ _ (hR.below hW3)).mono ?_
        rw [hii]
        rintro e w4 ⟨rfl, rfl⟩
        go_wp2_with fail
        go_roundg (gk - 1)
        case rel => exact ⟨i + 1, by omega, by go_num, by omega, by omega, rfl⟩
        case measure => omega
      · have z3 : decide ((i : Int) ≤ K) = false := decide_eq_false hle
        clear hin
        go_wp2_with fail
        refine (first_any _ X n _ x3 (by omega) n0 n2).mono ?_
        rw [eFi]
        rintro e w4 ⟨⟨vf, rfl, oF⟩, hb4⟩
        have fR := oF.rs hFk
        have hW4 := hW3.trans (hb4.mono hW3.size)
        have x4 := x3.below hb4
        obtain ⟨af, cf, rfl⟩ := oF.len
        go_wp2_with fail
        refine (minus_any _ _ X (firstS X n) _ x4 fR (by omega) (by omega)).mono ?_
        rintro e w5 ⟨⟨vd, rfl, oD⟩, hb5⟩
        have dR := oD.rs (minusS_ok _ _)
        have oF5 := oF.below hb5
        have hW5 := hW4.trans (hb5.mono hW4.size)
        have hXR := x4.below hb5
        have hFR := fR.below hb5
        clear x3 x4 fR hb4 hb5 hW4 eFi hFk oF
        have hjoin := fun vx vy w' hx hy => join_any vx vy (firstS X n) (minusS X (firstS X n)) w' hx hy (by omega) (by omega)
        rw [hjn] at hjoin
        have hmanyF := fun v w' h => many_any v (firstS X n) w' h (by omega)
        rw [eMF] at hmanyF
        have hmanyX := fun v w' h => many_any v X w' h (by omega)
        rw [eM] at hmanyX
        have hDok := minusS_ok X (firstS X n)
        clear hjn eMF eM
        generalize minusS X (firstS X n) = D at *
        generalize firstS X n = F at *
        obtain ⟨mn, hmn⟩ : ∃ mn, min n M = mn := ⟨_, rfl⟩
        rw [hmn] at hmanyF
        obtain ⟨NF, hNF⟩ : ∃ NF, F.length = NF := ⟨_, rfl⟩
        obtain ⟨ND, hND⟩ : ∃ ND, D.length = ND := ⟨_, rfl⟩
        have hXok := hXR.2
        have hmin : ∀ z, mn = z → True := fun _ _ => trivial
        clear hmin
        obtain ⟨ad, cd, rfl⟩ := oD.len
        have hDR := dR
        clear dR
        have hMn : mn = n ∧ n ≤ M ∨ mn = M ∧ M < n := by omega
        clear hmn
        rcases Nat.eq_zero_or_pos NF with hF0 | hF0
        · subst hF0
          have hF00 : F = [] := List.length_eq_zero_iff.1 hNF
          subst hF00
          rw [show ([] : List Sn).length = 0 from rfl] at hFR ⊢
          rw [hND] at hDR ⊢
          clear hlt oF5 hNF
          rcases hMn with ⟨rfl, q⟩ | ⟨rfl, q⟩
          · have hT : Tri w x (.slice af 0 cf) (.slice ad ND cd) X [] D w5 := ⟨hW5, hXR, hFR, hDR⟩
            go_upto_region 12 with fail
            refine wp_region_kept (Tri w x (.slice af 0 cf) (.slice ad ND cd) X [] D) (by kernel_rfl) (by kernel_rfl) hT.drew ?_
            have hne : Nonempty (Kept (Tri w x (.slice af 0 cf) (.slice ad ND cd) X [] D)) := ⟨⟨_, hT⟩⟩
            repeat (go_big_quiet_step (fail))
            go_big_quiet_step ((rename_i yk; refine (hmanyF _ _ yk.is.f).mono ?_; rintro e w7 ⟨rfl, hb7⟩; exact ⟨rfl, Tri.on hb7⟩))
            repeat (go_big_quiet_step (fail))
            go_big_quiet_step ((rename_i yk; refine (hmanyX _ _ yk.is.x).mono ?_; rintro e w7 ⟨rfl, hb7⟩; exact ⟨rfl, Tri.on hb7⟩))
            repeat (go_big_quiet_step (fail))
            refine wpQuiet_nil ?_
            intro w6 h6
            go_wp2_with fail
            refine (hIn _ _ (hR.below h6.b)).mono ?_
            rw [hout]
            rintro e w7 ⟨rfl, rfl⟩
            go_wp2_with fail
            refine (hjoin _ _ _ h6.f h6.d).mono ?_
            rintro e w8 ⟨⟨v8, rfl, hO8⟩, hb8⟩
            have hW8 := h6.b.trans (hb8.mono h6.b.size)
            have hR8 := hO8.rs hXok
            have hX8 := h6.x.below hb8
            go_wp2_with fail
            refine (same_any _ _ X _ (by omega) hR8 hX8).mono ?_
            rintro e w9 ⟨rfl, hb9⟩
            go_wp2_with fail
            go_ret
            exact ⟨rfl, hW8.trans (hb9.mono hW8.size)⟩
          · have hT : Tri w x (.slice af 0 cf) (.slice ad ND cd) X [] D w5 := ⟨hW5, hXR, hFR, hDR⟩
            go_upto_region 12 with fail
            refine wp_region_kept (Tri w x (.slice af 0 cf) (.slice ad ND cd) X [] D) (by kernel_rfl) (by kernel_rfl) hT.drew ?_
            have hne : Nonempty (Kept (Tri w x (.slice af 0 cf) (.slice ad ND cd) X [] D)) := ⟨⟨_, hT⟩⟩
            repeat (go_big_quiet_step (fail))
            go_big_quiet_step ((rename_i yk; refine (hmanyF _ _ yk.is.f).mono ?_; rintro e w7 ⟨rfl, hb7⟩; exact ⟨rfl, Tri.on hb7⟩))
            repeat (go_big_quiet_step (fail))
            go_big_quiet_step ((rename_i yk; refine (hmanyX _ _ yk.is.x).mono ?_; rintro e w7 ⟨rfl, hb7⟩; exact ⟨rfl, Tri.on hb7⟩))
            repeat (go_big_quiet_step (fail))
            refine wpQuiet_nil ?_
            intro w6 h6
            go_wp2_with fail
            refine (hIn _ _ (hR.below h6.b)).mono ?_
            rw [hout]
            rintro e w7 ⟨rfl, rfl⟩
            go_wp2_with fail
            refine (hjoin _ _ _ h6.f h6.d).mono ?_
            rintro e w8 ⟨⟨v8, rfl, hO8⟩, hb8⟩
            have hW8 := h6.b.trans (hb8.mono h6.b.size)
            have hR8 := hO8.rs hXok
            have hX8 := h6.x.below hb8
            go_wp2_with fail
            refine (same_any _ _ X _ (by omega) hR8 hX8).mono ?_
            rintro e w9 ⟨rfl, hb9⟩
            go_wp2_with fail
            go_ret
            exact ⟨rfl, hW8.trans (hb9.mono hW8.size)⟩
        · obtain ⟨p, rfl⟩ : ∃ p, NF = p + 1 := ⟨NF - 1, by omega⟩
          obtain ⟨gF, cF, e, _⟩ := oF5.place (by omega)
          cases e
          have hpF : p < F.length := by omega
          have hp1 : (p : Int) ≤ 1000 := by omega
          have hp0 : (0 : Int) ≤ p := by omega
          have zp : decide ((0 : Int) < (p : Int) + 1) = true := decide_eq_true (by omega)
          rw [hNF] at hFR ⊢
          rcases Nat.eq_zero_or_pos ND with hD0 | hD0
          · subst hD0
            have hD00 : D = [] := List.length_eq_zero_iff.1 hND
            subst hD00
            rw [show ([] : List Sn).length = 0 from rfl] at hDR ⊢
            clear hlt oF5 oD
            rcases hMn with ⟨rfl, q⟩ | ⟨rfl, q⟩
            · have hT : Tri w x (.slice (some ⟨gF, 0, none⟩) (p + 1) cf) (.slice ad 0 cd) X F [] w5 := ⟨hW5, hXR, hFR, hDR⟩
              go_upto_region 12 with fail
              refine wp_region_kept (Tri w x (.slice (some ⟨gF, 0, none⟩) (p + 1) cf) (.slice ad 0 cd) X F []) (by kernel_rfl) (by kernel_rfl) hT.drew ?_
              have hne : Nonempty (Kept (Tri w x (.slice (some ⟨gF, 0, none⟩) (p + 1) cf) (.slice ad 0 cd) X F [])) := ⟨⟨_, hT⟩⟩
              repeat (go_big_quiet_step (fail))
              go_big_quiet_step ((rename_i yk; refine (hmanyF _ _ yk.is.f).mono ?_; rintro e w7 ⟨rfl, hb7⟩; exact ⟨rfl, Tri.on hb7⟩))
              repeat (go_big_quiet_step (fail))
              go_big_quiet_step ((rename_i yk; refine (hmanyX _ _ yk.is.x).mono ?_; rintro e w7 ⟨rfl, hb7⟩; exact ⟨rfl, Tri.on hb7⟩))
              repeat (go_big_quiet_step (fail))
              refine wpQuiet_nil ?_
              intro w6 h6
              go_wp2_with fail
              refine (hIn _ _ (hR.below h6.b)).mono ?_
              rw [hout]
              rintro e w7 ⟨rfl, rfl⟩
              go_wp2_with fail
              refine (hjoin _ _ _ h6.f h6.d).mono ?_
              rintro e w8 ⟨⟨v8, rfl, hO8⟩, hb8⟩
              have hW8 := h6.b.trans (hb8.mono h6.b.size)
              have hR8 := hO8.rs hXok
              have hX8 := h6.x.below hb8
              go_wp2_with fail
              refine (same_any _ _ X _ (by omega) hR8 hX8).mono ?_
              rintro e w9 ⟨rfl, hb9⟩
              go_wp2_with fail
              go_ret
              exact ⟨rfl, hW8.trans (hb9.mono hW8.size)⟩
            · have hT : Tri w x (.slice (some ⟨gF, 0, none⟩) (p + 1) cf) (.slice ad 0 cd) X F [] w5 := ⟨hW5, hXR, hFR, hDR⟩
              go_upto_region 12 with fail
              refine wp_region_kept (Tri w x (.slice (some ⟨gF, 0, none⟩) (p + 1) cf) (.slice ad 0 cd) X F []) (by kernel_rfl) (by kernel_rfl) hT.drew ?_
              have hne : Nonempty (Kept (Tri w x (.slice (some ⟨gF, 0, none⟩) (p + 1) cf) (.slice ad 0 cd) X F [])) := ⟨⟨_, hT⟩⟩
              repeat (go_big_quiet_step (fail))
              go_big_quiet_step ((rename_i yk; refine (hmanyF _ _ yk.is.f).mono ?_; rintro e w7 ⟨rfl, hb7⟩; exact ⟨rfl, Tri.on hb7⟩))
              repeat (go_big_quiet_step (fail))
              go_big_quiet_step ((rename_i yk; refine (hmanyX _ _ yk.is.x).mono ?_; rintro e w7 ⟨rfl, hb7⟩; exact ⟨rfl, Tri.on hb7⟩))
              repeat (go_big_quiet_step (fail))
              refine wpQuiet_nil ?_
              intro w6 h6
              go_wp2_with fail
              refine (hIn _ _ (hR.below h6.b)).mono ?_
              rw [hout]
              rintro e w7 ⟨rfl, rfl⟩
              go_wp2_with fail
              refine (hjoin _ _ _ h6.f h6.d).mono ?_
              rintro e w8 ⟨⟨v8, rfl, hO8⟩, hb8⟩
              have hW8 := h6.b.trans (hb8.mono h6.b.size)
              have hR8 := hO8.rs hXok
              have hX8 := h6.x.below hb8
              go_wp2_with fail
              refine (same_any _ _ X _ (by omega) hR8 hX8).mono ?_
              rintro e w9 ⟨rfl, hb9⟩
              go_wp2_with fail
              go_ret
              exact ⟨rfl, hW8.trans (hb9.mono hW8.size)⟩
          · obtain ⟨r, rfl⟩ : ∃ r, ND = r + 1 := ⟨ND - 1, by omega⟩
            obtain ⟨gD, cD, e, _⟩ := oD.place (by omega)
            cases e
            have hrD : 0 < D.length := by omega
            have hr0 : (0 : Int) ≤ r := by omega
            have zr : decide ((0 : Int) < (r : Int) + 1) = true := decide_eq_true (by omega)
            have hll := hlt hrD p hpF
            have zl : decide ((el D 0).f ≤ (el F p).t) = false := decide_eq_false (by omega)
            rw [hND] at hDR ⊢
            clear hlt oF5 oD
            rcases hMn with ⟨rfl, q⟩ | ⟨rfl, q⟩
            · have hT : Tri w x (.slice (some ⟨gF, 0, none⟩) (p + 1) cf) (.slice (some ⟨gD, 0, none⟩) (r + 1) cd) X F D w5 := ⟨hW5, hXR, hFR, hDR⟩
              have d0 : ∀ y : Kept (Tri w x (.slice (some ⟨gF, 0, none⟩) (p + 1) cf) (.slice (some ⟨gD, 0, none⟩) (r + 1) cd) X F D), y.at_.cell? ⟨gD, 0, none⟩ = some (.int .u64 (el D 0).f) := fun y => y.is.d.at0 hrD
              have f0 : ∀ y : Kept (Tri w x (.slice (some ⟨gF, 0, none⟩) (p + 1) cf) (.slice (some ⟨gD, 0, none⟩) (r + 1) cd) X F D), y.at_.cell? ⟨gF, p * 2 + 1, none⟩ = some (.int .u64 (el F p).t) := fun y => y.is.f.atz hpF
              generalize (el D 0).f = df at *
              generalize (el F p).t = ft at *
              go_upto_region 12 with fail
              refine wp_region_kept (Tri w x (.slice (some ⟨gF, 0, none⟩) (p + 1) cf) (.slice (some ⟨gD, 0, none⟩) (r + 1) cd) X F D) (by kernel_rfl) (by kernel_rfl) hT.drew ?_
              have hne : Nonempty (Kept (Tri w x (.slice (some ⟨gF, 0, none⟩) (p + 1) cf) (.slice (some ⟨gD, 0, none⟩) (r + 1) cd) X F D)) := ⟨⟨_, hT⟩⟩
              repeat (go_big_quiet_step (fail))
              go_big_quiet_step ((rename_i yk; refine (hmanyF _ _ yk.is.f).mono ?_; rintro e w7 ⟨rfl, hb7⟩; exact ⟨rfl, Tri.on hb7⟩))
              repeat (go_big_quiet_step (fail))
              go_big_quiet_step ((rename_i yk; refine (hmanyX _ _ yk.is.x).mono ?_; rintro e w7 ⟨rfl, hb7⟩; exact ⟨rfl, Tri.on hb7⟩))
              repeat (go_big_quiet_step (fail))
              refine wpQuiet_nil ?_
              intro w6 h6
              go_wp2_with fail
              refine (hIn _ _ (hR.below h6.b)).mono ?_
              rw [hout]
              rintro e w7 ⟨rfl, rfl⟩
              go_wp2_with fail
              refine (hjoin _ _ _ h6.f h6.d).mono ?_
              rintro e w8 ⟨⟨v8, rfl, hO8⟩, hb8⟩
              have hW8 := h6.b.trans (hb8.mono h6.b.size)
              have hR8 := hO8.rs hXok
              have hX8 := h6.x.below hb8
              go_wp2_with fail
              refine (same_any _ _ X _ (by omega) hR8 hX8).mono ?_
              rintro e w9 ⟨rfl, hb9⟩
              go_wp2_with fail
              go_ret
              exact ⟨rfl, hW8.trans (hb9.mono hW8.size)⟩
            · have hT : Tri w x (.slice (some ⟨gF, 0, none⟩) (p + 1) cf) (.slice (some ⟨gD, 0, none⟩) (r + 1) cd) X F D w5 := ⟨hW5, hXR, hFR, hDR⟩
              have d0 : ∀ y : Kept (Tri w x (.slice (some ⟨gF, 0, none⟩) (p + 1) cf) (.slice (some ⟨gD, 0, none⟩) (r + 1) cd) X F D), y.at_.cell? ⟨gD, 0, none⟩ = some (.int .u64 (el D 0).f) := fun y => y.is.d.at0 hrD
              have f0 : ∀ y : Kept (Tri w x (.slice (some ⟨gF, 0, none⟩) (p + 1) cf) (.slice (some ⟨gD, 0, none⟩) (r + 1) cd) X F D), y.at_.cell? ⟨gF, p * 2 + 1, none⟩ = some (.int .u64 (el F p).t) := fun y => y.is.f.atz hpF
              generalize (el D 0).f = df at *
              generalize (el F p).t = ft at *
              go_upto_region 12 with fail
              refine wp_region_kept (Tri w x (.slice (some ⟨gF, 0, none⟩) (p + 1) cf) (.slice (some ⟨gD, 0, none⟩) (r + 1) cd) X F D) (by kernel_rfl) (by kernel_rfl) hT.drew ?_
              have hne : Nonempty (Kept (Tri w x (.slice (some ⟨gF, 0, none⟩) (p + 1) cf) (.slice (some ⟨gD, 0, none⟩) (r + 1) cd) X F D)) := ⟨⟨_, hT⟩⟩
              repeat (go_big_quiet_step (fail))
              go_big_quiet_step ((rename_i yk; refine (hmanyF _ _ yk.is.f).mono ?_; rintro e w7 ⟨rfl, hb7⟩; exact ⟨rfl, Tri.on hb7⟩))
              repeat (go_big_quiet_step (fail))
              go_big_quiet_step ((rename_i yk; refine (hmanyX _ _ yk.is.x).mono ?_; rintro e w7 ⟨rfl, hb7⟩; exact ⟨rfl, Tri.on hb7⟩))
              repeat (go_big_quiet_step (fail))
              refine wpQuiet_nil ?_
              intro w6 h6
              go_wp2_with fail
              refine (hIn _ _ (hR.below h6.b)).mono ?_
              rw [hout]
              rintro e w7 ⟨rfl, rfl⟩
              go_wp2_with fail
              refine (hjoin _ _ _ h6.f h6.d).mono ?_
              rintro e w8 ⟨⟨v8, rfl, hO8⟩, hb8⟩
              have hW8 := h6.b.trans (hb8.mono h6.b.size)
              have hR8 := hO8.rs hXok
              have hX8 := h6.x.below hb8
              go_wp2_with fail
              refine (same_any _ _ X _ (by omega) hR8 hX8).mono ?_
              rintro e w9 ⟨rfl, hb9⟩
              go_wp2_with fail
              go_ret
              exact ⟨rfl, hW8.trans (hb9.mono hW8.size)⟩

theorem spanReach_walk (a0 : Option Addr) (len0 cap0 : Nat) (x0 : List Int) (f n : Int) (hf : (Lit.int .u8 f).wf = true) (hn : (Lit.int .u8 n).wf = true) (w : World) (w0 : IsBytes w a0 len0 cap0 x0) :
    Calls Try.prog 5 #[.slice a0 len0 cap0, .int .u8 f, .int .u8 n] w fun e w' => e = .returned (.bool true) ∧ Below w.heap.size w w' := by
  obtain ⟨fr, rfl⟩ : ∃ fr : Nat, f = (fr : Int) := ⟨f.toNat, by have := (u8_of hf).1; omega⟩
  exact reach_core _ x0 fr n (by have := (u8_of hf).2; omega) (u8_of hn).1 (u8_of hn).2 w w0.2.1 w0.2.2
end Go.Proofs.Ytipoppnoflhpiaa
