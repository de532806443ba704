/-
  What a detector's calls leave as it was; what holds of each note that is heard. No program is known here. takeInAll. What is shown: computed. Watches, Errands, answers. Hear. Hear of a Help; Hear whatever comes.
-/
import Derived.Test.YtpoofjnfaijjjaaGreatDoorMHlp
namespace Go.Proofs.YtpoofjnfaijjjaaGreatDoor
open Go.RowKit Go.Proofs.YtpoofjnfaijjjaaGreatDoor.Ro
theorem learn_fr (d : Det) (u : Upd) (f : Int) (was : Bool) (l : List Int) : (d.learn u f was l).1.W = d.W ∧ (d.learn u f was l).1.E = d.E ∧ (d.learn u f was l).1.no = d.no ∧ (d.learn u f was l).1.la = d.la ∧ (d.learn u f was l).1.le = d.le ∧ (d.learn u f was l).1.f = d.f := by
  unfold Det.learn
  split
  · exact ⟨rfl, rfl, rfl, rfl, rfl, rfl⟩
  · split
    · exact ⟨rfl, rfl, rfl, rfl, rfl, rfl⟩
    · exact ⟨rfl, rfl, rfl, rfl, rfl, rfl⟩
theorem take_fr (k : Nat) (d : Det) (u : Upd) (f : Int) (l : List Int) : (d.take k u f l).2.1.W = d.W ∧ (d.take k u f l).2.1.E = d.E ∧ (d.take k u f l).2.1.no = d.no ∧ (d.take k u f l).2.1.la = d.la ∧ (d.take k u f l).2.1.le = d.le ∧ (d.take k u f l).2.1.f = (hearS k d.f u).2 := by
  unfold Det.take
  split
  · exact ⟨rfl, rfl, rfl, rfl, rfl, rfl⟩
  · split
    · exact learn_fr ({ d with f := (hearS k d.f u).2 } : Det) u f _ l
    · split
      · exact ⟨rfl, rfl, rfl, rfl, rfl, rfl⟩
      · split
        · exact ⟨rfl, rfl, rfl, rfl, rfl, rfl⟩
        · exact ⟨rfl, rfl, rfl, rfl, rfl, rfl⟩
theorem takes_fr (k : Nat) (f : Int) : ∀ (U : List Upd) (d : Det) (l : List Int), (d.takes k f U l).2.1.W = d.W ∧ (d.takes k f U l).2.1.E = d.E ∧ (d.takes k f U l).2.1.no = d.no ∧ (d.takes k f U l).2.1.la = d.la ∧ (d.takes k f U l).2.1.le = d.le
  | [], d, l => ⟨rfl, rfl, rfl, rfl, rfl⟩
  | u :: r, d, l => by
    obtain ⟨h1, h2, h3, h4, h5, _⟩ := take_fr k d u f l
    rw [Det.takes]
    split
    · exact ⟨h1, h2, h3, h4, h5⟩
    · obtain ⟨i1, i2, i3, i4, i5⟩ := takes_fr k f r (d.take k u f l).2.1 (d.take k u f l).2.2
      exact ⟨i1.trans h1, i2.trans h2, i3.trans h3, i4.trans h4, i5.trans h5⟩
theorem first_fr (k : Nat) (d : Det) (f : Int) (l : List Int) : (d.first k f l).1.W = d.W ∧ (d.first k f l).1.E = d.E ∧ (d.first k f l).1.no = d.no ∧ (d.first k f l).1.la = d.la ∧ (d.first k f l).1.le = d.le := by
  unfold Det.first
  split
  · exact ⟨rfl, rfl, rfl, rfl, rfl⟩
  · obtain ⟨h1, h2, h3, h4, h5, _⟩ := take_fr k d ⟨f, 0, 0⟩ f l
    exact ⟨h1, h2, h3, h4, h5⟩
theorem nodeB_nd {x : Int} (h : ¬ nodeB x = false) : Nd x := by
  unfold nodeB at h
  have : (decide (0 ≤ x) && decide (x < 64)) = true := by simpa using h
  simpa [Nd] using this
theorem fault_ok {k : Nat} {d : Det} {n : Nte} (h : d.fault k n = 0) : d.le = false ∧ n.t = k ∧ n.f ≠ k ∧ Nd n.f ∧ Nd n.o ∧ 1 ≤ n.k ∧ n.k ≤ 3 := by
  unfold Det.fault at h
  by_cases h1 : d.le = true
  · rw [if_pos h1] at h; cases h
  rw [if_neg h1] at h
  by_cases h2 : n.t ≠ k ∨ n.f = k ∨ nodeB n.f = false ∨ nodeB n.o = false
  · rw [if_pos h2] at h; cases h
  rw [if_neg h2] at h
  by_cases h3 : n.k < 1 ∨ 3 < n.k
  · rw [if_pos h3] at h; cases h
  simp only [not_or] at h2 h3
  exact ⟨by simpa using h1, by simpa using h2.1, h2.2.1, nodeB_nd h2.2.2.1, nodeB_nd h2.2.2.2, by omega, by omega⟩
section
variable (k : Nat)
theorem miss_fr (d : Det) (n : Int) (l : List Int) : (d.miss k n l).1.W = d.W ∧ (d.miss k n l).1.no = d.no ∧ (d.miss k n l).1.E = d.E ∧ (d.miss k n l).1.la = d.la ∧ (d.miss k n l).1.le = d.le := by
  unfold Det.miss
  split
  · obtain ⟨h1, h2, h3, h4, h5, _⟩ := take_fr k d ⟨n, (ud (getS d.f n)).i, 1⟩ k l
    exact ⟨h1, h3, h2, h4, h5⟩
  · exact ⟨rfl, rfl, rfl, rfl, rfl⟩
theorem helps_fr (x : Wch) : ∀ (H : List Int) (d : Det), (d.helps k x H).2.W = d.W ∧ (d.helps k x H).2.no = d.no ∧ (d.helps k x H).2.E = d.E ∧ (d.helps k x H).2.la = d.la ∧ (d.helps k x H).2.le = d.le
  | [], _ => ⟨rfl, rfl, rfl, rfl, rfl⟩
  | h :: r, d => helps_fr x r (d.told k h)
theorem look_fr : ∀ (L : List Wch) (d : Det) (l : List Int), (d.look k L l).2.2.1.W = d.W ∧ (d.look k L l).2.2.1.no = d.no ∧ (d.look k L l).2.2.1.E = d.E ∧ (d.look k L l).2.2.1.la = d.la ∧ (d.look k L l).2.2.1.le = d.le ∧ (d.look k L l).2.1.length ≤ L.length
  | [], _, _ => ⟨rfl, rfl, rfl, rfl, rfl, Nat.le_refl _⟩
  | w :: r, d, l => by
    rw [Det.look]
    split
    · obtain ⟨h1, h2, h3, h4, h5⟩ := miss_fr k d w.n l
      obtain ⟨i1, i2, i3, i4, i5, i6⟩ := look_fr r (d.miss k w.n l).1 (d.miss k w.n l).2
      exact ⟨i1.trans h1, i2.trans h2, i3.trans h3, i4.trans h4, i5.trans h5, Nat.le_trans i6 (Nat.le_succ _)⟩
    · split
      · obtain ⟨h1, h2, h3, h4, h5⟩ := helps_fr k w (Rn.helpS (othS k d.f) w.n 2 l).1 d
        obtain ⟨i1, i2, i3, i4, i5, i6⟩ := look_fr r (d.ask k w l).2.1 (d.ask k w l).2.2
        exact ⟨i1.trans h1, i2.trans h2, i3.trans h3, i4.trans h4, i5.trans h5, Nat.succ_le_succ i6⟩
      · obtain ⟨i1, i2, i3, i4, i5, i6⟩ := look_fr r d l
        exact ⟨i1, i2, i3, i4, i5, Nat.succ_le_succ i6⟩
theorem dead_fr : ∀ (U : List Upd) (d : Det) (l : List Int), (d.dead k U l).1.W = d.W ∧ (d.dead k U l).1.no = d.no ∧ (d.dead k U l).1.E = d.E ∧ (d.dead k U l).1.la = d.la ∧ (d.dead k U l).1.le = d.le
  | [], _, _ => ⟨rfl, rfl, rfl, rfl, rfl⟩
  | u :: r, d, l => by
    rw [Det.dead]
    obtain ⟨h1, h2, h3, h4, h5, _⟩ := take_fr k d u k l
    obtain ⟨i1, i2, i3, i4, i5⟩ := dead_fr r (d.take k u k l).2.1 (d.take k u k l).2.2
    exact ⟨i1.trans h1, i2.trans h3, i3.trans h2, i4.trans h4, i5.trans h5⟩
theorem pingNext_W (d : Det) (l : List Int) : (d.pingNext k l).2.1.W.length ≤ d.W.length + 1 := by
  unfold Det.pingNext
  split
  · exact Nat.le_succ _
  · simp
theorem tick_W (d : Det) (l : List Int) : (d.tick k l).2.1.W.length ≤ d.W.length + 1 := by
  unfold Det.tick
  split
  · exact Nat.le_succ _
  · dsimp only
    have h6 := (look_fr k d.W ({ d with no := u64w (d.no + 1) } : Det) l).2.2.2.2.2
    have e : (({ d with no := u64w (d.no + 1) } : Det).lookAfter k l).2.1.W.length ≤ d.W.length := h6
    generalize ({ d with no := u64w (d.no + 1) } : Det).lookAfter k l = R at *
    refine Nat.le_trans (pingNext_W k _ _) ?_
    rw [(dead_fr k _ _ _).1]
    exact Nat.succ_le_succ e
theorem hear_W (d : Det) (n : Nte) (l : List Int) : (d.hear k n l).2.1.W.length ≤ d.W.length := by
  unfold Det.hear
  split
  · exact Nat.le_refl _
  · dsimp only
    have e : ((d.first k n.f l).1.takes k n.f n.u (d.first k n.f l).2).2.1.W = d.W := (takes_fr k n.f n.u _ _).1.trans (first_fr k d n.f l).1
    generalize (d.first k n.f l).1.takes k n.f n.u (d.first k n.f l).2 = R at *
    split
    · exact Nat.le_of_eq (congrArg List.length e)
    · rw [← e]
      unfold Det.answer
      split
      · exact Nat.le_refl _
      · split
        · unfold Det.acked
          split
          · exact Nat.le_refl _
          · exact List.length_filter_le _ _
        · unfold Det.helped
          split
          · exact Nat.le_refl _
          · exact Nat.le_refl _
end
section
variable {k Bp p : Nat} {b : Bl} {d : Det} {l : List Int} {w : World}
theorem Sx.put (h : Sx k Bp p b d l w) {g : Nat} (hA : Away p b w g) (hg : p < g) (j : Nat) (v : Value) : Sx k Bp p b d l (w.setCell ⟨g, j, none⟩ v) := by
  have hb : ∀ i, i ≠ g → (w.setCell ⟨g, j, none⟩ v).heap[i]? = w.heap[i]? := fun i hi => Below.heap_setCell _ _ _ _ hi
  exact ⟨h.dt.keep (by simp [World.setCell]) (fun i g' hi => hb g' (fun e => hA.own i (by rw [hi, e]))) (hb 1 (fun e => by have := h.low; have := h.lots.le; omega)), h.lots.keep fun g' _ h2 => hb g' (by omega), h.lok, h.out, h.low⟩
def Nw (p : Nat) (b : Bl) (w : World) (v : Value) (u : List Upd) : Prop := u = [] ∨ ∀ g, v.ownBlock = some g → Away p b w g
theorem ruK {b' : Bl} {w' : World} {v : Value} {u : List Upd} (hU : Ro.Ru v u w) (hA : Nw p b w v u) (S : Stp p b w b' w') : Ro.Ru v u w' := by
  rcases hA with rfl | hA
  · obtain ⟨a, cap, e, h1, h2, _⟩ := hU
    exact ⟨a, cap, e, h1, h2, .inl rfl⟩
  · exact hU.keep fun g e _ => S.keep (hA g e)
theorem Nw.stp {b' : Bl} {w' : World} {v : Value} {u : List Upd} (hA : Nw p b w v u) (S : Stp p b w b' w') : Nw p b' w' v u := hA.imp id fun h g e => (h g e).stp S
theorem takes_drop (k : Nat) (d : Det) (f : Int) (U : List Upd) (l : List Int) (j : Nat) (hj : j < U.length) : d.takes k f (U.drop j) l = if (d.take k U[j] f l).1 = 60 then (60, (d.take k U[j] f l).2) else (d.take k U[j] f l).2.1.takes k f (U.drop (j + 1)) (d.take k U[j] f l).2.2 := by
  rw [List.drop_eq_getElem_cons hj]
  rfl
theorem named {n : Nat} {a w : World} (h : Below n a w) : ∃ w', Hid (w' = w) ∧ Below n a w' := ⟨w, rfl, h⟩
set_option maxRecDepth 100000 in
set_option maxHeartbeats 4000000 in
theorem takeinall_any (h : Sx k Bp p b d l w) (n : Nte) (na : Option Addr) (nl nc : Nat) (hU : Ro.Ru (.slice na nl nc) n.u w) (hA : Nw p b w (.slice na nl nc) n.u) (hl : n.u.length ≤ 1000000) (hin : ∀ u ∈ n.u, U64 u.i) :
    Calls Tryz.prog 53 #[.pointer (some ⟨b.q, 0, none⟩), ntV n (.slice na nl nc), .pointer (some ⟨p, 0, none⟩)] w fun e w' => e = .returned (.int .i64 ((d.first k n.f l).1.takes k n.f n.u (d.first k n.f l).2).1) ∧ ∃ b', Sx k Bp p b' ((d.first k n.f l).1.takes k n.f n.u (d.first k n.f l).2).2.1 ((d.first k n.f l).1.takes k n.f n.u (d.first k n.f l).2).2.2 w' ∧ Stp p b w b' w' := by
  obtain ⟨K, F, T, Q, O, U⟩ := n
  dsimp only at hU hl hin hA
  obtain ⟨a', cap', e', c1, c2, h3⟩ := id hU
  cases e'
  have hlen : (U.length : Int) ≤ 1000000 := by omega
  have hmf : ∀ (fn : Fn) (first cap : Array Value) (w : World), (Instr.makeFunc fn first cap).run Tryz.prog w = .ok (.func fn first cap) w := fun _ _ _ _ => rfl
  have ba := below_alloc w (.cells (ntC K F T Q O (.slice na U.length nc)) 37)
  have bb := below_alloc (w.alloc (.cells (ntC K F T Q O (.slice na U.length nc)) 37)) (.cells #[.int .i64 0] 47)
  have hz : (w.alloc (.cells (ntC K F T Q O (.slice na U.length nc)) 37)).heap.size = w.heap.size + 1 := by simp
  have hN := (Bn.new K F T Q O (.slice na U.length nc) w).below bb
  have hEr := Er.new (w.alloc (.cells (ntC K F T Q O (.slice na U.length nc)) 37))
  have h1 := (h.below ba).below bb
  have S1 : Stp p b w b _ := (Stp.of ba).then bb
  rw [hz] at hEr
  obtain ⟨w1, HW1⟩ : ∃ w1, Hid (w1 = (w.alloc (.cells (ntC K F T Q O (.slice na U.length nc)) 37)).alloc (.cells #[.int .i64 0] 47)) := ⟨_, rfl⟩
  rw [← HW1.out] at hN hEr h1 S1
  clear ba bb hz
  have hAN := h.away (Nat.le_refl _) hN.lt
  have hAE := h.away (Nat.le_succ _) hEr.lt
  have hU1 := ruK hU hA S1
  have hA1 : Nw p b w1 _ U := Nw.stp hA S1
  have hold : ∀ w', Below w1.heap.size w1 w' → Below w1.heap.size w1 w' ∧ w'.cell? ⟨b.q, 0, none⟩ = some (.pointer (some ⟨b.r, 0, none⟩)) ∧ w'.cell? ⟨w.heap.size, 1, none⟩ = some (.int .i64 F) := fun w' hb => ⟨hb, (h1.below hb).dt.c0, (hN.below hb).c1⟩
  have hB0 : Below w1.heap.size w1 w1 := Below.refl _ _
  have hB1 : Below w1.heap.size w1 w1.drew := bD hB0
  have hg := fun w' hR => get_any b.r k F d.f w' hR
  obtain ⟨R, HR⟩ : ∃ R, Hid ((d.first k F l).1.takes k F U (d.first k F l).2 = R) := ⟨_, rfl⟩
  dsimp only
  rw [HR.out]
  have hfi : Hid (d.first k F l = if (getS d.f F).isSome = true then (d, l) else (d.take k ⟨F, 0, 0⟩ F l).2) := rfl
  generalize d.first k F l = fi at *
  generalize (getS d.f F).isSome = sm at *
  generalize ud (getS d.f F) = y at *
  have n1 := hN.c1
  have n5 := hN.c5
  have c0 := h1.dt.c0
  have hgN : Hid (w.heap.size < w1.heap.size) := hN.lt
  have hpN : p < w.heap.size := h.lots.lt
  cases sm
  all_goals
    go_enter_defers Tryz.func53, Tryz.ntmps53
    go_upto_region 2 with fail
    rw [← HW1.out]
    go_region_held3 (fun w' => Below w1.heap.size w1 w' ∧ w'.cell? ⟨b.q, 0, none⟩ = some (.pointer (some ⟨b.r, 0, none⟩)) ∧ w'.cell? ⟨w.heap.size, 1, none⟩ = some (.int .i64 F)) ((refine hold _ ?_; (first | assumption | (refine bD (bA ?_ _); assumption) | (refine bA ?_ _; assumption) | (refine bS3 ?_ (Nat.le_refl _) _ _ _; assumption) | (refine bS3 (bA ?_ _) (Below.size (by assumption)) _ _ _; assumption)))) ((first
      | (go_at_call 102; refine (hg _ (by first | exact (h1.below hB1).dt.roll | exact (h1.below (bD (bA hB0 _))).dt.roll)).mono ?_; rintro e w2 ⟨rfl, hb2⟩; (first | have hB2 := bT hB1 hb2 | (have hB2 := bT (bD (bA hB0 _)) hb2; have hC := (Bx.new 39 0 0 0 w1).drew.below hb2; have z0 := hC.c0; have z1 := hC.c1; have z2 := hC.c2; have f0 := hC.free 0; have f1 := hC.free 1; have f2 := hC.free 2)))))
  all_goals
    rename_i hH
    obtain ⟨hB3, _, _⟩ := hH
    obtain ⟨w3, HW3, hB4⟩ := named hB3
    rw [← HW3.out]
    clear HW3 hB3 hB2 hb2 hold hB0 hB1 hg c0
    have h3' := h1.below hB4
    have S3 : Stp p b w1 b w3 := Stp.of hB4
    have x1 := (hN.below hB4).c1
    have x5 := (hN.below hB4).c5
  all_goals
    first
      | (have hf : fi = (d.take k ⟨F, 0, 0⟩ F l).2 := (by rw [hfi.out]; simp; done)
         have hti := takein_any h3' ⟨F, 0, 0⟩ F ⟨Int.le_refl 0, (by decide : (0 : Int) ≤ 18446744073709551615)⟩; go_upto_region 5 with (go_at_call 43; go_must (refine hti.mono ?_; rintro e w4 ⟨rfl, b4, h4, s4, u4⟩)); rw [← hf] at h4; have S4 := S3.trans s4; clear hf)
      | (have hf : fi = (d, l) := (by simp [hfi.out]; done)
         go_upto_region 5 with fail
         obtain ⟨b4, w4, h4, S4, HW4⟩ : ∃ b4 w4, Sx k Bp p b4 fi.1 fi.2 w4 ∧ Stp p b w1 b4 w4 ∧ Hid (w4 = w3) := ⟨b, w3, by rw [hf]; exact h3', S3, rfl⟩
         rw [← HW4.out]
         clear hf HW4)
  all_goals
    clear h3' S3 x1 x5
    have hN4 := hN.stp hAN S4
    have x1 := hN4.c1
    have x5 := hN4.c5
    go_wp2_with fail
    go_loopg [36] U.length (fun gk t36 wr => ∃ (j : Nat) (dj : Det) (lj : List Int) (bj : Bl), j + gk = U.length ∧ t36 = .int .i64 j ∧ Hid (dj.takes k F (U.drop j) lj = R) ∧ Sx k Bp p bj dj lj wr ∧ Stp p b w1 bj wr)
    case atStart => exact ⟨0, fi.1, fi.2, b4, by omega, rfl, by show _ = _; rw [List.drop_zero]; exact HR.out, h4, S4⟩
    case round =>
      obtain ⟨j, dj, lj, bj, hj, rfl, hr, hjx, hjs⟩ := hrel
      clear x1 x5 hN4 h4 S4
      have hNj := hN.stp hAN hjs
      have hEj := hEr.keep (hjs.keep hAE)
      have hANj := hAN.stp hjs
      have hAEj := hAE.stp hjs
      by_cases hlt : (j : Int) < U.length
      · have hj' : j < U.length := by omega
        have j0 : (0 : Int) ≤ j := by omega
        have hUj := ruK hU1 hA1 hjs
        obtain ⟨gn, off, rfl⟩ : ∃ gn off, na = some ⟨gn, off, none⟩ := by
          rcases h3 with h3 | ⟨gn, off, e, _⟩
          · omega
          · exact ⟨gn, off, e⟩
        obtain ⟨x0, x1, x2⟩ : wr.cell? ⟨gn, off + j * 3, none⟩ = some (.int .i64 U[j].n) ∧ wr.cell? ⟨gn, off + j * 3 + 1, none⟩ = some (.int .u64 U[j].i) ∧ wr.cell? ⟨gn, off + j * 3 + 2, none⟩ = some (.int .i64 U[j].s) := by
          obtain ⟨_, _, e, _, _, e3⟩ := hUj
          cases e
          rcases e3 with e3 | ⟨g', off', e, e3⟩
          · omega
          · cases e; exact e3 j hj'
        have i0 := hin U[j] (List.getElem_mem hj')
        have hst : Hid (R = _) := hr.out.symm.trans (takes_drop k dj F U lj j hj')
        clear hr hUj
        generalize U[j] = u at *
        have b2 := below_alloc wr (.cells #[.int .i64 u.n, .int .u64 u.i, .int .i64 u.s] 39)
        have hX := Bx.new 39 u.n u.i u.s wr
        have hx2 := hjx.below b2
        have s2 : Stp p b w1 bj _ := hjs.then b2
        have hN2 := hNj.below b2
        obtain ⟨w5, HW5⟩ : ∃ w5, Hid (w5 = wr.alloc (.cells #[.int .i64 u.n, .int .u64 u.i, .int .i64 u.s] 39)) := ⟨_, rfl⟩
        rw [← HW5.out] at hX hx2 s2 hN2
        have v0 := hX.c0
        have v1 := hX.c1
        have v2 := hX.c2
        have n1 := hN2.c1
        have hq : bj.q = b.q := hjs.q
        have hti := takein_any hx2 u F i0
        rw [hq] at hti
        go_upto_region 8 with fail
        rw [← HW5.out]
        clear x0 x1 x2
        go_upto_region 9 with (go_at_call 43; go_must (refine hti.mono ?_; rintro e w6 ⟨rfl, b6, h6, s6, u6⟩))
        have S6 := s2.trans s6
        clear hX hx2 s2 hN2 v0 v1 v2 n1
        generalize dj.take k u F lj = q at *
        obtain ⟨q1, q2, q3⟩ := q
        dsimp only at hst h6 ⊢
        cases hq1 : (q1 == 60)
        case false =>
          have e1 : ¬ q1 = 60 := by simpa using hq1
          rw [if_neg e1] at hst
          go_wp2_with fail
          go_roundg (gk - 1)
          case rel => exact ⟨j + 1, q2, q3, b6, by omega, by go_num, hst.out.symm, h6, S6⟩
          case measure => omega
        case true =>
          obtain rfl : q1 = 60 := by simpa using hq1
          rw [if_pos rfl] at hst
          have hE2 := hEr.keep (S6.keep hAE)
          have hAE6 := hAE.stp S6
          clear hq1
          go_wp2_with fail
          refine leaves_cons (f := 101) (args := #[.pointer (some ⟨w.heap.size + 1, 0, none⟩)]) (by simp) (by simp [go_sem]) ?_
          refine (catch_panicking (w.heap.size + 1) 0 60 [] _ hE2).mono ?_
          rintro e u' w'' ⟨rfl, rfl, rfl⟩
          have hE3 := (hE2.set 60).c
          simp [Leaves, settle, results, Tryz.results53, go_sem, hE3]
          rw [hst.out]
          exact ⟨rfl, b6, h6.put hAE6 (by omega) _ _, (S1.trans S6).high ((Below.refl _ _).setCell (p := ⟨w.heap.size + 1, 0, none⟩) (Nat.le_succ _) _)⟩
      · obtain rfl : j = U.length := by omega
        have hE3 := hEj.c
        have hEf := hEj.free
        have hr' : R = (0, dj, lj) := by rw [← hr.out, List.drop_length]; rfl
        go_wp2_with fail
        refine leaves_cons (f := 101) (args := #[.pointer (some ⟨w.heap.size + 1, 0, none⟩)]) (by simp) (by simp [go_sem]) ?_
        refine (catch_idle (w.heap.size + 1) _).mono ?_
        rintro e u' w'' ⟨rfl, rfl, rfl⟩
        have hE3 := (hEj.set 0).c
        simp [Leaves, settle, results, Tryz.results53, go_sem, hE3]
        exact ⟨bj, hjx.put hAEj (by omega) _ _, (S1.trans hjs).high ((Below.refl _ _).setCell (p := ⟨w.heap.size + 1, 0, none⟩) (Nat.le_succ _) _)⟩
end
def shA : Det := ((Det.new 1).take 1 ⟨2, 0, 0⟩ 1 []).2.1
def shN : Nte := ⟨1, 1, 2, 1, 0, [⟨1, 0, 0⟩, ⟨1, 0, 0⟩, ⟨2, 0, 0⟩]⟩
theorem sh1 : ((Det.new 1).take 1 ⟨2, 0, 0⟩ 1 []).1 = 0 := by kernel_rfl
theorem sh2 : (shA.tick 1 []).1 = [shN] := by kernel_rfl
theorem sh3 : ((Det.new 2).hear 2 shN []).1.2 = 0 := by kernel_rfl
theorem sh4 : (((Det.new 2).hear 2 shN []).1.1.map Nte.k) = [2] := by kernel_rfl
theorem sh5 : (allS ((Det.new 2).hear 2 shN []).2.1.f).length = 2 := by kernel_rfl
theorem shW : shA.W = [] := by kernel_rfl
theorem shW2 : (Det.new 2).W = [] := by kernel_rfl
structure F4 (g : Nat) (a b c d : Value) (w : World) : Prop where
  heap : w.heap[g]? = some (.cells #[a, b, c, d] 125 (0, 0))
section
variable {g : Nat} {a b c d : Value} {w : World}
theorem F4.c0 (h : F4 g a b c d w) : w.cell? ⟨g, 0, none⟩ = some a := by simp [World.cell?, h.heap]
theorem F4.c1 (h : F4 g a b c d w) : w.cell? ⟨g, 1, none⟩ = some b := by simp [World.cell?, h.heap]
theorem F4.c2 (h : F4 g a b c d w) : w.cell? ⟨g, 2, none⟩ = some c := by simp [World.cell?, h.heap]
theorem F4.c3 (h : F4 g a b c d w) : w.cell? ⟨g, 3, none⟩ = some d := by simp [World.cell?, h.heap]
theorem F4.free (h : F4 g a b c d w) (j : Nat) : w.frozen? ⟨g, j, none⟩ = false := free_of h.heap j
theorem F4.new (a b c d : Value) (w : World) : F4 w.heap.size a b c d (w.alloc (.cells #[a, b, c, d] 125)) := ⟨heap_alloc_new w _⟩
theorem F4.set (h : F4 g a b c d w) (x y z u : Value) : F4 g x y z u ((((w.setCell ⟨g, 0, none⟩ x).setCell ⟨g, 1, none⟩ y).setCell ⟨g, 2, none⟩ z).setCell ⟨g, 3, none⟩ u) := ⟨by simp [World.setCell, Array.getElem?_modify, h.heap]⟩
end
section
variable {k Bp p : Nat} {b : Bl} {d : Det} {l : List Int} {w : World}
set_option maxRecDepth 100000 in
theorem answers_any (w : World) :
    Calls Tryz.prog 54 #[] w fun e w' => e = .returned (.agg #[.nilFunc, .func (.func 103) #[] #[], .func (.func 104) #[] #[], .func (.func 105) #[] #[]]) ∧ Below w.heap.size w w' := by
  have ba := below_alloc w (.cells #[.nilFunc, .nilFunc, .nilFunc, .nilFunc] 125)
  have hF := F4.new .nilFunc .nilFunc .nilFunc .nilFunc w
  obtain ⟨w1, HW1⟩ : ∃ w1, Hid (w1 = w.alloc (.cells #[.nilFunc, .nilFunc, .nilFunc, .nilFunc] 125)) := ⟨_, rfl⟩
  rw [← HW1.out] at ba hF
  have hE := hF.set .nilFunc (.func (.func 103) #[] #[]) (.func (.func 104) #[] #[]) (.func (.func 105) #[] #[])
  have hb := (((ba.setCell (p := ⟨w.heap.size, 0, none⟩) (Nat.le_refl _) .nilFunc).setCell (p := ⟨w.heap.size, 1, none⟩) (Nat.le_refl _) (.func (.func 103) #[] #[])).setCell (p := ⟨w.heap.size, 2, none⟩) (Nat.le_refl _) (.func (.func 104) #[] #[])).setCell (p := ⟨w.heap.size, 3, none⟩) (Nat.le_refl _) (.func (.func 105) #[] #[])
  have x0 := hF.c0
  have x1 := hF.c1
  have x2 := hF.c2
  have x3 := hF.c3
  have f0 := hF.free 0
  have f1 := hF.free 1
  have f2 := hF.free 2
  have f3 := hF.free 3
  have hst0 := fun a w m => run_store Tryz.prog w a .nilFunc m rfl
  have hstf := fun a f w m => run_store Tryz.prog w a (.func (.func f) #[] #[]) m rfl
  go_enter Tryz.func54, Tryz.ntmps54
  go_upto_region 1 with fail
  rw [← HW1.out]
  go_wp2_with fail
  have y0 := hE.c0
  have y1 := hE.c1
  have y2 := hE.c2
  have y3 := hE.c3
  refine bodyPost_ret (v := .agg #[.nilFunc, .func (.func 103) #[] #[], .func (.func 104) #[] #[], .func (.func 105) #[] #[]]) ?_ rfl ⟨rfl, hb⟩
  rw [results_cell rfl]
  go_simp
set_option maxRecDepth 100000 in
theorem watches_any (h : Sx k Bp p b d l w) (hl : d.W.length ≤ 1000000) :
    Calls Tryz.prog 57 #[.pointer (some ⟨b.q, 0, none⟩)] w fun e w' => (∃ v', e = .returned v' ∧ OwE encW 133 w.heap.size v' d.W w') ∧ Below w.heap.size w w' := by
  have c4 := h.dt.c4
  have hc := cloneW_any b.vw d.W w hl h.dt.ws
  obtain ⟨va, vcap, hve, _, _⟩ := h.dt.ws.len
  rw [hve] at c4 hc
  go_enter Tryz.func57, Tryz.ntmps57
  go_wp2_with fail
  refine hc.mono ?_
  rintro e w2 ⟨⟨v', rfl, hO⟩, hb⟩
  obtain ⟨a, L, c, rfl⟩ : ∃ a L c, v' = .slice a L c := by obtain ⟨a, cap, e, _⟩ := hO.len; exact ⟨a, _, cap, e⟩
  go_wp2_with fail
  go_ret
  exact ⟨⟨_, rfl, hO⟩, hb⟩
set_option maxRecDepth 100000 in
theorem errands_any (h : Sx k Bp p b d l w) :
    Calls Tryz.prog 58 #[.pointer (some ⟨b.q, 0, none⟩)] w fun e w' => (∃ v', e = .returned v' ∧ OwE encE 112 w.heap.size v' d.E w') ∧ Below w.heap.size w w' := by
  have c4 := h.dt.c5
  have hc := cloneE_any b.ve d.E w (by have := h.dt.ok.el; omega) h.dt.es
  obtain ⟨va, vcap, hve, _, _⟩ := h.dt.es.len
  rw [hve] at c4 hc
  go_enter Tryz.func58, Tryz.ntmps58
  go_wp2_with fail
  refine hc.mono ?_
  rintro e w2 ⟨⟨v', rfl, hO⟩, hb⟩
  obtain ⟨a, L, c, rfl⟩ : ∃ a L c, v' = .slice a L c := by obtain ⟨a, cap, e, _⟩ := hO.len; exact ⟨a, _, cap, e⟩
  go_wp2_with fail
  go_ret
  exact ⟨⟨_, rfl, hO⟩, hb⟩
end
section
variable {k Bp p : Nat} {b : Bl} {d : Det} {l : List Int} {w : World}
set_option maxRecDepth 100000 in
set_option maxHeartbeats 4000000 in
theorem hear_none (h : Sx k Bp p b d l w) (n : Nte) (na : Option Addr) (nl nc : Nat) (hf : d.fault k n ≠ 0) :
    Calls Tryz.prog 15 #[.pointer (some ⟨b.q, 0, none⟩), ntV n (.slice na nl nc), .pointer (some ⟨p, 0, none⟩)] w fun e w' => e = .returned (.tuple #[.slice none 0 0, .int .i64 (d.fault k n)]) ∧ Below w.heap.size w w' := by
  have hft := fun (w' : World) (h' : Sx k Bp p b d l w') => fault_any h' n na nl nc
  obtain ⟨K, F, T, Q, O, U⟩ := n
  have ba := below_alloc w (.cells (ntC K F T Q O (.slice na nl nc)) 37)
  have hN := Bn.new K F T Q O (.slice na nl nc) w
  have h1 := h.below ba
  obtain ⟨w1, HW1⟩ : ∃ w1, Hid (w1 = w.alloc (.cells (ntC K F T Q O (.slice na nl nc)) 37)) := ⟨_, rfl⟩
  rw [← HW1.out] at ba hN h1
  have hft1 := hft w1 h1
  obtain ⟨f, HF⟩ : ∃ f, Hid (d.fault k ⟨K, F, T, Q, O, U⟩ = f) := ⟨_, rfl⟩
  rw [HF.out] at hft1 hf ⊢
  have hfb : (f == 0) = false := by simpa using hf
  have x0 := hN.c0
  have x1 := hN.c1
  have x2 := hN.c2
  have x3 := hN.c3
  have x4 := hN.c4
  have x5 := hN.c5
  clear hft
  go_enter Tryz.func15, Tryz.ntmps15
  go_upto_region 1 with fail
  rw [← HW1.out]
  go_wp2_with fail
  refine hft1.mono ?_
  rintro e w2 ⟨rfl, hb2⟩
  go_wp2_with fail
  refine bodyPost_ret (v := .tuple #[.slice none 0 0, .int .i64 f]) (by simp [results, Tryz.results15, go_sem]) rfl ⟨rfl, bT ba hb2⟩
set_option maxRecDepth 100000 in
set_option maxHeartbeats 4000000 in
theorem hear_ended (h : Sx k Bp p b d l w) (n : Nte) (na : Option Addr) (nl nc : Nat) (hU : Ro.Ru (.slice na nl nc) n.u w) (hA : Nw p b w (.slice na nl nc) n.u) (hl : n.u.length ≤ 1000000) (hin : ∀ u ∈ n.u, U64 u.i) (hf : d.fault k n = 0)
    (he : ((d.first k n.f l).1.takes k n.f n.u (d.first k n.f l).2).1 ≠ 0) :
    Calls Tryz.prog 15 #[.pointer (some ⟨b.q, 0, none⟩), ntV n (.slice na nl nc), .pointer (some ⟨p, 0, none⟩)] w fun e w' => e = .returned (.tuple #[.slice none 0 0, .int .i64 ((d.first k n.f l).1.takes k n.f n.u (d.first k n.f l).2).1]) ∧ ∃ b', Sx k Bp p b' ((d.first k n.f l).1.takes k n.f n.u (d.first k n.f l).2).2.1 ((d.first k n.f l).1.takes k n.f n.u (d.first k n.f l).2).2.2 w' ∧ Stp p b w b' w' := by
  have hft := fun (w' : World) (h' : Sx k Bp p b d l w') => fault_any h' n na nl nc
  have hta := fun (w' : World) (h' : Sx k Bp p b d l w') hU hA => takeinall_any h' n na nl nc hU hA hl hin
  obtain ⟨K, F, T, Q, O, U⟩ := n
  have ba := below_alloc w (.cells (ntC K F T Q O (.slice na nl nc)) 37)
  have hN := Bn.new K F T Q O (.slice na nl nc) w
  have h1 := h.below ba
  obtain ⟨w1, HW1⟩ : ∃ w1, Hid (w1 = w.alloc (.cells (ntC K F T Q O (.slice na nl nc)) 37)) := ⟨_, rfl⟩
  rw [← HW1.out] at ba hN h1
  have hft1 := hft w1 h1
  rw [hf] at hft1
  dsimp only at he hta ⊢
  generalize (d.first k F l).1.takes k F U (d.first k F l).2 = R at *
  obtain ⟨R1, R2, R3⟩ := R
  dsimp only at he hta ⊢
  have hfb : (R1 == 0) = false := by simpa using he
  have x0 := hN.c0
  have x1 := hN.c1
  have x2 := hN.c2
  have x3 := hN.c3
  have x4 := hN.c4
  have x5 := hN.c5
  clear hft
  go_enter Tryz.func15, Tryz.ntmps15
  go_upto_region 1 with fail
  rw [← HW1.out]
  go_wp2_with fail
  refine hft1.mono ?_
  rintro e w2 ⟨rfl, hb2⟩
  have S2 : Stp p b w b w2 := (Stp.of ba).then hb2
  have hta2 := hta w2 (h1.below hb2) (ruK hU hA S2) (hA.stp S2)
  have hN2 := hN.below hb2
  clear x0 x1 x2 x3 x4 x5
  have x0 := hN2.c0
  have x1 := hN2.c1
  have x2 := hN2.c2
  have x3 := hN2.c3
  have x4 := hN2.c4
  have x5 := hN2.c5
  go_wp2_with fail
  refine hta2.mono ?_
  rintro e w3 ⟨rfl, b3, h3, s3⟩
  go_wp2_with fail
  exact bodyPost_ret (v := .tuple #[.slice none 0 0, .int .i64 R1]) (by simp [results, Tryz.results15, go_sem]) rfl ⟨rfl, b3, h3, S2.trans s3⟩
set_option maxRecDepth 100000 in
set_option maxHeartbeats 4000000 in
theorem hear_ping (h : Sx k Bp p b d l w) (n : Nte) (na : Option Addr) (nl nc : Nat) (hU : Ro.Ru (.slice na nl nc) n.u w) (hA : Nw p b w (.slice na nl nc) n.u) (hl : n.u.length ≤ 1000000) (hin : ∀ u ∈ n.u, U64 u.i) (hf : d.fault k n = 0)
    (he : ((d.first k n.f l).1.takes k n.f n.u (d.first k n.f l).2).1 = 0) (hk1 : n.k = 1) :
    Calls Tryz.prog 15 #[.pointer (some ⟨b.q, 0, none⟩), ntV n (.slice na nl nc), .pointer (some ⟨p, 0, none⟩)] w fun e w' => ∃ v X b', e = .returned (.tuple #[v, .int .i64 0]) ∧ Sd p b' w v X w' ∧ X.map NtX.n = (((d.first k n.f l).1.takes k n.f n.u (d.first k n.f l).2).2.1.answer k n).1 ∧ Sx k Bp p b' (((d.first k n.f l).1.takes k n.f n.u (d.first k n.f l).2).2.1.answer k n).2 ((d.first k n.f l).1.takes k n.f n.u (d.first k n.f l).2).2.2 w' ∧ Stp p b w b' w' := by
  have hft := fun (w' : World) (h' : Sx k Bp p b d l w') => fault_any h' n na nl nc
  have hta := fun (w' : World) (h' : Sx k Bp p b d l w') hU hA => takeinall_any h' n na nl nc hU hA hl hin
  obtain ⟨K, F, T, Q, O, U⟩ := n
  have ba := below_alloc w (.cells (ntC K F T Q O (.slice na nl nc)) 37)
  have hN := Bn.new K F T Q O (.slice na nl nc) w
  have h1 := h.below ba
  obtain ⟨w1, HW1⟩ : ∃ w1, Hid (w1 = w.alloc (.cells (ntC K F T Q O (.slice na nl nc)) 37)) := ⟨_, rfl⟩
  rw [← HW1.out] at ba hN h1
  have hft1 := hft w1 h1
  rw [hf] at hft1
  dsimp only at he hta hk1 ⊢
  subst hk1
  generalize (d.first k F l).1.takes k F U (d.first k F l).2 = R at *
  obtain ⟨R1, R2, R3⟩ := R
  dsimp only at he hta ⊢
  subst he
  have x0 := hN.c0
  have x1 := hN.c1
  have x2 := hN.c2
  have x3 := hN.c3
  have x4 := hN.c4
  have x5 := hN.c5
  clear hft
  go_enter Tryz.func15, Tryz.ntmps15
  go_upto_region 1 with fail
  rw [← HW1.out]
  go_wp2_with fail
  refine hft1.mono ?_
  rintro e w2 ⟨rfl, hb2⟩
  have S2 : Stp p b w b w2 := (Stp.of ba).then hb2
  have hta2 := hta w2 (h1.below hb2) (ruK hU hA S2) (hA.stp S2)
  have hN2 := hN.below hb2
  clear x0 x1 x2 x3 x4 x5
  have x0 := hN2.c0
  have x1 := hN2.c1
  have x2 := hN2.c2
  have x3 := hN2.c3
  have x4 := hN2.c4
  have x5 := hN2.c5
  go_wp2_with fail
  refine hta2.mono ?_
  rintro e w3 ⟨rfl, b3, h3, s3⟩
  have hAN := (h.away (Nat.le_refl _) hN.lt).stp (Stp.of hb2)
  have hN3 := hN2.stp hAN s3
  have hAN3 := hAN.stp s3
  have hq : b3.q = b.q := s3.q
  have hS3 := And.intro hN3.c0 (And.intro hN3.c1 (And.intro hN3.c2 (And.intro hN3.c3 (And.intro hN3.c4 hN3.c5))))
  clear x0 x1 x2 x3 x4 x5
  have hix : ∀ w : World, (Instr.index 125 (.agg #[.nilFunc, .func (.func 103) #[] #[], .func (.func 104) #[] #[], .func (.func 105) #[] #[]]) (.int .i64 1)).run Tryz.prog w = .ok (.func (.func 103) #[] #[]) w := fun w => by kernel_rfl
  go_upto_region 7 with fail
  go_region_held3 (fun w' => w'.cell? ⟨w.heap.size, 0, none⟩ = some (.int .i64 1) ∧ w'.cell? ⟨w.heap.size, 1, none⟩ = some (.int .i64 F) ∧ w'.cell? ⟨w.heap.size, 2, none⟩ = some (.int .i64 T) ∧ w'.cell? ⟨w.heap.size, 3, none⟩ = some (.int .u64 Q) ∧ w'.cell? ⟨w.heap.size, 4, none⟩ = some (.int .i64 O) ∧ w'.cell? ⟨w.heap.size, 5, none⟩ = some (.slice na nl nc)) (first | exact hS3 | exact hS4 | exact hS5) ((first
    | (go_at_call 54; go_must (refine (answers_any _).mono ?_; rintro e w4 ⟨rfl, hb4⟩; have h4 := h3.drew.below hb4; have hN4 := hN3.drew.below hb4; have hS4 := And.intro hN4.c0 (And.intro hN4.c1 (And.intro hN4.c2 (And.intro hN4.c3 (And.intro hN4.c4 hN4.c5))))))
    | (go_at_call 103; go_must (rw [← hq]; refine (pinged_any h4 1 F T Q O na nl nc).mono ?_; rintro e w5 ⟨v5, X5, rfl, hs5, hX5, h5, s5⟩; obtain ⟨a5, L5, c5, rfl⟩ : ∃ a L c, v5 = .slice a L c := (by obtain ⟨a, cap, e, _⟩ := hs5.row.len; exact ⟨a, _, cap, e⟩); have hN5 := hN4.stp (hAN3.drew.stp (Stp.of hb4)) s5; have hS5 := And.intro hN5.c0 (And.intro hN5.c1 (And.intro hN5.c2 (And.intro hN5.c3 (And.intro hN5.c4 hN5.c5))))))))
  have S5 := ((S2.trans s3).drew.then hb4)
  go_wp2_with fail
  unfold Det.answer
  rw [if_pos rfl]
  exact bodyPost_ret (v := .tuple #[.slice a5 L5 c5, .int .i64 0]) (by simp [results, Tryz.results15, go_sem]) rfl ⟨_, X5, b3, rfl, hs5.up S5.size, hX5, h5, S5.trans s5⟩
set_option maxRecDepth 100000 in
set_option maxHeartbeats 4000000 in
theorem hear_ack (h : Sx k Bp p b d l w) (n : Nte) (na : Option Addr) (nl nc : Nat) (hU : Ro.Ru (.slice na nl nc) n.u w) (hA : Nw p b w (.slice na nl nc) n.u) (hl : n.u.length ≤ 1000000) (hin : ∀ u ∈ n.u, U64 u.i) (hf : d.fault k n = 0)
    (he : ((d.first k n.f l).1.takes k n.f n.u (d.first k n.f l).2).1 = 0) (hW : ∀ d' : Det, d' = ((d.first k n.f l).1.takes k n.f n.u (d.first k n.f l).2).2.1 → d'.W.length ≤ 1000000) (hk1 : n.k = 2) :
    Calls Tryz.prog 15 #[.pointer (some ⟨b.q, 0, none⟩), ntV n (.slice na nl nc), .pointer (some ⟨p, 0, none⟩)] w fun e w' => ∃ v X b', e = .returned (.tuple #[v, .int .i64 0]) ∧ Sd p b' w v X w' ∧ X.map NtX.n = (((d.first k n.f l).1.takes k n.f n.u (d.first k n.f l).2).2.1.answer k n).1 ∧ Sx k Bp p b' (((d.first k n.f l).1.takes k n.f n.u (d.first k n.f l).2).2.1.answer k n).2 ((d.first k n.f l).1.takes k n.f n.u (d.first k n.f l).2).2.2 w' ∧ Stp p b w b' w' := by
  have hft := fun (w' : World) (h' : Sx k Bp p b d l w') => fault_any h' n na nl nc
  have hta := fun (w' : World) (h' : Sx k Bp p b d l w') hU hA => takeinall_any h' n na nl nc hU hA hl hin
  obtain ⟨K, F, T, Q, O, U⟩ := n
  have ba := below_alloc w (.cells (ntC K F T Q O (.slice na nl nc)) 37)
  have hN := Bn.new K F T Q O (.slice na nl nc) w
  have h1 := h.below ba
  obtain ⟨w1, HW1⟩ : ∃ w1, Hid (w1 = w.alloc (.cells (ntC K F T Q O (.slice na nl nc)) 37)) := ⟨_, rfl⟩
  rw [← HW1.out] at ba hN h1
  have hft1 := hft w1 h1
  rw [hf] at hft1
  dsimp only at he hta hk1 hW ⊢
  subst hk1
  have hW' := hW _ rfl
  clear hW
  generalize (d.first k F l).1.takes k F U (d.first k F l).2 = R at *
  obtain ⟨R1, R2, R3⟩ := R
  dsimp only at he hta hW' ⊢
  subst he
  have x0 := hN.c0
  have x1 := hN.c1
  have x2 := hN.c2
  have x3 := hN.c3
  have x4 := hN.c4
  have x5 := hN.c5
  clear hft
  go_enter Tryz.func15, Tryz.ntmps15
  go_upto_region 1 with fail
  rw [← HW1.out]
  go_wp2_with fail
  refine hft1.mono ?_
  rintro e w2 ⟨rfl, hb2⟩
  have S2 : Stp p b w b w2 := (Stp.of ba).then hb2
  have hta2 := hta w2 (h1.below hb2) (ruK hU hA S2) (hA.stp S2)
  have hN2 := hN.below hb2
  clear x0 x1 x2 x3 x4 x5
  have x0 := hN2.c0
  have x1 := hN2.c1
  have x2 := hN2.c2
  have x3 := hN2.c3
  have x4 := hN2.c4
  have x5 := hN2.c5
  go_wp2_with fail
  refine hta2.mono ?_
  rintro e w3 ⟨rfl, b3, h3, s3⟩
  have hAN := (h.away (Nat.le_refl _) hN.lt).stp (Stp.of hb2)
  have hN3 := hN2.stp hAN s3
  have hAN3 := hAN.stp s3
  have hq : b3.q = b.q := s3.q
  have hS3 := And.intro hN3.c0 (And.intro hN3.c1 (And.intro hN3.c2 (And.intro hN3.c3 (And.intro hN3.c4 hN3.c5))))
  clear x0 x1 x2 x3 x4 x5
  have hix : ∀ w : World, (Instr.index 125 (.agg #[.nilFunc, .func (.func 103) #[] #[], .func (.func 104) #[] #[], .func (.func 105) #[] #[]]) (.int .i64 2)).run Tryz.prog w = .ok (.func (.func 104) #[] #[]) w := fun w => by kernel_rfl
  go_upto_region 7 with fail
  go_region_held3 (fun w' => w'.cell? ⟨w.heap.size, 0, none⟩ = some (.int .i64 2) ∧ w'.cell? ⟨w.heap.size, 1, none⟩ = some (.int .i64 F) ∧ w'.cell? ⟨w.heap.size, 2, none⟩ = some (.int .i64 T) ∧ w'.cell? ⟨w.heap.size, 3, none⟩ = some (.int .u64 Q) ∧ w'.cell? ⟨w.heap.size, 4, none⟩ = some (.int .i64 O) ∧ w'.cell? ⟨w.heap.size, 5, none⟩ = some (.slice na nl nc)) (first | exact hS3 | exact hS4 | exact hS5) ((first
    | (go_at_call 54; go_must (refine (answers_any _).mono ?_; rintro e w4 ⟨rfl, hb4⟩; have h4 := h3.drew.below hb4; have hN4 := hN3.drew.below hb4; have hS4 := And.intro hN4.c0 (And.intro hN4.c1 (And.intro hN4.c2 (And.intro hN4.c3 (And.intro hN4.c4 hN4.c5))))))
    | (go_at_call 104; go_must (rw [← hq]; refine (acked_any h4 hW' ⟨2, F, T, Q, O, U⟩ na nl nc).mono ?_; rintro e w5 ⟨v5, X5, b5, rfl, hs5, hX5, h5, s5⟩; obtain ⟨a5, L5, c5, rfl⟩ : ∃ a L c, v5 = .slice a L c := (by obtain ⟨a, cap, e, _⟩ := hs5.row.len; exact ⟨a, _, cap, e⟩); have hN5 := hN4.stp (hAN3.drew.stp (Stp.of hb4)) s5; have hS5 := And.intro hN5.c0 (And.intro hN5.c1 (And.intro hN5.c2 (And.intro hN5.c3 (And.intro hN5.c4 hN5.c5))))))))
  have S5 := ((S2.trans s3).drew.then hb4)
  go_wp2_with fail
  unfold Det.answer
  rw [if_neg (show ¬ (2 : Int) = 1 by decide), if_pos rfl]
  exact bodyPost_ret (v := .tuple #[.slice a5 L5 c5, .int .i64 0]) (by simp [results, Tryz.results15, go_sem]) rfl ⟨_, X5, b5, rfl, hs5.up S5.size, hX5, h5, S5.trans s5⟩
end
section
variable {k Bp p : Nat} {b : Bl} {d : Det} {l : List Int} {w : World}
set_option maxRecDepth 100000 in
set_option maxHeartbeats 4000000 in
theorem hear_help (h : Sx k Bp p b d l w) (n : Nte) (na : Option Addr) (nl nc : Nat) (hU : Ro.Ru (.slice na nl nc) n.u w) (hA : Nw p b w (.slice na nl nc) n.u) (hl : n.u.length ≤ 1000000) (hin : ∀ u ∈ n.u, U64 u.i) (hf : d.fault k n = 0)
    (he : ((d.first k n.f l).1.takes k n.f n.u (d.first k n.f l).2).1 = 0) (ho : Nd n.o) (hff : Nd n.f) (hq6 : U64 n.q) (hk1 : n.k = 3) :
    Calls Tryz.prog 15 #[.pointer (some ⟨b.q, 0, none⟩), ntV n (.slice na nl nc), .pointer (some ⟨p, 0, none⟩)] w fun e w' => ∃ v X b', e = .returned (.tuple #[v, .int .i64 0]) ∧ Sd p b' w v X w' ∧ X.map NtX.n = (((d.first k n.f l).1.takes k n.f n.u (d.first k n.f l).2).2.1.answer k n).1 ∧ Sx k Bp p b' (((d.first k n.f l).1.takes k n.f n.u (d.first k n.f l).2).2.1.answer k n).2 ((d.first k n.f l).1.takes k n.f n.u (d.first k n.f l).2).2.2 w' ∧ Stp p b w b' w' := by
  have hft := fun (w' : World) (h' : Sx k Bp p b d l w') => fault_any h' n na nl nc
  have hta := fun (w' : World) (h' : Sx k Bp p b d l w') hU hA => takeinall_any h' n na nl nc hU hA hl hin
  obtain ⟨K, F, T, Q, O, U⟩ := n
  have ba := below_alloc w (.cells (ntC K F T Q O (.slice na nl nc)) 37)
  have hN := Bn.new K F T Q O (.slice na nl nc) w
  have h1 := h.below ba
  obtain ⟨w1, HW1⟩ : ∃ w1, Hid (w1 = w.alloc (.cells (ntC K F T Q O (.slice na nl nc)) 37)) := ⟨_, rfl⟩
  rw [← HW1.out] at ba hN h1
  have hft1 := hft w1 h1
  rw [hf] at hft1
  dsimp only at he hta hk1 ho hff hq6 ⊢
  subst hk1
  generalize (d.first k F l).1.takes k F U (d.first k F l).2 = R at *
  obtain ⟨R1, R2, R3⟩ := R
  dsimp only at he hta ⊢
  subst he
  have x0 := hN.c0
  have x1 := hN.c1
  have x2 := hN.c2
  have x3 := hN.c3
  have x4 := hN.c4
  have x5 := hN.c5
  clear hft
  go_enter Tryz.func15, Tryz.ntmps15
  go_upto_region 1 with fail
  rw [← HW1.out]
  go_wp2_with fail
  refine hft1.mono ?_
  rintro e w2 ⟨rfl, hb2⟩
  have S2 : Stp p b w b w2 := (Stp.of ba).then hb2
  have hta2 := hta w2 (h1.below hb2) (ruK hU hA S2) (hA.stp S2)
  have hN2 := hN.below hb2
  clear x0 x1 x2 x3 x4 x5
  have x0 := hN2.c0
  have x1 := hN2.c1
  have x2 := hN2.c2
  have x3 := hN2.c3
  have x4 := hN2.c4
  have x5 := hN2.c5
  go_wp2_with fail
  refine hta2.mono ?_
  rintro e w3 ⟨rfl, b3, h3, s3⟩
  have hAN := (h.away (Nat.le_refl _) hN.lt).stp (Stp.of hb2)
  have hN3 := hN2.stp hAN s3
  have hAN3 := hAN.stp s3
  have hq : b3.q = b.q := s3.q
  have hS3 := And.intro hN3.c0 (And.intro hN3.c1 (And.intro hN3.c2 (And.intro hN3.c3 (And.intro hN3.c4 hN3.c5))))
  clear x0 x1 x2 x3 x4 x5
  have hix : ∀ w : World, (Instr.index 125 (.agg #[.nilFunc, .func (.func 103) #[] #[], .func (.func 104) #[] #[], .func (.func 105) #[] #[]]) (.int .i64 3)).run Tryz.prog w = .ok (.func (.func 105) #[] #[]) w := fun w => by kernel_rfl
  go_upto_region 7 with fail
  go_region_held3 (fun w' => w'.cell? ⟨w.heap.size, 0, none⟩ = some (.int .i64 3) ∧ w'.cell? ⟨w.heap.size, 1, none⟩ = some (.int .i64 F) ∧ w'.cell? ⟨w.heap.size, 2, none⟩ = some (.int .i64 T) ∧ w'.cell? ⟨w.heap.size, 3, none⟩ = some (.int .u64 Q) ∧ w'.cell? ⟨w.heap.size, 4, none⟩ = some (.int .i64 O) ∧ w'.cell? ⟨w.heap.size, 5, none⟩ = some (.slice na nl nc)) (first | exact hS3 | exact hS4 | exact hS5) ((first
    | (go_at_call 54; go_must (refine (answers_any _).mono ?_; rintro e w4 ⟨rfl, hb4⟩; have h4 := h3.drew.below hb4; have hN4 := hN3.drew.below hb4; have hS4 := And.intro hN4.c0 (And.intro hN4.c1 (And.intro hN4.c2 (And.intro hN4.c3 (And.intro hN4.c4 hN4.c5))))))
    | (go_at_call 105; go_must (rw [← hq]; refine (helped_any h4 ⟨3, F, T, Q, O, U⟩ ho hff hq6 na nl nc).mono ?_; rintro e w5 ⟨v5, X5, b5, rfl, hs5, hX5, h5, s5⟩; obtain ⟨a5, L5, c5, rfl⟩ : ∃ a L c, v5 = .slice a L c := (by obtain ⟨a, cap, e, _⟩ := hs5.row.len; exact ⟨a, _, cap, e⟩); have hN5 := hN4.stp (hAN3.drew.stp (Stp.of hb4)) s5; have hS5 := And.intro hN5.c0 (And.intro hN5.c1 (And.intro hN5.c2 (And.intro hN5.c3 (And.intro hN5.c4 hN5.c5))))))))
  have S5 := ((S2.trans s3).drew.then hb4)
  go_wp2_with fail
  unfold Det.answer
  rw [if_neg (show ¬ (3 : Int) = 1 by decide), if_neg (show ¬ (3 : Int) = 2 by decide)]
  exact bodyPost_ret (v := .tuple #[.slice a5 L5 c5, .int .i64 0]) (by simp [results, Tryz.results15, go_sem]) rfl ⟨_, X5, b5, rfl, hs5.up S5.size, hX5, h5, S5.trans s5⟩
set_option maxRecDepth 100000 in
theorem hear_any (h : Sx k Bp p b d l w) (n : Nte) (na : Option Addr) (nl nc : Nat) (hU : Ro.Ru (.slice na nl nc) n.u w) (hA : Nw p b w (.slice na nl nc) n.u) (hl : n.u.length ≤ 1000000) (hin : ∀ u ∈ n.u, U64 u.i) (hW : d.W.length ≤ 1000000) (hq : U64 n.q) :
    Calls Tryz.prog 15 #[.pointer (some ⟨b.q, 0, none⟩), ntV n (.slice na nl nc), .pointer (some ⟨p, 0, none⟩)] w fun e w' => ∃ v X b', e = .returned (.tuple #[v, .int .i64 (d.hear k n l).1.2]) ∧ Sd p b' w v X w' ∧ X.map NtX.n = (d.hear k n l).1.1 ∧ Sx k Bp p b' (d.hear k n l).2.1 (d.hear k n l).2.2 w' ∧ Stp p b w b' w' := by
  by_cases hf : d.fault k n = 0
  · have hWt : ∀ d' : Det, d' = ((d.first k n.f l).1.takes k n.f n.u (d.first k n.f l).2).2.1 → d'.W.length ≤ 1000000 := fun d' e => by
      rw [e, (takes_fr k n.f n.u _ _).1, (first_fr k d n.f l).1]; exact hW
    by_cases he : ((d.first k n.f l).1.takes k n.f n.u (d.first k n.f l).2).1 = 0
    · have hD : d.hear k n l = (((((d.first k n.f l).1.takes k n.f n.u (d.first k n.f l).2).2.1.answer k n).1, 0), (((d.first k n.f l).1.takes k n.f n.u (d.first k n.f l).2).2.1.answer k n).2, ((d.first k n.f l).1.takes k n.f n.u (d.first k n.f l).2).2.2) := by
        unfold Det.hear
        rw [if_neg (by rw [hf]; simp)]
        dsimp only
        rw [if_neg (by rw [he]; simp)]
      rw [hD]
      obtain ⟨_, _, _, o1, o2, o3, o4⟩ := fault_ok hf
      by_cases k1 : n.k = 1
      · exact hear_ping h n na nl nc hU hA hl hin hf he k1
      · by_cases k2 : n.k = 2
        · exact hear_ack h n na nl nc hU hA hl hin hf he hWt k2
        · exact hear_help h n na nl nc hU hA hl hin hf he o2 o1 hq (by omega)
    · have hD : d.hear k n l = (([], ((d.first k n.f l).1.takes k n.f n.u (d.first k n.f l).2).1), ((d.first k n.f l).1.takes k n.f n.u (d.first k n.f l).2).2) := by
        unfold Det.hear
        rw [if_neg (by rw [hf]; simp)]
        dsimp only
        rw [if_pos he]
      rw [hD]
      refine (hear_ended h n na nl nc hU hA hl hin hf he).mono ?_
      rintro e w1 ⟨rfl, b1, h1, s1⟩
      exact ⟨_, [], b1, rfl, Sd.nil _ _ _ _, rfl, h1, s1⟩
  · have hD : d.hear k n l = (([], d.fault k n), d, l) := by
      unfold Det.hear
      rw [if_pos hf]
    rw [hD]
    refine (hear_none h n na nl nc hf).mono ?_
    rintro e w1 ⟨rfl, hb⟩
    exact ⟨_, [], b, rfl, Sd.nil _ _ _ _, rfl, h.below hb, Stp.of hb⟩
end
end Go.Proofs.YtpoofjnfaijjjaaGreatDoor
