/-
  What a detector's calls leave as it was; what holds of each note that is heard. No program is known here. What is shown: computed. Hear of a Help; Hear whatever comes. What a detector says: of itself, to others, with its own update first. No program is known here.
-/
import Derived.Test.YtpoofjnfaijjjaaGreatDoorMMvr
import Derived.Test.YtpoofjnfaijjjaaGreatDoorMHer
import Derived.Test.YtpoofjnfaijjjaaGreatDoorMNwd
import Derived.Test.YtpoofjnfaijjjaaGreatDoorMRLvm
namespace Go.Proofs.YtpoofjnfaijjjaaGreatDoor
open Go.RowKit Go.Proofs.YtpoofjnfaijjjaaGreatDoor.Ro
theorem learn_fr (d : Det) (u : Upd) (f : Int) (was : Bool) (l : List Int) : (d.learn u f was l).1.W = d.W ∧ (d.learn u f was l).1.E = d.E ∧ (d.learn u f was l).1.no = d.no ∧ (d.learn u f was l).1.la = d.la ∧ (d.learn u f was l).1.le = d.le ∧ (d.learn u f was l).1.f = d.f := by
  unfold Det.learn
  split
  · exact ⟨rfl, rfl, rfl, rfl, rfl, rfl⟩
  · split
    · exact ⟨rfl, rfl, rfl, rfl, rfl, rfl⟩
    · exact ⟨rfl, rfl, rfl, rfl, rfl, rfl⟩
theorem take_fr (k : Nat) (d : Det) (u : Upd) (f : Int) (l : List Int) : (d.take k u f l).2.1.W = d.W ∧ (d.take k u f l).2.1.E = d.E ∧ (d.take k u f l).2.1.no = d.no ∧ (d.take k u f l).2.1.la = d.la ∧ (d.take k u f l).2.1.le = d.le ∧ (d.take k u f l).2.1.f = (hearS k d.f u).2 := by
  unfold Det.take
  split
  · exact ⟨rfl, rfl, rfl, rfl, rfl, rfl⟩
  · split
    · exact learn_fr ({ d with f := (hearS k d.f u).2 } : Det) u f _ l
    · split
      · exact ⟨rfl, rfl, rfl, rfl, rfl, rfl⟩
      · split
        · exact ⟨rfl, rfl, rfl, rfl, rfl, rfl⟩
        · exact ⟨rfl, rfl, rfl, rfl, rfl, rfl⟩
theorem takes_fr (k : Nat) (f : Int) : ∀ (U : List Upd) (d : Det) (l : List Int), (d.takes k f U l).2.1.W = d.W ∧ (d.takes k f U l).2.1.E = d.E ∧ (d.takes k f U l).2.1.no = d.no ∧ (d.takes k f U l).2.1.la = d.la ∧ (d.takes k f U l).2.1.le = d.le
  | [], d, l => ⟨rfl, rfl, rfl, rfl, rfl⟩
  | u :: r, d, l => by
    obtain ⟨h1, h2, h3, h4, h5, _⟩ := take_fr k d u f l
    rw [Det.takes]
    split
    · exact ⟨h1, h2, h3, h4, h5⟩
    · obtain ⟨i1, i2, i3, i4, i5⟩ := takes_fr k f r (d.take k u f l).2.1 (d.take k u f l).2.2
      exact ⟨i1.trans h1, i2.trans h2, i3.trans h3, i4.trans h4, i5.trans h5⟩
theorem first_fr (k : Nat) (d : Det) (f : Int) (l : List Int) : (d.first k f l).1.W = d.W ∧ (d.first k f l).1.E = d.E ∧ (d.first k f l).1.no = d.no ∧ (d.first k f l).1.la = d.la ∧ (d.first k f l).1.le = d.le := by
  unfold Det.first
  split
  · exact ⟨rfl, rfl, rfl, rfl, rfl⟩
  · obtain ⟨h1, h2, h3, h4, h5, _⟩ := take_fr k d ⟨f, 0, 0⟩ f l
    exact ⟨h1, h2, h3, h4, h5⟩
theorem nodeB_nd {x : Int} (h : ¬ nodeB x = false) : Nd x := by
  unfold nodeB at h
  have : (decide (0 ≤ x) && decide (x < 64)) = true := by simpa using h
  simpa [Nd] using this
theorem fault_ok {k : Nat} {d : Det} {n : Nte} (h : d.fault k n = 0) : d.le = false ∧ n.t = k ∧ n.f ≠ k ∧ Nd n.f ∧ Nd n.o ∧ 1 ≤ n.k ∧ n.k ≤ 3 := by
  unfold Det.fault at h
  by_cases h1 : d.le = true
  · rw [if_pos h1] at h; cases h
  rw [if_neg h1] at h
  by_cases h2 : n.t ≠ k ∨ n.f = k ∨ nodeB n.f = false ∨ nodeB n.o = false
  · rw [if_pos h2] at h; cases h
  rw [if_neg h2] at h
  by_cases h3 : n.k < 1 ∨ 3 < n.k
  · rw [if_pos h3] at h; cases h
  simp only [not_or] at h2 h3
  exact ⟨by simpa using h1, by simpa using h2.1, h2.2.1, nodeB_nd h2.2.2.1, nodeB_nd h2.2.2.2, by omega, by omega⟩
/-! How many watches there may be. -/
section
variable (k : Nat)
theorem miss_fr (d : Det) (n : Int) (l : List Int) : (d.miss k n l).1.W = d.W ∧ (d.miss k n l).1.no = d.no ∧ (d.miss k n l).1.E = d.E ∧ (d.miss k n l).1.la = d.la ∧ (d.miss k n l).1.le = d.le := by
  unfold Det.miss
  split
  · obtain ⟨h1, h2, h3, h4, h5, _⟩ := take_fr k d ⟨n, (ud (getS d.f n)).i, 1⟩ k l
    exact ⟨h1, h3, h2, h4, h5⟩
  · exact ⟨rfl, rfl, rfl, rfl, rfl⟩
theorem helps_fr (x : Wch) : ∀ (H : List Int) (d : Det), (d.helps k x H).2.W = d.W ∧ (d.helps k x H).2.no = d.no ∧ (d.helps k x H).2.E = d.E ∧ (d.helps k x H).2.la = d.la ∧ (d.helps k x H).2.le = d.le
  | [], _ => ⟨rfl, rfl, rfl, rfl, rfl⟩
  | h :: r, d => helps_fr x r (d.told k h)
theorem look_fr : ∀ (L : List Wch) (d : Det) (l : List Int), (d.look k L l).2.2.1.W = d.W ∧ (d.look k L l).2.2.1.no = d.no ∧ (d.look k L l).2.2.1.E = d.E ∧ (d.look k L l).2.2.1.la = d.la ∧ (d.look k L l).2.2.1.le = d.le ∧ (d.look k L l).2.1.length ≤ L.length
  | [], _, _ => ⟨rfl, rfl, rfl, rfl, rfl, Nat.le_refl _⟩
  | w :: r, d, l => by
    rw [Det.look]
    split
    · obtain ⟨h1, h2, h3, h4, h5⟩ := miss_fr k d w.n l
      obtain ⟨i1, i2, i3, i4, i5, i6⟩ := look_fr r (d.miss k w.n l).1 (d.miss k w.n l).2
      exact ⟨i1.trans h1, i2.trans h2, i3.trans h3, i4.trans h4, i5.trans h5, Nat.le_trans i6 (Nat.le_succ _)⟩
    · split
      · obtain ⟨h1, h2, h3, h4, h5⟩ := helps_fr k w (Rn.helpS (othS k d.f) w.n 2 l).1 d
        obtain ⟨i1, i2, i3, i4, i5, i6⟩ := look_fr r (d.ask k w l).2.1 (d.ask k w l).2.2
        exact ⟨i1.trans h1, i2.trans h2, i3.trans h3, i4.trans h4, i5.trans h5, Nat.succ_le_succ i6⟩
      · obtain ⟨i1, i2, i3, i4, i5, i6⟩ := look_fr r d l
        exact ⟨i1, i2, i3, i4, i5, Nat.succ_le_succ i6⟩
theorem dead_fr : ∀ (U : List Upd) (d : Det) (l : List Int), (d.dead k U l).1.W = d.W ∧ (d.dead k U l).1.no = d.no ∧ (d.dead k U l).1.E = d.E ∧ (d.dead k U l).1.la = d.la ∧ (d.dead k U l).1.le = d.le
  | [], _, _ => ⟨rfl, rfl, rfl, rfl, rfl⟩
  | u :: r, d, l => by
    rw [Det.dead]
    obtain ⟨h1, h2, h3, h4, h5, _⟩ := take_fr k d u k l
    obtain ⟨i1, i2, i3, i4, i5⟩ := dead_fr r (d.take k u k l).2.1 (d.take k u k l).2.2
    exact ⟨i1.trans h1, i2.trans h3, i3.trans h2, i4.trans h4, i5.trans h5⟩
theorem pingNext_W (d : Det) (l : List Int) : (d.pingNext k l).2.1.W.length ≤ d.W.length + 1 := by
  unfold Det.pingNext
  split
  · exact Nat.le_succ _
  · simp
theorem tick_W (d : Det) (l : List Int) : (d.tick k l).2.1.W.length ≤ d.W.length + 1 := by
  unfold Det.tick
  split
  · exact Nat.le_succ _
  · dsimp only
    have h6 := (look_fr k d.W ({ d with no := u64w (d.no + 1) } : Det) l).2.2.2.2.2
    have e : (({ d with no := u64w (d.no + 1) } : Det).lookAfter k l).2.1.W.length ≤ d.W.length := h6
    generalize ({ d with no := u64w (d.no + 1) } : Det).lookAfter k l = R at *
    refine Nat.le_trans (pingNext_W k _ _) ?_
    rw [(dead_fr k _ _ _).1]
    exact Nat.succ_le_succ e
theorem hear_W (d : Det) (n : Nte) (l : List Int) : (d.hear k n l).2.1.W.length ≤ d.W.length := by
  unfold Det.hear
  split
  · exact Nat.le_refl _
  · dsimp only
    have e : ((d.first k n.f l).1.takes k n.f n.u (d.first k n.f l).2).2.1.W = d.W := (takes_fr k n.f n.u _ _).1.trans (first_fr k d n.f l).1
    generalize (d.first k n.f l).1.takes k n.f n.u (d.first k n.f l).2 = R at *
    split
    · exact Nat.le_of_eq (congrArg List.length e)
    · rw [← e]
      unfold Det.answer
      split
      · exact Nat.le_refl _
      · split
        · unfold Det.acked
          split
          · exact Nat.le_refl _
          · exact List.length_filter_le _ _
        · unfold Det.helped
          split
          · exact Nat.le_refl _
          · exact Nat.le_refl _
end
end Go.Proofs.YtpoofjnfaijjjaaGreatDoor
namespace Go.Proofs.YtpoofjnfaijjjaaGreatDoor
open Go.RowKit Go.Proofs.YtpoofjnfaijjjaaGreatDoor.Ro
def shA : Det := ((Det.new 1).take 1 ⟨2, 0, 0⟩ 1 []).2.1
def shN : Nte := ⟨1, 1, 2, 1, 0, [⟨1, 0, 0⟩, ⟨1, 0, 0⟩, ⟨2, 0, 0⟩]⟩
theorem sh1 : ((Det.new 1).take 1 ⟨2, 0, 0⟩ 1 []).1 = 0 := by kernel_rfl
theorem sh1l : ((Det.new 1).take 1 ⟨2, 0, 0⟩ 1 []).2.2 = [] := by kernel_rfl
theorem sh2 : (shA.tick 1 []).1 = [shN] := by kernel_rfl
theorem sh3 : ((Det.new 2).hear 2 shN []).1.2 = 0 := by kernel_rfl
theorem sh4 : (((Det.new 2).hear 2 shN []).1.1.map Nte.k) = [2] := by kernel_rfl
theorem sh5 : (allS ((Det.new 2).hear 2 shN []).2.1.f).length = 2 := by kernel_rfl
theorem shW : shA.W = [] := by kernel_rfl
theorem shW2 : (Det.new 2).W = [] := by kernel_rfl
end Go.Proofs.YtpoofjnfaijjjaaGreatDoor
namespace Go.Proofs.YtpoofjnfaijjjaaGreatDoor
open Go.RowKit Go.Proofs.YtpoofjnfaijjjaaGreatDoor.Ro
section
variable {k Bp p : Nat} {b : Bl} {d : Det} {l : List Int} {w : World}

set_option maxRecDepth 100000 in
set_option maxHeartbeats 4000000 in
theorem hear_help (h : Sx k Bp p b d l w) (n : Nte) (na : Option Addr) (nl nc : Nat) (hU : Ro.Ru (.slice na nl nc) n.u w) (hA : Nw p b w (.slice na nl nc) n.u) (hl : n.u.length ≤ 1000000) (hin : ∀ u ∈ n.u, U64 u.i) (hf : d.fault k n = 0)
    (he : ((d.first k n.f l).1.takes k n.f n.u (d.first k n.f l).2).1 = 0) (ho : Nd n.o) (hff : Nd n.f) (hq6 : U64 n.q) (hk1 : n.k = 3) :
    Calls Tryz.prog 15 #[.pointer (some ⟨b.q, 0, none⟩), ntV n (.slice na nl nc), .pointer (some ⟨p, 0, none⟩)] w fun e w' => ∃ v X b', e = .returned (.tuple #[v, .int .i64 0]) ∧ Sd p b' w v X w' ∧ X.map NtX.n = (((d.first k n.f l).1.takes k n.f n.u (d.first k n.f l).2).2.1.answer k n).1 ∧ Sx k Bp p b' (((d.first k n.f l).1.takes k n.f n.u (d.first k n.f l).2).2.1.answer k n).2 ((d.first k n.f l).1.takes k n.f n.u (d.first k n.f l).2).2.2 w' ∧ Stp p b w b' w' := by
  have hft := fun (w' : World) (h' : Sx k Bp p b d l w') => fault_any h' n na nl nc
  have hta := fun (w' : World) (h' : Sx k Bp p b d l w') hU hA => takeinall_any h' n na nl nc hU hA hl hin
  obtain ⟨K, F, T, Q, O, U⟩ := n
  have ba := below_alloc w (.cells (ntC K F T Q O (.slice na nl nc)) 37)
  have hN := Bn.new K F T Q O (.slice na nl nc) w
  have h1 := h.below ba
  obtain ⟨w1, HW1⟩ : ∃ w1, Hid (w1 = w.alloc (.cells (ntC K F T Q O (.slice na nl nc)) 37)) := ⟨_, rfl⟩
  rw [← HW1.out] at ba hN h1
  have hft1 := hft w1 h1
  rw [hf] at hft1
  dsimp only at he hta hk1 ho hff hq6 ⊢
  subst hk1
  generalize (d.first k F l).1.takes k F U (d.first k F l).2 = R at *
  obtain ⟨R1, R2, R3⟩ := R
  dsimp only at he hta ⊢
  subst he
  have x0 := hN.c0
  have x1 := hN.c1
  have x2 := hN.c2
  have x3 := hN.c3
  have x4 := hN.c4
  have x5 := hN.c5
  clear hft
  go_enter Tryz.func15, Tryz.ntmps15
  go_upto_region 1 with fail
  rw [← HW1.out]
  go_wp2_with fail
  refine hft1.mono ?_
  rintro e w2 ⟨rfl, hb2⟩
  have S2 : Stp p b w b w2 := (Stp.of ba).then hb2
  have hta2 := hta w2 (h1.below hb2) (ruK hU hA S2) (hA.stp S2)
  have hN2 := hN.below hb2
  clear x0 x1 x2 x3 x4 x5
  have x0 := hN2.c0
  have x1 := hN2.c1
  have x2 := hN2.c2
  have x3 := hN2.c3
  have x4 := hN2.c4
  have x5 := hN2.c5
  go_wp2_with fail
  refine hta2.mono ?_
  rintro e w3 ⟨rfl, b3, h3, s3⟩
  have hAN := (h.away (Nat.le_refl _) hN.lt).stp (Stp.of hb2)
  have hN3 := hN2.stp hAN s3
  have hAN3 := hAN.stp s3
  have hq : b3.q = b.q := s3.q
  have hS3 := And.intro hN3.c0 (And.intro hN3.c1 (And.intro hN3.c2 (And.intro hN3.c3 (And.intro hN3.c4 hN3.c5))))
  clear x0 x1 x2 x3 x4 x5
  have hix : ∀ w : World, (Instr.index 125 (.agg #[.nilFunc, .func (.func 103) #[] #[], .func (.func 104) #[] #[], .func (.func 105) #[] #[]]) (.int .i64 3)).run Tryz.prog w = .ok (.func (.func 105) #[] #[]) w := fun w => by kernel_rfl
  go_upto_region 7 with fail
  go_region_held3 (fun w' => w'.cell? ⟨w.heap.size, 0, none⟩ = some (.int .i64 3) ∧ w'.cell? ⟨w.heap.size, 1, none⟩ = some (.int .i64 F) ∧ w'.cell? ⟨w.heap.size, 2, none⟩ = some (.int .i64 T) ∧ w'.cell? ⟨w.heap.size, 3, none⟩ = some (.int .u64 Q) ∧ w'.cell? ⟨w.heap.size, 4, none⟩ = some (.int .i64 O) ∧ w'.cell? ⟨w.heap.size, 5, none⟩ = some (.slice na nl nc)) (first | exact hS3 | exact hS4 | exact hS5) ((first
    | (go_at_call 54; go_must (refine (answers_any _).mono ?_; rintro e w4 ⟨rfl, hb4⟩; have h4 := h3.drew.below hb4; have hN4 := hN3.drew.below hb4; have hS4 := And.intro hN4.c0 (And.intro hN4.c1 (And.intro hN4.c2 (And.intro hN4.c3 (And.intro hN4.c4 hN4.c5))))))
    | (go_at_call 105; go_must (rw [← hq]; refine (helped_any h4 ⟨3, F, T, Q, O, U⟩ ho hff hq6 na nl nc).mono ?_; rintro e w5 ⟨v5, X5, b5, rfl, hs5, hX5, h5, s5⟩; obtain ⟨a5, L5, c5, rfl⟩ : ∃ a L c, v5 = .slice a L c := (by obtain ⟨a, cap, e, _⟩ := hs5.row.len; exact ⟨a, _, cap, e⟩); have hN5 := hN4.stp (hAN3.drew.stp (Stp.of hb4)) s5; have hS5 := And.intro hN5.c0 (And.intro hN5.c1 (And.intro hN5.c2 (And.intro hN5.c3 (And.intro hN5.c4 hN5.c5))))))))
  have S5 := ((S2.trans s3).drew.then hb4)
  go_wp2_with fail
  unfold Det.answer
  rw [if_neg (show ¬ (3 : Int) = 1 by decide), if_neg (show ¬ (3 : Int) = 2 by decide)]
  exact bodyPost_ret (v := .tuple #[.slice a5 L5 c5, .int .i64 0]) (by simp [results, Tryz.results15, go_sem]) rfl ⟨_, X5, b5, rfl, hs5.up S5.size, hX5, h5, S5.trans s5⟩
set_option maxRecDepth 100000 in
theorem hear_any (h : Sx k Bp p b d l w) (n : Nte) (na : Option Addr) (nl nc : Nat) (hU : Ro.Ru (.slice na nl nc) n.u w) (hA : Nw p b w (.slice na nl nc) n.u) (hl : n.u.length ≤ 1000000) (hin : ∀ u ∈ n.u, U64 u.i) (hW : d.W.length ≤ 1000000) (hq : U64 n.q) :
    Calls Tryz.prog 15 #[.pointer (some ⟨b.q, 0, none⟩), ntV n (.slice na nl nc), .pointer (some ⟨p, 0, none⟩)] w fun e w' => ∃ v X b', e = .returned (.tuple #[v, .int .i64 (d.hear k n l).1.2]) ∧ Sd p b' w v X w' ∧ X.map NtX.n = (d.hear k n l).1.1 ∧ Sx k Bp p b' (d.hear k n l).2.1 (d.hear k n l).2.2 w' ∧ Stp p b w b' w' := by
  by_cases hf : d.fault k n = 0
  · have hWt : ∀ d' : Det, d' = ((d.first k n.f l).1.takes k n.f n.u (d.first k n.f l).2).2.1 → d'.W.length ≤ 1000000 := fun d' e => by
      rw [e, (takes_fr k n.f n.u _ _).1, (first_fr k d n.f l).1]; exact hW
    by_cases he : ((d.first k n.f l).1.takes k n.f n.u (d.first k n.f l).2).1 = 0
    · have hD : d.hear k n l = (((((d.first k n.f l).1.takes k n.f n.u (d.first k n.f l).2).2.1.answer k n).1, 0), (((d.first k n.f l).1.takes k n.f n.u (d.first k n.f l).2).2.1.answer k n).2, ((d.first k n.f l).1.takes k n.f n.u (d.first k n.f l).2).2.2) := by
        unfold Det.hear
        rw [if_neg (by rw [hf]; simp)]
        dsimp only
        rw [if_neg (by rw [he]; simp)]
      rw [hD]
      obtain ⟨_, _, _, o1, o2, o3, o4⟩ := fault_ok hf
      by_cases k1 : n.k = 1
      · exact hear_ping h n na nl nc hU hA hl hin hf he k1
      · by_cases k2 : n.k = 2
        · exact hear_ack h n na nl nc hU hA hl hin hf he hWt k2
        · exact hear_help h n na nl nc hU hA hl hin hf he o2 o1 hq (by omega)
    · have hD : d.hear k n l = (([], ((d.first k n.f l).1.takes k n.f n.u (d.first k n.f l).2).1), ((d.first k n.f l).1.takes k n.f n.u (d.first k n.f l).2).2) := by
        unfold Det.hear
        rw [if_neg (by rw [hf]; simp)]
        dsimp only
        rw [if_pos he]
      rw [hD]
      refine (hear_ended h n na nl nc hU hA hl hin hf he).mono ?_
      rintro e w1 ⟨rfl, b1, h1, s1⟩
      exact ⟨_, [], b1, rfl, Sd.nil _ _ _ _, rfl, h1, s1⟩
  · have hD : d.hear k n l = (([], d.fault k n), d, l) := by
      unfold Det.hear
      rw [if_pos hf]
    rw [hD]
    refine (hear_none h n na nl nc hf).mono ?_
    rintro e w1 ⟨rfl, hb⟩
    exact ⟨_, [], b, rfl, Sd.nil _ _ _ _, rfl, h.below hb, Stp.of hb⟩
end
end Go.Proofs.YtpoofjnfaijjjaaGreatDoor
namespace Go.Proofs.YtpoofjnfaijjjaaGreatDoor
open Go.RowKit Go.Proofs.YtpoofjnfaijjjaaGreatDoor.Ro
def Mine (k : Nat) (f : Tab) : Prop := ∃ i, f k = some ⟨k, i, 0⟩
theorem hear_mine {k : Nat} {f : Tab} (h : Mine k f) (u : Upd) : Mine k (hearS k f u).2 := by
  obtain ⟨i, hi⟩ := h
  unfold hearS
  split
  · rename_i hm
    split
    · unfold refuteS
      split
      · split
        · exact ⟨i, hi⟩
        · exact ⟨u.i + 1, Tab.set_same _ _ _⟩
      · exact ⟨i, hi⟩
    · rename_i hn
      split
      · exact ⟨i, hi⟩
      · refine ⟨i, ?_⟩
        show f.set u.n.toNat u k = _
        rw [Tab.set_other]
        · exact hi
        · intro e
          have h0 : 0 ≤ u.n := by
            unfold mayU mayS at hm
            simp only [Bool.and_eq_true, decide_eq_true_eq] at hm
            omega
          apply hn
          simp only [beq_iff_eq]
          omega
  · exact ⟨i, hi⟩
structure Sy (k : Nat) (d : Det) : Prop where
  m : Mine k d.f
  E : ∀ x ∈ d.E, x.f ≠ k
structure NtOk (k : Nat) (n : Nte) : Prop where
  f : n.f = k
  t : n.t ≠ k
  k1 : 1 ≤ n.k
  k3 : n.k ≤ 3
  u : ∃ y r, n.u = y :: r ∧ y.n = k ∧ y.s = 0 ∧ r.length ≤ 7
section
variable {k : Nat} {d : Det}
theorem oth_not (k : Nat) (f : Tab) : ∀ x ∈ othS k f, x ≠ k := fun x hx e => by
  subst e
  have h := Bnd.mem_lst.1 hx
  unfold Bnd.hasS at h
  simp only [Bool.and_eq_true] at h
  have h2 := h.2
  rw [Bnd.testBit_lessS] at h2
  simp [h.1] at h2
theorem news_ok (h : Sy k d) (x : Int) : ∃ y r, d.news k x = y :: r ∧ y.n = k ∧ y.s = 0 ∧ r.length ≤ 7 := by
  obtain ⟨i, hi⟩ := h.m
  unfold Det.news Det.pre Det.mine
  rw [hi]
  split
  · refine ⟨_, ud (getS d.f x) :: (d.Q.take 6).map Ru.updOf, rfl, rfl, rfl, ?_⟩
    rw [List.length_cons, List.length_map, List.length_take]
    omega
  · refine ⟨_, (d.Q.take 7).map Ru.updOf, rfl, rfl, rfl, ?_⟩
    rw [List.length_map, List.length_take]
    omega
theorem Sy.told (h : Sy k d) (x : Int) : Sy k (d.told k x) := ⟨h.m, h.E⟩
theorem Sy.take (h : Sy k d) (u : Upd) (f : Int) (l : List Int) : Sy k (d.take k u f l).2.1 := by
  obtain ⟨_, h2, _, _, _, h6⟩ := take_fr k d u f l
  exact ⟨by rw [h6]; exact hear_mine h.m u, by rw [h2]; exact h.E⟩
theorem Sy.takes (f : Int) : ∀ (U : List Upd) {d : Det} (_ : Sy k d) (l : List Int), Sy k (d.takes k f U l).2.1
  | [], _, h, _ => h
  | u :: r, d, h, l => by
    rw [Det.takes]
    split
    · exact h.take u f l
    · exact Sy.takes f r (h.take u f l) _
theorem Sy.first (h : Sy k d) (f : Int) (l : List Int) : Sy k (d.first k f l).1 := by
  unfold Det.first
  split
  · exact h
  · exact h.take _ _ _
theorem pinged_ok (h : Sy k d) (n : Nte) (hf : n.f ≠ k) : (∀ x ∈ (d.pinged k n).1, NtOk k x) ∧ Sy k (d.pinged k n).2 :=
  ⟨fun x hx => by obtain rfl := List.mem_singleton.1 hx; exact ⟨rfl, hf, by show (1 : Int) ≤ 2; decide, by show (2 : Int) ≤ 3; decide, news_ok h _⟩, h.told _⟩
theorem acked_ok (h : Sy k d) (n : Nte) : (∀ x ∈ (d.acked k n).1, NtOk k x) ∧ Sy k (d.acked k n).2 := by
  unfold Det.acked
  split
  · rename_i x hx
    refine ⟨fun y hy => ?_, ⟨h.m, fun y hy => h.E y (List.mem_of_mem_eraseP hy)⟩⟩
    obtain rfl := List.mem_singleton.1 hy
    exact ⟨rfl, h.E x (List.mem_of_find?_eq_some hx), by show (1 : Int) ≤ 2; decide, by show (2 : Int) ≤ 3; decide, news_ok h _⟩
  · exact ⟨(fun y hy => by cases hy), ⟨h.m, h.E⟩⟩
theorem helped_ok (h : Sy k d) (n : Nte) (hf : n.f ≠ k) : (∀ x ∈ (d.helped k n).1, NtOk k x) ∧ Sy k (d.helped k n).2 := by
  unfold Det.helped
  split
  · exact pinged_ok h n hf
  · rename_i ho
    refine ⟨fun x hx => ?_, ⟨h.m, fun x hx => ?_⟩⟩
    · obtain rfl := List.mem_singleton.1 hx
      exact ⟨rfl, ho, by show (1 : Int) ≤ 1; decide, by show (1 : Int) ≤ 3; decide, news_ok h _⟩
    · rcases List.mem_append.1 hx with hx | hx
      · split at hx
        · exact h.E x (List.mem_of_mem_tail hx)
        · exact h.E x hx
      · obtain rfl := List.mem_singleton.1 hx
        exact hf
theorem answer_ok (h : Sy k d) (n : Nte) (hf : n.f ≠ k) : (∀ x ∈ (d.answer k n).1, NtOk k x) ∧ Sy k (d.answer k n).2 := by
  unfold Det.answer
  split
  · exact pinged_ok h n hf
  · split
    · exact acked_ok h n
    · exact helped_ok h n hf
theorem hear_ok (h : Sy k d) (n : Nte) (l : List Int) : (∀ x ∈ (d.hear k n l).1.1, NtOk k x) ∧ Sy k (d.hear k n l).2.1 := by
  unfold Det.hear
  split
  · exact ⟨(fun x hx => by cases hx), h⟩
  · rename_i hf
    have hf' : d.fault k n = 0 := by simpa using hf
    obtain ⟨_, _, hn, _⟩ := fault_ok hf'
    have ht := Sy.takes n.f n.u (h.first n.f l) (d.first k n.f l).2
    dsimp only
    split
    · exact ⟨(fun x hx => by cases hx), ht⟩
    · exact answer_ok ht n hn
theorem Sy.miss (h : Sy k d) (n : Int) (l : List Int) : Sy k (d.miss k n l).1 := by
  unfold Det.miss
  split
  · exact h.take _ _ _
  · exact h
theorem helps_ok (w : Wch) : ∀ (H : List Int) {d : Det} (_ : Sy k d) (_ : ∀ x ∈ H, x ≠ (k : Int)), (∀ x ∈ (d.helps k w H).1, NtOk k x) ∧ Sy k (d.helps k w H).2
  | [], _, h, _ => ⟨(fun x hx => by cases hx), h⟩
  | a :: r, d, h, hH => by
    have ih := helps_ok w r (h.told a) fun x hx => hH x (by simp [hx])
    rw [Det.helps]
    refine ⟨fun x hx => ?_, ih.2⟩
    rcases List.mem_cons.1 hx with rfl | hx
    · exact ⟨rfl, hH a (by simp), by show (1 : Int) ≤ 3; decide, by show (3 : Int) ≤ 3; decide, news_ok h _⟩
    · exact ih.1 x hx
theorem help_sub {o : List Int} {x n : Int} {l : List Int} {y : Int} (h : y ∈ (Rn.helpS o x n l).1) : y ∈ o := by
  unfold Rn.helpS Rn.someS at h
  split at h
  · cases h
  · have := List.mem_of_mem_take h
    have := (Rn.shufS_perm _ _).mem_iff.1 this
    exact (List.mem_filter.1 this).1
theorem ask_ok (h : Sy k d) (w : Wch) (l : List Int) : (∀ x ∈ (d.ask k w l).1, NtOk k x) ∧ Sy k (d.ask k w l).2.1 :=
  helps_ok w _ h fun x hx => oth_not k d.f x (help_sub hx)
theorem look_ok : ∀ (L : List Wch) {d : Det} (_ : Sy k d) (l : List Int), (∀ x ∈ (d.look k L l).1, NtOk k x) ∧ Sy k (d.look k L l).2.2.1
  | [], _, h, _ => ⟨(fun x hx => by cases hx), h⟩
  | w :: r, d, h, l => by
    rw [Det.look]
    split
    · exact look_ok r (h.miss w.n l) _
    · split
      · have ha := ask_ok h w l
        have ih := look_ok r ha.2 (d.ask k w l).2.2
        refine ⟨fun x hx => ?_, ih.2⟩
        rcases List.mem_append.1 hx with hx | hx
        · exact ha.1 x hx
        · exact ih.1 x hx
      · exact look_ok r h l
theorem lookAfter_ok (h : Sy k d) (l : List Int) : (∀ x ∈ (d.lookAfter k l).1, NtOk k x) ∧ Sy k (d.lookAfter k l).2.1 := by
  have := look_ok d.W h l
  exact ⟨this.1, ⟨this.2.m, this.2.E⟩⟩
theorem Sy.dead : ∀ (U : List Upd) {d : Det} (_ : Sy k d) (l : List Int), Sy k (d.dead k U l).1
  | [], _, h, _ => h
  | u :: r, d, h, l => by
    rw [Det.dead]
    exact Sy.dead r (h.take u k l) _
theorem pingNext_ok (h : Sy k d) (l : List Int) : (∀ x ∈ (d.pingNext k l).1, NtOk k x) ∧ Sy k (d.pingNext k l).2.1 := by
  unfold Det.pingNext
  split
  · exact ⟨(fun x hx => by cases hx), ⟨h.m, h.E⟩⟩
  · rename_i hb
    have hb' : (Rn.nxtS d.s (othS k d.f) l).1.2 = true := by simpa using hb
    have hm := oth_not k d.f _ (nxt_in l hb')
    dsimp only
    refine ⟨fun x hx => ?_, ⟨h.m, h.E⟩⟩
    obtain rfl := List.mem_singleton.1 hx
    have h' : Sy k ({ d with s := (Rn.nxtS d.s (othS k d.f) l).2.1 } : Det) := ⟨h.m, h.E⟩
    exact ⟨rfl, hm, by show (1 : Int) ≤ 1; decide, by show (1 : Int) ≤ 3; decide, news_ok h' _⟩
theorem tick_ok (h : Sy k d) (l : List Int) : (∀ x ∈ (d.tick k l).1, NtOk k x) ∧ Sy k (d.tick k l).2.1 := by
  unfold Det.tick
  split
  · exact ⟨(fun x hx => by cases hx), h⟩
  · dsimp only
    have h0 : Sy k ({ d with no := u64w (d.no + 1) } : Det) := ⟨h.m, h.E⟩
    have ha := lookAfter_ok h0 l
    generalize ({ d with no := u64w (d.no + 1) } : Det).lookAfter k l = R at *
    have h2 : Sy k ({ R.2.1 with E := R.2.1.E.filter (fun x => !decide (4 ≤ u64w (R.2.1.no - x.a))), D := Do.stayD R.2.1.D R.2.1.no } : Det) := ⟨ha.2.m, fun x hx => ha.2.E x (List.mem_filter.1 hx).1⟩
    have h3 := Sy.dead ((Do.overD R.2.1.D R.2.1.no).map Do.deadOf) h2 R.2.2
    have h4 := pingNext_ok h3 ((({ R.2.1 with E := R.2.1.E.filter (fun x => !decide (4 ≤ u64w (R.2.1.no - x.a))), D := Do.stayD R.2.1.D R.2.1.no } : Det).dead k ((Do.overD R.2.1.D R.2.1.no).map Do.deadOf) R.2.2).2)
    refine ⟨fun x hx => ?_, h4.2⟩
    rcases List.mem_append.1 hx with hx | hx
    · exact ha.1 x hx
    · exact h4.1 x hx
theorem new_sy (k : Nat) : Sy k (Det.new k) := ⟨⟨0, show newS k k = some ⟨k, 0, 0⟩ from Tab.set_same _ _ _⟩, fun x hx => by cases hx⟩
theorem live_me (hk : k < 64) (hI : Inv k d.f) : Bnd.hasS d.live k = true := by
  have := live_self hI
  unfold Bnd.hasS Det.live
  have hk' : (k : Int) < 64 := by omega
  simp only [Bnd.nodeS, Int.toNat_natCast, this, Bool.and_true, Bool.and_eq_true, decide_eq_true_eq]
  omega
end
end Go.Proofs.YtpoofjnfaijjjaaGreatDoor
