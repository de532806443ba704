/-
  What a detector's calls leave as it was; what holds of each note that is heard. No program is known here. What is shown: computed. Hear of a Help; Hear whatever comes. What a detector says: of itself, to others, with its own update first. No program is known here. What a detector knows, tells, and doubts, stays within a set of updates. No program is known here.
-/
import Derived.Test.YtpoofjnfaijjjaaGreatDoorMMvr
import Derived.Test.YtpoofjnfaijjjaaGreatDoorMHer
import Derived.Test.YtpoofjnfaijjjaaGreatDoorMHlp
import Derived.Test.YtpoofjnfaijjjaaGreatDoorMRLvm
namespace Go.Proofs.YtpoofjnfaijjjaaGreatDoor
open Go.RowKit Go.Proofs.YtpoofjnfaijjjaaGreatDoor.Ro
theorem learn_fr (d : Det) (u : Upd) (f : Int) (was : Bool) (l : List Int) : (d.learn u f was l).1.W = d.W ∧ (d.learn u f was l).1.E = d.E ∧ (d.learn u f was l).1.no = d.no ∧ (d.learn u f was l).1.la = d.la ∧ (d.learn u f was l).1.le = d.le ∧ (d.learn u f was l).1.f = d.f := by
  unfold Det.learn
  split
  · exact ⟨rfl, rfl, rfl, rfl, rfl, rfl⟩
  · split
    · exact ⟨rfl, rfl, rfl, rfl, rfl, rfl⟩
    · exact ⟨rfl, rfl, rfl, rfl, rfl, rfl⟩
theorem take_fr (k : Nat) (d : Det) (u : Upd) (f : Int) (l : List Int) : (d.take k u f l).2.1.W = d.W ∧ (d.take k u f l).2.1.E = d.E ∧ (d.take k u f l).2.1.no = d.no ∧ (d.take k u f l).2.1.la = d.la ∧ (d.take k u f l).2.1.le = d.le ∧ (d.take k u f l).2.1.f = (hearS k d.f u).2 := by
  unfold Det.take
  split
  · exact ⟨rfl, rfl, rfl, rfl, rfl, rfl⟩
  · split
    · exact learn_fr ({ d with f := (hearS k d.f u).2 } : Det) u f _ l
    · split
      · exact ⟨rfl, rfl, rfl, rfl, rfl, rfl⟩
      · split
        · exact ⟨rfl, rfl, rfl, rfl, rfl, rfl⟩
        · exact ⟨rfl, rfl, rfl, rfl, rfl, rfl⟩
theorem takes_fr (k : Nat) (f : Int) : ∀ (U : List Upd) (d : Det) (l : List Int), (d.takes k f U l).2.1.W = d.W ∧ (d.takes k f U l).2.1.E = d.E ∧ (d.takes k f U l).2.1.no = d.no ∧ (d.takes k f U l).2.1.la = d.la ∧ (d.takes k f U l).2.1.le = d.le
  | [], d, l => ⟨rfl, rfl, rfl, rfl, rfl⟩
  | u :: r, d, l => by
    obtain ⟨h1, h2, h3, h4, h5, _⟩ := take_fr k d u f l
    rw [Det.takes]
    split
    · exact ⟨h1, h2, h3, h4, h5⟩
    · obtain ⟨i1, i2, i3, i4, i5⟩ := takes_fr k f r (d.take k u f l).2.1 (d.take k u f l).2.2
      exact ⟨i1.trans h1, i2.trans h2, i3.trans h3, i4.trans h4, i5.trans h5⟩
theorem first_fr (k : Nat) (d : Det) (f : Int) (l : List Int) : (d.first k f l).1.W = d.W ∧ (d.first k f l).1.E = d.E ∧ (d.first k f l).1.no = d.no ∧ (d.first k f l).1.la = d.la ∧ (d.first k f l).1.le = d.le := by
  unfold Det.first
  split
  · exact ⟨rfl, rfl, rfl, rfl, rfl⟩
  · obtain ⟨h1, h2, h3, h4, h5, _⟩ := take_fr k d ⟨f, 0, 0⟩ f l
    exact ⟨h1, h2, h3, h4, h5⟩
theorem nodeB_nd {x : Int} (h : ¬ nodeB x = false) : Nd x := by
  unfold nodeB at h
  have : (decide (0 ≤ x) && decide (x < 64)) = true := by simpa using h
  simpa [Nd] using this
theorem fault_ok {k : Nat} {d : Det} {n : Nte} (h : d.fault k n = 0) : d.le = false ∧ n.t = k ∧ n.f ≠ k ∧ Nd n.f ∧ Nd n.o ∧ 1 ≤ n.k ∧ n.k ≤ 3 := by
  unfold Det.fault at h
  by_cases h1 : d.le = true
  · rw [if_pos h1] at h; cases h
  rw [if_neg h1] at h
  by_cases h2 : n.t ≠ k ∨ n.f = k ∨ nodeB n.f = false ∨ nodeB n.o = false
  · rw [if_pos h2] at h; cases h
  rw [if_neg h2] at h
  by_cases h3 : n.k < 1 ∨ 3 < n.k
  · rw [if_pos h3] at h; cases h
  simp only [not_or] at h2 h3
  exact ⟨by simpa using h1, by simpa using h2.1, h2.2.1, nodeB_nd h2.2.2.1, nodeB_nd h2.2.2.2, by omega, by omega⟩
/-! How many watches there may be. -/
section
variable (k : Nat)
theorem miss_fr (d : Det) (n : Int) (l : List Int) : (d.miss k n l).1.W = d.W ∧ (d.miss k n l).1.no = d.no ∧ (d.miss k n l).1.E = d.E ∧ (d.miss k n l).1.la = d.la ∧ (d.miss k n l).1.le = d.le := by
  unfold Det.miss
  split
  · obtain ⟨h1, h2, h3, h4, h5, _⟩ := take_fr k d ⟨n, (ud (getS d.f n)).i, 1⟩ k l
    exact ⟨h1, h3, h2, h4, h5⟩
  · exact ⟨rfl, rfl, rfl, rfl, rfl⟩
theorem helps_fr (x : Wch) : ∀ (H : List Int) (d : Det), (d.helps k x H).2.W = d.W ∧ (d.helps k x H).2.no = d.no ∧ (d.helps k x H).2.E = d.E ∧ (d.helps k x H).2.la = d.la ∧ (d.helps k x H).2.le = d.le
  | [], _ => ⟨rfl, rfl, rfl, rfl, rfl⟩
  | h :: r, d => helps_fr x r (d.told k h)
theorem look_fr : ∀ (L : List Wch) (d : Det) (l : List Int), (d.look k L l).2.2.1.W = d.W ∧ (d.look k L l).2.2.1.no = d.no ∧ (d.look k L l).2.2.1.E = d.E ∧ (d.look k L l).2.2.1.la = d.la ∧ (d.look k L l).2.2.1.le = d.le ∧ (d.look k L l).2.1.length ≤ L.length
  | [], _, _ => ⟨rfl, rfl, rfl, rfl, rfl, Nat.le_refl _⟩
  | w :: r, d, l => by
    rw [Det.look]
    split
    · obtain ⟨h1, h2, h3, h4, h5⟩ := miss_fr k d w.n l
      obtain ⟨i1, i2, i3, i4, i5, i6⟩ := look_fr r (d.miss k w.n l).1 (d.miss k w.n l).2
      exact ⟨i1.trans h1, i2.trans h2, i3.trans h3, i4.trans h4, i5.trans h5, Nat.le_trans i6 (Nat.le_succ _)⟩
    · split
      · obtain ⟨h1, h2, h3, h4, h5⟩ := helps_fr k w (Rn.helpS (othS k d.f) w.n 2 l).1 d
        obtain ⟨i1, i2, i3, i4, i5, i6⟩ := look_fr r (d.ask k w l).2.1 (d.ask k w l).2.2
        exact ⟨i1.trans h1, i2.trans h2, i3.trans h3, i4.trans h4, i5.trans h5, Nat.succ_le_succ i6⟩
      · obtain ⟨i1, i2, i3, i4, i5, i6⟩ := look_fr r d l
        exact ⟨i1, i2, i3, i4, i5, Nat.succ_le_succ i6⟩
theorem dead_fr : ∀ (U : List Upd) (d : Det) (l : List Int), (d.dead k U l).1.W = d.W ∧ (d.dead k U l).1.no = d.no ∧ (d.dead k U l).1.E = d.E ∧ (d.dead k U l).1.la = d.la ∧ (d.dead k U l).1.le = d.le
  | [], _, _ => ⟨rfl, rfl, rfl, rfl, rfl⟩
  | u :: r, d, l => by
    rw [Det.dead]
    obtain ⟨h1, h2, h3, h4, h5, _⟩ := take_fr k d u k l
    obtain ⟨i1, i2, i3, i4, i5⟩ := dead_fr r (d.take k u k l).2.1 (d.take k u k l).2.2
    exact ⟨i1.trans h1, i2.trans h3, i3.trans h2, i4.trans h4, i5.trans h5⟩
theorem pingNext_W (d : Det) (l : List Int) : (d.pingNext k l).2.1.W.length ≤ d.W.length + 1 := by
  unfold Det.pingNext
  split
  · exact Nat.le_succ _
  · simp
theorem tick_W (d : Det) (l : List Int) : (d.tick k l).2.1.W.length ≤ d.W.length + 1 := by
  unfold Det.tick
  split
  · exact Nat.le_succ _
  · dsimp only
    have h6 := (look_fr k d.W ({ d with no := u64w (d.no + 1) } : Det) l).2.2.2.2.2
    have e : (({ d with no := u64w (d.no + 1) } : Det).lookAfter k l).2.1.W.length ≤ d.W.length := h6
    generalize ({ d with no := u64w (d.no + 1) } : Det).lookAfter k l = R at *
    refine Nat.le_trans (pingNext_W k _ _) ?_
    rw [(dead_fr k _ _ _).1]
    exact Nat.succ_le_succ e
theorem hear_W (d : Det) (n : Nte) (l : List Int) : (d.hear k n l).2.1.W.length ≤ d.W.length := by
  unfold Det.hear
  split
  · exact Nat.le_refl _
  · dsimp only
    have e : ((d.first k n.f l).1.takes k n.f n.u (d.first k n.f l).2).2.1.W = d.W := (takes_fr k n.f n.u _ _).1.trans (first_fr k d n.f l).1
    generalize (d.first k n.f l).1.takes k n.f n.u (d.first k n.f l).2 = R at *
    split
    · exact Nat.le_of_eq (congrArg List.length e)
    · rw [← e]
      unfold Det.answer
      split
      · exact Nat.le_refl _
      · split
        · unfold Det.acked
          split
          · exact Nat.le_refl _
          · exact List.length_filter_le _ _
        · unfold Det.helped
          split
          · exact Nat.le_refl _
          · exact Nat.le_refl _
end
end Go.Proofs.YtpoofjnfaijjjaaGreatDoor
namespace Go.Proofs.YtpoofjnfaijjjaaGreatDoor
open Go.RowKit Go.Proofs.YtpoofjnfaijjjaaGreatDoor.Ro
def shA : Det := ((Det.new 1).take 1 ⟨2, 0, 0⟩ 1 []).2.1
def shN : Nte := ⟨1, 1, 2, 1, 0, [⟨1, 0, 0⟩, ⟨1, 0, 0⟩, ⟨2, 0, 0⟩]⟩
theorem sh1 : ((Det.new 1).take 1 ⟨2, 0, 0⟩ 1 []).1 = 0 := by kernel_rfl
theorem sh1l : ((Det.new 1).take 1 ⟨2, 0, 0⟩ 1 []).2.2 = [] := by kernel_rfl
theorem sh2 : (shA.tick 1 []).1 = [shN] := by kernel_rfl
theorem sh3 : ((Det.new 2).hear 2 shN []).1.2 = 0 := by kernel_rfl
theorem sh4 : (((Det.new 2).hear 2 shN []).1.1.map Nte.k) = [2] := by kernel_rfl
theorem sh5 : (allS ((Det.new 2).hear 2 shN []).2.1.f).length = 2 := by kernel_rfl
theorem shW : shA.W = [] := by kernel_rfl
theorem shW2 : (Det.new 2).W = [] := by kernel_rfl
end Go.Proofs.YtpoofjnfaijjjaaGreatDoor
namespace Go.Proofs.YtpoofjnfaijjjaaGreatDoor
open Go.RowKit Go.Proofs.YtpoofjnfaijjjaaGreatDoor.Ro
section
variable {k Bp p : Nat} {b : Bl} {d : Det} {l : List Int} {w : World}

set_option maxRecDepth 100000 in
set_option maxHeartbeats 4000000 in
theorem hear_help (h : Sx k Bp p b d l w) (n : Nte) (na : Option Addr) (nl nc : Nat) (hU : Ro.Ru (.slice na nl nc) n.u w) (hA : Nw p b w (.slice na nl nc) n.u) (hl : n.u.length ≤ 1000000) (hin : ∀ u ∈ n.u, U64 u.i) (hf : d.fault k n = 0)
    (he : ((d.first k n.f l).1.takes k n.f n.u (d.first k n.f l).2).1 = 0) (ho : Nd n.o) (hff : Nd n.f) (hq6 : U64 n.q) (hk1 : n.k = 3) :
    Calls Tryz.prog 15 #[.pointer (some ⟨b.q, 0, none⟩), ntV n (.slice na nl nc), .pointer (some ⟨p, 0, none⟩)] w fun e w' => ∃ v X b', e = .returned (.tuple #[v, .int .i64 0]) ∧ Sd p b' w v X w' ∧ X.map NtX.n = (((d.first k n.f l).1.takes k n.f n.u (d.first k n.f l).2).2.1.answer k n).1 ∧ Sx k Bp p b' (((d.first k n.f l).1.takes k n.f n.u (d.first k n.f l).2).2.1.answer k n).2 ((d.first k n.f l).1.takes k n.f n.u (d.first k n.f l).2).2.2 w' ∧ Stp p b w b' w' := by
  have hft := fun (w' : World) (h' : Sx k Bp p b d l w') => fault_any h' n na nl nc
  have hta := fun (w' : World) (h' : Sx k Bp p b d l w') hU hA => takeinall_any h' n na nl nc hU hA hl hin
  obtain ⟨K, F, T, Q, O, U⟩ := n
  have ba := below_alloc w (.cells (ntC K F T Q O (.slice na nl nc)) 37)
  have hN := Bn.new K F T Q O (.slice na nl nc) w
  have h1 := h.below ba
  obtain ⟨w1, HW1⟩ : ∃ w1, Hid (w1 = w.alloc (.cells (ntC K F T Q O (.slice na nl nc)) 37)) := ⟨_, rfl⟩
  rw [← HW1.out] at ba hN h1
  have hft1 := hft w1 h1
  rw [hf] at hft1
  dsimp only at he hta hk1 ho hff hq6 ⊢
  subst hk1
  generalize (d.first k F l).1.takes k F U (d.first k F l).2 = R at *
  obtain ⟨R1, R2, R3⟩ := R
  dsimp only at he hta ⊢
  subst he
  have x0 := hN.c0
  have x1 := hN.c1
  have x2 := hN.c2
  have x3 := hN.c3
  have x4 := hN.c4
  have x5 := hN.c5
  clear hft
  go_enter Tryz.func15, Tryz.ntmps15
  go_upto_region 1 with fail
  rw [← HW1.out]
  go_wp2_with fail
  refine hft1.mono ?_
  rintro e w2 ⟨rfl, hb2⟩
  have S2 : Stp p b w b w2 := (Stp.of ba).then hb2
  have hta2 := hta w2 (h1.below hb2) (ruK hU hA S2) (hA.stp S2)
  have hN2 := hN.below hb2
  clear x0 x1 x2 x3 x4 x5
  have x0 := hN2.c0
  have x1 := hN2.c1
  have x2 := hN2.c2
  have x3 := hN2.c3
  have x4 := hN2.c4
  have x5 := hN2.c5
  go_wp2_with fail
  refine hta2.mono ?_
  rintro e w3 ⟨rfl, b3, h3, s3⟩
  have hAN := (h.away (Nat.le_refl _) hN.lt).stp (Stp.of hb2)
  have hN3 := hN2.stp hAN s3
  have hAN3 := hAN.stp s3
  have hq : b3.q = b.q := s3.q
  have hS3 := And.intro hN3.c0 (And.intro hN3.c1 (And.intro hN3.c2 (And.intro hN3.c3 (And.intro hN3.c4 hN3.c5))))
  clear x0 x1 x2 x3 x4 x5
  have hix : ∀ w : World, (Instr.index 125 (.agg #[.nilFunc, .func (.func 103) #[] #[], .func (.func 104) #[] #[], .func (.func 105) #[] #[]]) (.int .i64 3)).run Tryz.prog w = .ok (.func (.func 105) #[] #[]) w := fun w => by kernel_rfl
  go_upto_region 7 with fail
  go_region_held3 (fun w' => w'.cell? ⟨w.heap.size, 0, none⟩ = some (.int .i64 3) ∧ w'.cell? ⟨w.heap.size, 1, none⟩ = some (.int .i64 F) ∧ w'.cell? ⟨w.heap.size, 2, none⟩ = some (.int .i64 T) ∧ w'.cell? ⟨w.heap.size, 3, none⟩ = some (.int .u64 Q) ∧ w'.cell? ⟨w.heap.size, 4, none⟩ = some (.int .i64 O) ∧ w'.cell? ⟨w.heap.size, 5, none⟩ = some (.slice na nl nc)) (first | exact hS3 | exact hS4 | exact hS5) ((first
    | (go_at_call 54; go_must (refine (answers_any _).mono ?_; rintro e w4 ⟨rfl, hb4⟩; have h4 := h3.drew.below hb4; have hN4 := hN3.drew.below hb4; have hS4 := And.intro hN4.c0 (And.intro hN4.c1 (And.intro hN4.c2 (And.intro hN4.c3 (And.intro hN4.c4 hN4.c5))))))
    | (go_at_call 105; go_must (rw [← hq]; refine (helped_any h4 ⟨3, F, T, Q, O, U⟩ ho hff hq6 na nl nc).mono ?_; rintro e w5 ⟨v5, X5, b5, rfl, hs5, hX5, h5, s5⟩; obtain ⟨a5, L5, c5, rfl⟩ : ∃ a L c, v5 = .slice a L c := (by obtain ⟨a, cap, e, _⟩ := hs5.row.len; exact ⟨a, _, cap, e⟩); have hN5 := hN4.stp (hAN3.drew.stp (Stp.of hb4)) s5; have hS5 := And.intro hN5.c0 (And.intro hN5.c1 (And.intro hN5.c2 (And.intro hN5.c3 (And.intro hN5.c4 hN5.c5))))))))
  have S5 := ((S2.trans s3).drew.then hb4)
  go_wp2_with fail
  unfold Det.answer
  rw [if_neg (show ¬ (3 : Int) = 1 by decide), if_neg (show ¬ (3 : Int) = 2 by decide)]
  exact bodyPost_ret (v := .tuple #[.slice a5 L5 c5, .int .i64 0]) (by simp [results, Tryz.results15, go_sem]) rfl ⟨_, X5, b5, rfl, hs5.up S5.size, hX5, h5, S5.trans s5⟩
set_option maxRecDepth 100000 in
theorem hear_any (h : Sx k Bp p b d l w) (n : Nte) (na : Option Addr) (nl nc : Nat) (hU : Ro.Ru (.slice na nl nc) n.u w) (hA : Nw p b w (.slice na nl nc) n.u) (hl : n.u.length ≤ 1000000) (hin : ∀ u ∈ n.u, U64 u.i) (hW : d.W.length ≤ 1000000) (hq : U64 n.q) :
    Calls Tryz.prog 15 #[.pointer (some ⟨b.q, 0, none⟩), ntV n (.slice na nl nc), .pointer (some ⟨p, 0, none⟩)] w fun e w' => ∃ v X b', e = .returned (.tuple #[v, .int .i64 (d.hear k n l).1.2]) ∧ Sd p b' w v X w' ∧ X.map NtX.n = (d.hear k n l).1.1 ∧ Sx k Bp p b' (d.hear k n l).2.1 (d.hear k n l).2.2 w' ∧ Stp p b w b' w' := by
  by_cases hf : d.fault k n = 0
  · have hWt : ∀ d' : Det, d' = ((d.first k n.f l).1.takes k n.f n.u (d.first k n.f l).2).2.1 → d'.W.length ≤ 1000000 := fun d' e => by
      rw [e, (takes_fr k n.f n.u _ _).1, (first_fr k d n.f l).1]; exact hW
    by_cases he : ((d.first k n.f l).1.takes k n.f n.u (d.first k n.f l).2).1 = 0
    · have hD : d.hear k n l = (((((d.first k n.f l).1.takes k n.f n.u (d.first k n.f l).2).2.1.answer k n).1, 0), (((d.first k n.f l).1.takes k n.f n.u (d.first k n.f l).2).2.1.answer k n).2, ((d.first k n.f l).1.takes k n.f n.u (d.first k n.f l).2).2.2) := by
        unfold Det.hear
        rw [if_neg (by rw [hf]; simp)]
        dsimp only
        rw [if_neg (by rw [he]; simp)]
      rw [hD]
      obtain ⟨_, _, _, o1, o2, o3, o4⟩ := fault_ok hf
      by_cases k1 : n.k = 1
      · exact hear_ping h n na nl nc hU hA hl hin hf he k1
      · by_cases k2 : n.k = 2
        · exact hear_ack h n na nl nc hU hA hl hin hf he hWt k2
        · exact hear_help h n na nl nc hU hA hl hin hf he o2 o1 hq (by omega)
    · have hD : d.hear k n l = (([], ((d.first k n.f l).1.takes k n.f n.u (d.first k n.f l).2).1), ((d.first k n.f l).1.takes k n.f n.u (d.first k n.f l).2).2) := by
        unfold Det.hear
        rw [if_neg (by rw [hf]; simp)]
        dsimp only
        rw [if_pos he]
      rw [hD]
      refine (hear_ended h n na nl nc hU hA hl hin hf he).mono ?_
      rintro e w1 ⟨rfl, b1, h1, s1⟩
      exact ⟨_, [], b1, rfl, Sd.nil _ _ _ _, rfl, h1, s1⟩
  · have hD : d.hear k n l = (([], d.fault k n), d, l) := by
      unfold Det.hear
      rw [if_pos hf]
    rw [hD]
    refine (hear_none h n na nl nc hf).mono ?_
    rintro e w1 ⟨rfl, hb⟩
    exact ⟨_, [], b, rfl, Sd.nil _ _ _ _, rfl, h.below hb, Stp.of hb⟩
end
end Go.Proofs.YtpoofjnfaijjjaaGreatDoor
namespace Go.Proofs.YtpoofjnfaijjjaaGreatDoor
open Go.RowKit Go.Proofs.YtpoofjnfaijjjaaGreatDoor.Ro
def Mine (k : Nat) (f : Tab) : Prop := ∃ i, f k = some ⟨k, i, 0⟩
theorem hear_mine {k : Nat} {f : Tab} (h : Mine k f) (u : Upd) : Mine k (hearS k f u).2 := by
  obtain ⟨i, hi⟩ := h
  unfold hearS
  split
  · rename_i hm
    split
    · unfold refuteS
      split
      · split
        · exact ⟨i, hi⟩
        · exact ⟨u.i + 1, Tab.set_same _ _ _⟩
      · exact ⟨i, hi⟩
    · rename_i hn
      split
      · exact ⟨i, hi⟩
      · refine ⟨i, ?_⟩
        show f.set u.n.toNat u k = _
        rw [Tab.set_other]
        · exact hi
        · intro e
          have h0 : 0 ≤ u.n := by
            unfold mayU mayS at hm
            simp only [Bool.and_eq_true, decide_eq_true_eq] at hm
            omega
          apply hn
          simp only [beq_iff_eq]
          omega
  · exact ⟨i, hi⟩
structure Sy (k : Nat) (d : Det) : Prop where
  m : Mine k d.f
  E : ∀ x ∈ d.E, x.f ≠ k
structure NtOk (k : Nat) (n : Nte) : Prop where
  f : n.f = k
  t : n.t ≠ k
  k1 : 1 ≤ n.k
  k3 : n.k ≤ 3
  u : ∃ y r, n.u = y :: r ∧ y.n = k ∧ y.s = 0 ∧ r.length ≤ 7
section
variable {k : Nat} {d : Det}
theorem oth_not (k : Nat) (f : Tab) : ∀ x ∈ othS k f, x ≠ k := fun x hx e => by
  subst e
  have h := Bnd.mem_lst.1 hx
  unfold Bnd.hasS at h
  simp only [Bool.and_eq_true] at h
  have h2 := h.2
  rw [Bnd.testBit_lessS] at h2
  simp [h.1] at h2
theorem news_ok (h : Sy k d) (x : Int) : ∃ y r, d.news k x = y :: r ∧ y.n = k ∧ y.s = 0 ∧ r.length ≤ 7 := by
  obtain ⟨i, hi⟩ := h.m
  unfold Det.news Det.pre Det.mine
  rw [hi]
  split
  · refine ⟨_, ud (getS d.f x) :: (d.Q.take 6).map Ru.updOf, rfl, rfl, rfl, ?_⟩
    rw [List.length_cons, List.length_map, List.length_take]
    omega
  · refine ⟨_, (d.Q.take 7).map Ru.updOf, rfl, rfl, rfl, ?_⟩
    rw [List.length_map, List.length_take]
    omega
theorem Sy.told (h : Sy k d) (x : Int) : Sy k (d.told k x) := ⟨h.m, h.E⟩
theorem Sy.take (h : Sy k d) (u : Upd) (f : Int) (l : List Int) : Sy k (d.take k u f l).2.1 := by
  obtain ⟨_, h2, _, _, _, h6⟩ := take_fr k d u f l
  exact ⟨by rw [h6]; exact hear_mine h.m u, by rw [h2]; exact h.E⟩
theorem Sy.takes (f : Int) : ∀ (U : List Upd) {d : Det} (_ : Sy k d) (l : List Int), Sy k (d.takes k f U l).2.1
  | [], _, h, _ => h
  | u :: r, d, h, l => by
    rw [Det.takes]
    split
    · exact h.take u f l
    · exact Sy.takes f r (h.take u f l) _
theorem Sy.first (h : Sy k d) (f : Int) (l : List Int) : Sy k (d.first k f l).1 := by
  unfold Det.first
  split
  · exact h
  · exact h.take _ _ _
theorem pinged_ok (h : Sy k d) (n : Nte) (hf : n.f ≠ k) : (∀ x ∈ (d.pinged k n).1, NtOk k x) ∧ Sy k (d.pinged k n).2 :=
  ⟨fun x hx => by obtain rfl := List.mem_singleton.1 hx; exact ⟨rfl, hf, by show (1 : Int) ≤ 2; decide, by show (2 : Int) ≤ 3; decide, news_ok h _⟩, h.told _⟩
theorem acked_ok (h : Sy k d) (n : Nte) : (∀ x ∈ (d.acked k n).1, NtOk k x) ∧ Sy k (d.acked k n).2 := by
  unfold Det.acked
  split
  · rename_i x hx
    refine ⟨fun y hy => ?_, ⟨h.m, fun y hy => h.E y (List.mem_of_mem_eraseP hy)⟩⟩
    obtain rfl := List.mem_singleton.1 hy
    exact ⟨rfl, h.E x (List.mem_of_find?_eq_some hx), by show (1 : Int) ≤ 2; decide, by show (2 : Int) ≤ 3; decide, news_ok h _⟩
  · exact ⟨(fun y hy => by cases hy), ⟨h.m, h.E⟩⟩
theorem helped_ok (h : Sy k d) (n : Nte) (hf : n.f ≠ k) : (∀ x ∈ (d.helped k n).1, NtOk k x) ∧ Sy k (d.helped k n).2 := by
  unfold Det.helped
  split
  · exact pinged_ok h n hf
  · rename_i ho
    refine ⟨fun x hx => ?_, ⟨h.m, fun x hx => ?_⟩⟩
    · obtain rfl := List.mem_singleton.1 hx
      exact ⟨rfl, ho, by show (1 : Int) ≤ 1; decide, by show (1 : Int) ≤ 3; decide, news_ok h _⟩
    · rcases List.mem_append.1 hx with hx | hx
      · split at hx
        · exact h.E x (List.mem_of_mem_tail hx)
        · exact h.E x hx
      · obtain rfl := List.mem_singleton.1 hx
        exact hf
theorem answer_ok (h : Sy k d) (n : Nte) (hf : n.f ≠ k) : (∀ x ∈ (d.answer k n).1, NtOk k x) ∧ Sy k (d.answer k n).2 := by
  unfold Det.answer
  split
  · exact pinged_ok h n hf
  · split
    · exact acked_ok h n
    · exact helped_ok h n hf
theorem hear_ok (h : Sy k d) (n : Nte) (l : List Int) : (∀ x ∈ (d.hear k n l).1.1, NtOk k x) ∧ Sy k (d.hear k n l).2.1 := by
  unfold Det.hear
  split
  · exact ⟨(fun x hx => by cases hx), h⟩
  · rename_i hf
    have hf' : d.fault k n = 0 := by simpa using hf
    obtain ⟨_, _, hn, _⟩ := fault_ok hf'
    have ht := Sy.takes n.f n.u (h.first n.f l) (d.first k n.f l).2
    dsimp only
    split
    · exact ⟨(fun x hx => by cases hx), ht⟩
    · exact answer_ok ht n hn
theorem Sy.miss (h : Sy k d) (n : Int) (l : List Int) : Sy k (d.miss k n l).1 := by
  unfold Det.miss
  split
  · exact h.take _ _ _
  · exact h
theorem helps_ok (w : Wch) : ∀ (H : List Int) {d : Det} (_ : Sy k d) (_ : ∀ x ∈ H, x ≠ (k : Int)), (∀ x ∈ (d.helps k w H).1, NtOk k x) ∧ Sy k (d.helps k w H).2
  | [], _, h, _ => ⟨(fun x hx => by cases hx), h⟩
  | a :: r, d, h, hH => by
    have ih := helps_ok w r (h.told a) fun x hx => hH x (by simp [hx])
    rw [Det.helps]
    refine ⟨fun x hx => ?_, ih.2⟩
    rcases List.mem_cons.1 hx with rfl | hx
    · exact ⟨rfl, hH a (by simp), by show (1 : Int) ≤ 3; decide, by show (3 : Int) ≤ 3; decide, news_ok h _⟩
    · exact ih.1 x hx
theorem help_sub {o : List Int} {x n : Int} {l : List Int} {y : Int} (h : y ∈ (Rn.helpS o x n l).1) : y ∈ o := by
  unfold Rn.helpS Rn.someS at h
  split at h
  · cases h
  · have := List.mem_of_mem_take h
    have := (Rn.shufS_perm _ _).mem_iff.1 this
    exact (List.mem_filter.1 this).1
theorem ask_ok (h : Sy k d) (w : Wch) (l : List Int) : (∀ x ∈ (d.ask k w l).1, NtOk k x) ∧ Sy k (d.ask k w l).2.1 :=
  helps_ok w _ h fun x hx => oth_not k d.f x (help_sub hx)
theorem look_ok : ∀ (L : List Wch) {d : Det} (_ : Sy k d) (l : List Int), (∀ x ∈ (d.look k L l).1, NtOk k x) ∧ Sy k (d.look k L l).2.2.1
  | [], _, h, _ => ⟨(fun x hx => by cases hx), h⟩
  | w :: r, d, h, l => by
    rw [Det.look]
    split
    · exact look_ok r (h.miss w.n l) _
    · split
      · have ha := ask_ok h w l
        have ih := look_ok r ha.2 (d.ask k w l).2.2
        refine ⟨fun x hx => ?_, ih.2⟩
        rcases List.mem_append.1 hx with hx | hx
        · exact ha.1 x hx
        · exact ih.1 x hx
      · exact look_ok r h l
theorem lookAfter_ok (h : Sy k d) (l : List Int) : (∀ x ∈ (d.lookAfter k l).1, NtOk k x) ∧ Sy k (d.lookAfter k l).2.1 := by
  have := look_ok d.W h l
  exact ⟨this.1, ⟨this.2.m, this.2.E⟩⟩
theorem Sy.dead : ∀ (U : List Upd) {d : Det} (_ : Sy k d) (l : List Int), Sy k (d.dead k U l).1
  | [], _, h, _ => h
  | u :: r, d, h, l => by
    rw [Det.dead]
    exact Sy.dead r (h.take u k l) _
theorem pingNext_ok (h : Sy k d) (l : List Int) : (∀ x ∈ (d.pingNext k l).1, NtOk k x) ∧ Sy k (d.pingNext k l).2.1 := by
  unfold Det.pingNext
  split
  · exact ⟨(fun x hx => by cases hx), ⟨h.m, h.E⟩⟩
  · rename_i hb
    have hb' : (Rn.nxtS d.s (othS k d.f) l).1.2 = true := by simpa using hb
    have hm := oth_not k d.f _ (nxt_in l hb')
    dsimp only
    refine ⟨fun x hx => ?_, ⟨h.m, h.E⟩⟩
    obtain rfl := List.mem_singleton.1 hx
    have h' : Sy k ({ d with s := (Rn.nxtS d.s (othS k d.f) l).2.1 } : Det) := ⟨h.m, h.E⟩
    exact ⟨rfl, hm, by show (1 : Int) ≤ 1; decide, by show (1 : Int) ≤ 3; decide, news_ok h' _⟩
theorem tick_ok (h : Sy k d) (l : List Int) : (∀ x ∈ (d.tick k l).1, NtOk k x) ∧ Sy k (d.tick k l).2.1 := by
  unfold Det.tick
  split
  · exact ⟨(fun x hx => by cases hx), h⟩
  · dsimp only
    have h0 : Sy k ({ d with no := u64w (d.no + 1) } : Det) := ⟨h.m, h.E⟩
    have ha := lookAfter_ok h0 l
    generalize ({ d with no := u64w (d.no + 1) } : Det).lookAfter k l = R at *
    have h2 : Sy k ({ R.2.1 with E := R.2.1.E.filter (fun x => !decide (4 ≤ u64w (R.2.1.no - x.a))), D := Do.stayD R.2.1.D R.2.1.no } : Det) := ⟨ha.2.m, fun x hx => ha.2.E x (List.mem_filter.1 hx).1⟩
    have h3 := Sy.dead ((Do.overD R.2.1.D R.2.1.no).map Do.deadOf) h2 R.2.2
    have h4 := pingNext_ok h3 ((({ R.2.1 with E := R.2.1.E.filter (fun x => !decide (4 ≤ u64w (R.2.1.no - x.a))), D := Do.stayD R.2.1.D R.2.1.no } : Det).dead k ((Do.overD R.2.1.D R.2.1.no).map Do.deadOf) R.2.2).2)
    refine ⟨fun x hx => ?_, h4.2⟩
    rcases List.mem_append.1 hx with hx | hx
    · exact ha.1 x hx
    · exact h4.1 x hx
theorem new_sy (k : Nat) : Sy k (Det.new k) := ⟨⟨0, show newS k k = some ⟨k, 0, 0⟩ from Tab.set_same _ _ _⟩, fun x hx => by cases hx⟩
theorem live_me (hk : k < 64) (hI : Inv k d.f) : Bnd.hasS d.live k = true := by
  have := live_self hI
  unfold Bnd.hasS Det.live
  have hk' : (k : Int) < 64 := by omega
  simp only [Bnd.nodeS, Int.toNat_natCast, this, Bool.and_true, Bool.and_eq_true, decide_eq_true_eq]
  omega
end
end Go.Proofs.YtpoofjnfaijjjaaGreatDoor
namespace Go.Proofs.YtpoofjnfaijjjaaGreatDoor
open Go.RowKit Go.Proofs.YtpoofjnfaijjjaaGreatDoor.Ro
/-! ## Members -/
theorem keepQ_sub {L : List Ru.Itm} {x y : Ru.Itm} (h : y ∈ Ru.keepQ L x) : y = x ∨ y ∈ L := by
  unfold Ru.keepQ at h
  rcases List.mem_cons.1 ((Ru.insQ_perm _ _).mem_iff.1 h) with h | h
  · exact .inl h
  · exact .inr (List.mem_filter.1 h).1
theorem putQ_sub {L : List Ru.Itm} {u : Upd} {y : Ru.Itm} (h : y ∈ Ru.putQ L (triple u)) : Ru.updOf y = u ∨ y ∈ L := by
  unfold Ru.putQ at h
  split at h
  · split at h
    · exact .inr h
    · rcases keepQ_sub (List.mem_of_mem_take h) with h | h
      · exact .inl (by rw [h]; rfl)
      · exact .inr h
  · exact .inr h
theorem takeQ_sub {L : List Ru.Itm} {n c : Int} {y : Ru.Itm} (h : y ∈ Ru.takeQ L n c) : ∃ x ∈ L, Ru.updOf y = Ru.updOf x := by
  have key : ∀ (M acc : List Ru.Itm), (∀ x ∈ M, x ∈ L) → (∀ y ∈ acc, ∃ x ∈ L, Ru.updOf y = Ru.updOf x) → ∀ y ∈ M.foldl (Ru.tellQ c) acc, ∃ x ∈ L, Ru.updOf y = Ru.updOf x := by
    intro M
    induction M with
    | nil => intro acc _ ha y hy; exact ha y hy
    | cons m r ih =>
      intro acc hM ha y hy
      rw [List.foldl_cons] at hy
      refine ih _ (fun x hx => hM x (by simp [hx])) (fun z hz => ?_) y hy
      unfold Ru.tellQ at hz
      split at hz
      · rcases keepQ_sub hz with rfl | hz
        · exact ⟨m, hM m (by simp), rfl⟩
        · exact ha z hz
      · exact ha z (List.mem_filter.1 hz).1
  exact key _ L (fun x hx => List.mem_of_mem_take hx) (fun y hy => ⟨y, hy, rfl⟩) y h
theorem getD_mem {L : List Do.Dbt} {n : Int} (h : Do.hasD L n = true) : Do.getD L n ∈ L ∧ (Do.getD L n).n = n := by
  unfold Do.hasD at h
  unfold Do.getD
  cases hf : L.find? (fun x => x.n == n) with
  | none =>
    rw [List.find?_eq_none] at hf
    obtain ⟨x, hx, e⟩ := List.any_eq_true.1 h
    exact absurd e (hf x hx)
  | some x => exact ⟨List.mem_of_find?_eq_some hf, by simpa using List.find?_some hf⟩
theorem keepD_sub {L : List Do.Dbt} {x y : Do.Dbt} (h : y ∈ Do.keepD L x) : y = x ∨ y ∈ L := by
  unfold Do.keepD at h
  rcases (Do.insD_mem _ _ _).1 h with h | h
  · exact .inl h
  · exact .inr (List.mem_filter.1 h).1
theorem raise_sub {L : List Do.Dbt} {n i s from_ now nodes : Int} {base : Nat} {y : Do.Dbt} (h : y ∈ (Do.raiseS L n i s from_ now nodes base).2.2) : (y.n = n ∧ y.i = i) ∨ ∃ x ∈ L, y.n = x.n ∧ y.i = x.i := by
  unfold Do.raiseS at h
  split at h
  · exact .inr ⟨y, h, rfl, rfl⟩
  · split at h
    · rcases keepD_sub h with rfl | h
      · exact .inl ⟨rfl, rfl⟩
      · exact .inr ⟨y, h, rfl, rfl⟩
    · rename_i hh
      split at h
      · exact .inr ⟨y, h, rfl, rfl⟩
      · split at h
        · exact .inr ⟨y, h, rfl, rfl⟩
        · rcases keepD_sub h with rfl | h
          · have hd : Do.hasD L n = true := by
              cases e : Do.hasD L n
              · exact absurd (.inl e) hh
              · rfl
            exact .inr ⟨_, (getD_mem hd).1, rfl, rfl⟩
          · exact .inr ⟨y, h, rfl, rfl⟩
/-! ## Within a set -/
structure Ni (A : Upd → Prop) (I : Int → Prop) (k : Nat) (d : Det) : Prop where
  m : ∃ i, d.f k = some ⟨k, i, 0⟩ ∧ I i
  f : ∀ j u, d.f j = some u → A u
  n : ∀ j u, d.f j = some u → u.n = j
  Q : ∀ x ∈ d.Q, A (Ru.updOf x)
  D : ∀ x ∈ d.D, A ⟨x.n, x.i, 3⟩
  E : ∀ x ∈ d.E, U64 x.t
  W : ∀ x ∈ d.W, U64 x.q
/-- What is closed: a doubt's end, what is refuted. -/
structure Cls (A : Upd → Prop) (I : Int → Prop) (k : Nat) : Prop where
  dead : ∀ u, A u → u.s = 1 → A ⟨u.n, u.i, 3⟩
  ref : ∀ u i, A u → u.n = k → I i → newerS u.i u.s i 0 = true → u.i ≠ 18446744073709551615 → A ⟨k, u.i + 1, 0⟩ ∧ I (u.i + 1)
/-- The same, of one update. -/
structure ClsU (A : Upd → Prop) (I : Int → Prop) (k : Nat) (u : Upd) : Prop where
  dead : u.s = 1 → A ⟨u.n, u.i, 3⟩
  ref : ∀ i, u.n = k → I i → newerS u.i u.s i 0 = true → u.i ≠ 18446744073709551615 → A ⟨k, u.i + 1, 0⟩ ∧ I (u.i + 1)
theorem Cls.of {A : Upd → Prop} {I : Int → Prop} {k : Nat} {u : Upd} (h : Cls A I k) (hu : A u) : ClsU A I k u := ⟨h.dead u hu, fun i => h.ref u i hu⟩
/-- A note whose news are within it. -/
structure Nin (A : Upd → Prop) (n : Nte) : Prop where
  q : U64 n.q
  len : n.u.length ≤ 30
  u : ∀ v ∈ n.u, A v
section
variable {A : Upd → Prop} {I : Int → Prop} {k : Nat} {d : Det}
theorem hear_sub {f : Tab} {u v : Upd} {j : Nat} (h : (hearS k f u).2 j = some v) : f j = some v ∨ v = u ∨ (v = ⟨k, u.i + 1, 0⟩ ∧ u.n = k ∧ newerS u.i u.s (ud (f k)).i 0 = true ∧ u.i ≠ 18446744073709551615) := by
  unfold hearS at h
  split at h
  · split at h
    · unfold refuteS at h
      split at h
      · rename_i hd
        split at h
        · exact .inl h
        · rename_i hi
          dsimp only at h
          by_cases e : j = k
          · subst e
            rw [Tab.set_same] at h
            unfold denS at hd
            simp only [Bool.and_eq_true, beq_iff_eq] at hd
            exact .inr (.inr ⟨(Option.some.inj h).symm, hd.1, hd.2.2, by simpa using hi⟩)
          · rw [Tab.set_other _ _ e] at h; exact .inl h
      · exact .inl h
    · split at h
      · exact .inl h
      · by_cases e : j = u.n.toNat
        · subst e
          have h' : f.set u.n.toNat u u.n.toNat = some v := h
          rw [Tab.set_same] at h'
          exact .inr (.inl (Option.some.inj h').symm)
        · have h' : f.set u.n.toNat u j = some v := h
          rw [Tab.set_other _ _ e] at h'; exact .inl h'
  · exact .inl h
theorem hear_n {f : Tab} (h : ∀ j u, f j = some u → u.n = j) {u : Upd} : ∀ j v, (hearS k f u).2 j = some v → v.n = j := fun j v hv => by
  unfold hearS at hv
  split at hv
  · rename_i hm
    split at hv
    · unfold refuteS at hv
      split at hv
      · split at hv
        · exact h j v hv
        · dsimp only at hv
          by_cases e : j = k
          · subst e
            rw [Tab.set_same] at hv
            rw [← Option.some.inj hv]
          · rw [Tab.set_other _ _ e] at hv; exact h j v hv
      · exact h j v hv
    · split at hv
      · exact h j v hv
      · dsimp only at hv
        by_cases e : j = u.n.toNat
        · subst e
          rw [Tab.set_same] at hv
          rw [← Option.some.inj hv]
          unfold mayU mayS at hm
          simp only [Bool.and_eq_true, decide_eq_true_eq] at hm
          omega
        · rw [Tab.set_other _ _ e] at hv; exact h j v hv
  · exact h j v hv
theorem hear_f {u : Upd} (hA : ClsU A I k u) {f : Tab} (hm : ∃ i, f k = some ⟨k, i, 0⟩ ∧ I i) (hf : ∀ j u, f j = some u → A u) (hu : A u) :
    (∃ i, (hearS k f u).2 k = some ⟨k, i, 0⟩ ∧ I i) ∧ ∀ j v, (hearS k f u).2 j = some v → A v := by
  obtain ⟨i, hi, hI⟩ := hm
  refine ⟨?_, fun j v h => ?_⟩
  · obtain ⟨i', hi'⟩ := hear_mine ⟨i, hi⟩ u
    refine ⟨i', hi', ?_⟩
    rcases hear_sub hi' with h | h | ⟨h1, h2, h3, h4⟩
    · rw [hi] at h
      have e : i = i' := congrArg Upd.i (Option.some.inj h)
      rw [← e]; exact hI
    · -- own updates are never taken as they are
      have hn : u.n = k := by rw [← h]
      unfold hearS at hi'
      split at hi'
      · rw [if_pos (by rw [hn]; simp)] at hi'
        unfold refuteS at hi'
        split at hi'
        · rename_i hd
          split at hi'
          · dsimp only at hi'
            rw [hi] at hi'
            have e : i = i' := congrArg Upd.i (Option.some.inj hi')
            rw [← e]; exact hI
          · rename_i hx
            have hi'' : f.set k ⟨k, u.i + 1, 0⟩ k = _ := hi'
            rw [Tab.set_same] at hi''
            have e : u.i + 1 = i' := congrArg Upd.i (Option.some.inj hi'')
            unfold denS at hd
            rw [hi] at hd
            simp only [Bool.and_eq_true, beq_iff_eq] at hd
            rw [← e]
            exact (hA.ref i hn hI hd.2.2 (by simpa using hx)).2
        · dsimp only at hi'
          rw [hi] at hi'
          have e : i = i' := congrArg Upd.i (Option.some.inj hi')
          rw [← e]; exact hI
      · dsimp only at hi'
        rw [hi] at hi'
        have e : i = i' := congrArg Upd.i (Option.some.inj hi')
        rw [← e]; exact hI
    · rw [hi] at h3
      have e : i' = u.i + 1 := congrArg Upd.i h1
      rw [e]
      exact (hA.ref i h2 hI h3 h4).2
  · rcases hear_sub h with h | h | ⟨h1, h2, h3, h4⟩
    · exact hf j v h
    · rw [h]; exact hu
    · rw [hi] at h3
      rw [h1]
      exact (hA.ref i h2 hI h3 h4).1
theorem Ni.tell (h : Ni A I k d) {u : Upd} (hu : A u) : Ni A I k (d.tell u) :=
  ⟨h.m, h.f, h.n, fun x hx => (putQ_sub hx).elim (fun e => e ▸ hu) (h.Q x), h.D, h.E, h.W⟩
theorem Ni.susp (h : Ni A I k d) {u : Upd} (hu : A ⟨u.n, u.i, 3⟩) (from_ : Int) : Ni A I k (d.susp u from_) :=
  ⟨h.m, h.f, h.n, h.Q, fun x hx => by
    rcases raise_sub hx with ⟨e1, e2⟩ | ⟨y, hy, e1, e2⟩
    · rw [e1, e2]; exact hu
    · rw [e1, e2]; exact h.D y hy, h.E, h.W⟩
theorem Ni.learn {u : Upd} (hA : ClsU A I k u) (h : Ni A I k d) (hu : A u) (from_ : Int) (was : Bool) (l : List Int) : Ni A I k (d.learn u from_ was l).1 := by
  have ht := h.tell hu
  unfold Det.learn
  split
  · rename_i hs
    exact ht.susp (hA.dead hs) from_
  · split
    · exact ⟨ht.m, ht.f, ht.n, ht.Q, fun x hx => ht.D x (List.mem_filter.1 hx).1, ht.E, ht.W⟩
    · exact ⟨ht.m, ht.f, ht.n, ht.Q, fun x hx => ht.D x (List.mem_filter.1 hx).1, ht.E, ht.W⟩
theorem Ni.takeU {u : Upd} (hA : ClsU A I k u) (h : Ni A I k d) (hu : A u) (from_ : Int) (l : List Int) : Ni A I k (d.take k u from_ l).2.1 := by
  obtain ⟨hm, hf⟩ := hear_f hA h.m h.f hu
  have h' : Ni A I k { d with f := (hearS k d.f u).2 } := ⟨hm, hf, hear_n h.n, h.Q, h.D, h.E, h.W⟩
  unfold Det.take
  split
  · exact h'
  · split
    · exact Ni.learn hA h' hu _ _ _
    · split
      · refine h'.tell ?_
        obtain ⟨i, hi, _⟩ := hm
        rw [hi]
        exact hf k _ hi
      · split
        · rename_i hs
          exact h'.susp (hA.dead hs.1) from_
        · exact h'
theorem Ni.take (hA : Cls A I k) (h : Ni A I k d) {u : Upd} (hu : A u) (from_ : Int) (l : List Int) : Ni A I k (d.take k u from_ l).2.1 := h.takeU (hA.of hu) hu from_ l
theorem Ni.takes (hA : Cls A I k) (f : Int) : ∀ (U : List Upd) {d : Det} (_ : Ni A I k d) (_ : ∀ u ∈ U, A u) (l : List Int), Ni A I k (d.takes k f U l).2.1
  | [], _, h, _, _ => h
  | u :: r, d, h, hU, l => by
    rw [Det.takes]
    have h1 := h.take hA (hU u (by simp)) f l
    split
    · exact h1
    · exact Ni.takes hA f r h1 (fun v hv => hU v (by simp [hv])) _
theorem Ni.first (hA : Cls A I k) (h : Ni A I k d) {f : Int} (hf : A ⟨f, 0, 0⟩) (l : List Int) : Ni A I k (d.first k f l).1 := by
  unfold Det.first
  split
  · exact h
  · exact h.take hA hf _ _
theorem Ni.told (h : Ni A I k d) (x : Int) : Ni A I k (d.told k x) :=
  ⟨h.m, h.f, h.n, fun y hy => by obtain ⟨z, hz, e⟩ := takeQ_sub hy; rw [e]; exact h.Q z hz, h.D, h.E, h.W⟩
theorem getS_A (h : Ni A I k d) {x : Int} (hs : (getS d.f x).isSome = true) : A (ud (getS d.f x)) := by
  unfold getS at hs ⊢
  split at hs
  · rename_i hx
    rw [if_pos hx]
    obtain ⟨v, hv⟩ := Option.isSome_iff_exists.1 hs
    rw [hv]
    exact h.f _ v hv
  · cases hs
theorem news_A (h : Ni A I k d) (x : Int) : (d.news k x).length ≤ 30 ∧ ∀ v ∈ d.news k x, A v := by
  obtain ⟨i, hi, _⟩ := h.m
  have hmine : A (d.mine k) := by
    unfold Det.mine
    rw [hi]
    exact h.f k _ hi
  have hpre : (d.pre k x).length ≤ 2 ∧ ∀ v ∈ d.pre k x, A v := by
    unfold Det.pre
    split
    · rename_i hc
      refine ⟨Nat.le_refl _, fun v hv => ?_⟩
      rcases List.mem_cons.1 hv with rfl | hv
      · exact hmine
      · obtain rfl := List.mem_singleton.1 hv
        exact getS_A h hc.1
    · exact ⟨by simp, fun v hv => by obtain rfl := List.mem_singleton.1 hv; exact hmine⟩
  unfold Det.news
  refine ⟨?_, fun v hv => ?_⟩
  · rw [List.length_append, List.length_map, List.length_take]
    have := hpre.1
    omega
  · rcases List.mem_append.1 hv with hv | hv
    · exact hpre.2 v hv
    · obtain ⟨y, hy, rfl⟩ := List.mem_map.1 hv
      exact h.Q y (List.mem_of_mem_take hy)
theorem Ni.note (h : Ni A I k d) (K F T q O x : Int) (hq : U64 q) : Nin A ⟨K, F, T, q, O, d.news k x⟩ := ⟨hq, (news_A h x).1, (news_A h x).2⟩
theorem Ni.pinged (h : Ni A I k d) (n : Nte) (hq : U64 n.q) : (∀ x ∈ (d.pinged k n).1, Nin A x) ∧ Ni A I k (d.pinged k n).2 :=
  ⟨fun x hx => by obtain rfl := List.mem_singleton.1 hx; exact h.note _ _ _ _ _ _ hq, h.told _⟩
theorem Ni.answer (h : Ni A I k d) (n : Nte) (hq : U64 n.q) : (∀ x ∈ (d.answer k n).1, Nin A x) ∧ Ni A I k (d.answer k n).2 := by
  unfold Det.answer
  split
  · exact h.pinged n hq
  · split
    · unfold Det.acked
      split
      · rename_i x hx
        have h' : Ni A I k ({ d with E := d.E.eraseP (ackE n) } : Det) := ⟨h.m, h.f, h.n, h.Q, h.D, fun y hy => h.E y (List.mem_of_mem_eraseP hy), h.W⟩
        exact ⟨fun y hy => by obtain rfl := List.mem_singleton.1 hy; exact h.note _ _ _ _ _ _ (h.E x (List.mem_of_find?_eq_some hx)), h'.told _⟩
      · exact ⟨(fun y hy => by cases hy), ⟨h.m, h.f, h.n, h.Q, h.D, h.E, fun y hy => h.W y (List.mem_filter.1 hy).1⟩⟩
    · unfold Det.helped
      split
      · exact h.pinged n hq
      · have h1 : Ni A I k (d.next) := ⟨h.m, h.f, h.n, h.Q, h.D, h.E, h.W⟩
        have h2 := h1.told n.o
        refine ⟨fun x hx => by obtain rfl := List.mem_singleton.1 hx; exact h.note _ _ _ _ _ _ (u64w_ok _), ⟨h2.m, h2.f, h2.n, h2.Q, h2.D, fun x hx => ?_, h2.W⟩⟩
        rcases List.mem_append.1 hx with hx | hx
        · split at hx
          · exact h.E x (List.mem_of_mem_tail hx)
          · exact h.E x hx
        · obtain rfl := List.mem_singleton.1 hx
          exact hq
theorem Ni.hear (hA : Cls A I k) (h : Ni A I k d) {n : Nte} (hn : Nin A n) (hf : d.fault k n = 0 → A ⟨n.f, 0, 0⟩) (l : List Int) : (∀ x ∈ (d.hear k n l).1.1, Nin A x) ∧ Ni A I k (d.hear k n l).2.1 := by
  unfold Det.hear
  split
  · exact ⟨(fun x hx => by cases hx), h⟩
  · rename_i hz
    have hz' : d.fault k n = 0 := by simpa using hz
    have ht := Ni.takes hA n.f n.u (h.first hA (hf hz') l) hn.u (d.first k n.f l).2
    dsimp only
    split
    · exact ⟨(fun x hx => by cases hx), ht⟩
    · exact ht.answer n hn.q
theorem Ni.miss (hA : Cls A I k) (h : Ni A I k d) {n : Int} (hs : ∀ i, A ⟨n, i, 0⟩ → A ⟨n, i, 1⟩) (l : List Int) : Ni A I k (d.miss k n l).1 := by
  unfold Det.miss
  split
  · rename_i hc
    refine h.take hA (hs _ ?_) _ _
    have hx := getS_A h hc.1
    have hn : (ud (getS d.f n)).n = n := by
      have hc1 := hc.1
      unfold getS at hc1 ⊢
      split at hc1
      · rename_i hr
        rw [if_pos hr]
        obtain ⟨v, hv⟩ := Option.isSome_iff_exists.1 hc1
        rw [hv]
        have := h.n _ v hv
        show v.n = n
        omega
      · cases hc1
    have e : ud (getS d.f n) = ⟨n, (ud (getS d.f n)).i, 0⟩ := by
      rcases hu : ud (getS d.f n) with ⟨a, b, c⟩
      rw [hu] at hn hc
      have h2 := hc.2
      dsimp only at hn h2
      rw [hn, h2]
    rw [← e]
    exact hx
  · exact h
theorem Ni.helps (w : Wch) (hq : U64 w.q) : ∀ (H : List Int) {d : Det} (_ : Ni A I k d), (∀ x ∈ (d.helps k w H).1, Nin A x) ∧ Ni A I k (d.helps k w H).2
  | [], _, h => ⟨(fun x hx => by cases hx), h⟩
  | a :: r, d, h => by
    have ih := Ni.helps w hq r (h.told a)
    rw [Det.helps]
    refine ⟨fun x hx => ?_, ih.2⟩
    rcases List.mem_cons.1 hx with rfl | hx
    · exact h.note _ _ _ _ _ _ hq
    · exact ih.1 x hx
theorem Ni.look (hA : Cls A I k) : ∀ (L : List Wch) {d : Det} (_ : Ni A I k d) (_ : ∀ x ∈ L, U64 x.q ∧ ∀ i, A ⟨x.n, i, 0⟩ → A ⟨x.n, i, 1⟩) (l : List Int), (∀ x ∈ (d.look k L l).1, Nin A x) ∧ Ni A I k (d.look k L l).2.2.1 ∧ ∀ x ∈ (d.look k L l).2.1, ∃ y ∈ L, x.q = y.q ∧ x.n = y.n
  | [], _, h, _, _ => ⟨(fun x hx => by cases hx), h, fun x hx => by cases hx⟩
  | w :: r, d, h, hL, l => by
    have hw := hL w (by simp)
    have hr := fun x hx => hL x (List.mem_cons_of_mem _ hx)
    have lift : ∀ {M : List Wch}, (∀ x ∈ M, ∃ y ∈ r, x.q = y.q ∧ x.n = y.n) → ∀ x ∈ M, ∃ y ∈ w :: r, x.q = y.q ∧ x.n = y.n := fun h x hx => by
      obtain ⟨y, hy, e⟩ := h x hx
      exact ⟨y, List.mem_cons_of_mem _ hy, e⟩
    rw [Det.look]
    split
    · have ih := Ni.look hA r (h.miss hA hw.2 l) hr (d.miss k w.n l).2
      exact ⟨ih.1, ih.2.1, lift ih.2.2⟩
    · split
      · have ha := Ni.helps w hw.1 (Rn.helpS (othS k d.f) w.n 2 l).1 h
        have ih := Ni.look hA r (d := (d.ask k w l).2.1) ha.2 hr (d.ask k w l).2.2
        refine ⟨fun x hx => ?_, ih.2.1, fun x hx => ?_⟩
        · rcases List.mem_append.1 hx with hx | hx
          · exact ha.1 x hx
          · exact ih.1 x hx
        · rcases List.mem_cons.1 hx with rfl | hx
          · exact ⟨w, by simp, rfl, rfl⟩
          · exact lift ih.2.2 x hx
      · have ih := Ni.look hA r h hr l
        refine ⟨ih.1, ih.2.1, fun x hx => ?_⟩
        rcases List.mem_cons.1 hx with rfl | hx
        · exact ⟨x, by simp, rfl, rfl⟩
        · exact lift ih.2.2 x hx
theorem Ni.dead (hA : Cls A I k) : ∀ (U : List Upd) {d : Det} (_ : Ni A I k d) (_ : ∀ u ∈ U, A u) (l : List Int), Ni A I k (d.dead k U l).1
  | [], _, h, _, _ => h
  | u :: r, d, h, hU, l => by
    rw [Det.dead]
    exact Ni.dead hA r (h.take hA (hU u (by simp)) k l) (fun v hv => hU v (by simp [hv])) _
theorem Ni.pingNext (h : Ni A I k d) (l : List Int) : (∀ x ∈ (d.pingNext k l).1, Nin A x) ∧ Ni A I k (d.pingNext k l).2.1 := by
  unfold Det.pingNext
  split
  · exact ⟨(fun x hx => by cases hx), ⟨h.m, h.f, h.n, h.Q, h.D, h.E, h.W⟩⟩
  · dsimp only
    have h' : Ni A I k ({ d with s := (Rn.nxtS d.s (othS k d.f) l).2.1 } : Det) := ⟨h.m, h.f, h.n, h.Q, h.D, h.E, h.W⟩
    have h1 : Ni A I k (({ d with s := (Rn.nxtS d.s (othS k d.f) l).2.1 } : Det).next) := ⟨h.m, h.f, h.n, h.Q, h.D, h.E, h.W⟩
    have h2 := h1.told (Rn.nxtS d.s (othS k d.f) l).1.1
    refine ⟨fun x hx => by obtain rfl := List.mem_singleton.1 hx; exact h'.note _ _ _ _ _ _ (u64w_ok _), ⟨h2.m, h2.f, h2.n, h2.Q, h2.D, h2.E, fun x hx => ?_⟩⟩
    rcases List.mem_append.1 hx with hx | hx
    · exact h.W x hx
    · obtain rfl := List.mem_singleton.1 hx
      exact u64w_ok _
theorem Ni.tick (hA : Cls A I k) (h : Ni A I k d) (hW : ∀ x ∈ d.W, ∀ i, A ⟨x.n, i, 0⟩ → A ⟨x.n, i, 1⟩) (l : List Int) : (∀ x ∈ (d.tick k l).1, Nin A x) ∧ Ni A I k (d.tick k l).2.1 := by
  unfold Det.tick
  split
  · exact ⟨(fun x hx => by cases hx), h⟩
  · dsimp only
    have h0 : Ni A I k ({ d with no := u64w (d.no + 1) } : Det) := ⟨h.m, h.f, h.n, h.Q, h.D, h.E, h.W⟩
    have hl := Ni.look hA d.W h0 (fun x hx => ⟨h.W x hx, hW x hx⟩) l
    have ha : (∀ x ∈ (({ d with no := u64w (d.no + 1) } : Det).lookAfter k l).1, Nin A x) ∧ Ni A I k (({ d with no := u64w (d.no + 1) } : Det).lookAfter k l).2.1 :=
      ⟨hl.1, ⟨hl.2.1.m, hl.2.1.f, hl.2.1.n, hl.2.1.Q, hl.2.1.D, hl.2.1.E, fun x hx => by
        obtain ⟨y, hy, e, _⟩ := hl.2.2 x hx
        rw [e]; exact h.W y hy⟩⟩
    generalize ({ d with no := u64w (d.no + 1) } : Det).lookAfter k l = R at *
    have h2 : Ni A I k ({ R.2.1 with E := R.2.1.E.filter (fun x => !decide (4 ≤ u64w (R.2.1.no - x.a))), D := Do.stayD R.2.1.D R.2.1.no } : Det) :=
      ⟨ha.2.m, ha.2.f, ha.2.n, ha.2.Q, fun x hx => ha.2.D x (List.mem_filter.1 hx).1, fun x hx => ha.2.E x (List.mem_filter.1 hx).1, ha.2.W⟩
    have h3 := Ni.dead hA ((Do.overD R.2.1.D R.2.1.no).map Do.deadOf) h2 (fun u hu => by
      obtain ⟨x, hx, rfl⟩ := List.mem_map.1 hu
      exact ha.2.D x (List.mem_filter.1 hx).1) R.2.2
    have h4 := Ni.pingNext h3 ((({ R.2.1 with E := R.2.1.E.filter (fun x => !decide (4 ≤ u64w (R.2.1.no - x.a))), D := Do.stayD R.2.1.D R.2.1.no } : Det).dead k ((Do.overD R.2.1.D R.2.1.no).map Do.deadOf) R.2.2).2)
    refine ⟨fun x hx => ?_, h4.2⟩
    rcases List.mem_append.1 hx with hx | hx
    · exact ha.1 x hx
    · exact h4.1 x hx
theorem Ni.new (h0 : A ⟨k, 0, 0⟩) (hI : I 0) : Ni A I k (Det.new k) := by
  refine Ni.tell (d := ⟨newS k, [], [], [], [], [], 0, 0, false⟩) ⟨⟨0, show newS k k = some ⟨k, 0, 0⟩ from Tab.set_same _ _ _, hI⟩, fun j u hu => ?_, fun j u hu => ?_, (fun x hx => by cases hx), (fun x hx => by cases hx), (fun x hx => by cases hx), (fun x hx => by cases hx)⟩ h0
  · have hu' : newS k j = some u := hu
    unfold newS at hu'
    by_cases e : j = k
    · subst e; rw [Tab.set_same] at hu'; rw [← Option.some.inj hu']; exact h0
    · rw [Tab.set_other _ _ e] at hu'; cases hu'
  · have hu' : newS k j = some u := hu
    unfold newS at hu'
    by_cases e : j = k
    · subst e; rw [Tab.set_same] at hu'; rw [← Option.some.inj hu']
    · rw [Tab.set_other _ _ e] at hu'; cases hu'
theorem hear_len (k : Nat) (d : Det) (n : Nte) (l : List Int) : (d.hear k n l).1.1.length ≤ 1 := by
  unfold Det.hear
  split
  · exact Nat.zero_le _
  · dsimp only
    split
    · exact Nat.zero_le _
    · unfold Det.answer
      split
      · exact Nat.le_refl _
      · split
        · unfold Det.acked
          split
          · exact Nat.le_refl _
          · exact Nat.zero_le _
        · unfold Det.helped
          split
          · exact Nat.le_refl _
          · exact Nat.le_refl _
end
/-- Any updates with numbers that may be. -/
def A64 (u : Upd) : Prop := U64 u.i
theorem cls64 (k : Nat) : Cls A64 U64 k :=
  ⟨fun _ h _ => h, fun u i h _ _ _ hne => by
    have h1 : U64 u.i := h
    have : U64 (u.i + 1) := ⟨by have := h1.1; omega, by have := h1.2; omega⟩
    exact ⟨this, this⟩⟩
end Go.Proofs.YtpoofjnfaijjjaaGreatDoor
