/-
  DoubtNew.
-/
import Derived.Test.YtahiiieifdhgeaaWaa
namespace Go.Proofs.Ytahiiieifdhgeaa
open Go.RowKit Go.Maps

structure Sn (w0 : World) (gu gv : Nat) (a b : Int) (W : World) : Prop where
  bu : Bx 34 gu 4 a 1 W
  bv : Bx 34 gv 4 b 1 W
  bel : Below w0.heap.size w0 W
section
variable {w0 : World} {gu gv : Nat} {a b : Int} {W W' : World}
theorem Sn.below (h : Sn w0 gu gv a b W) (k : Below W.heap.size W W') : Sn w0 gu gv a b W' := ⟨h.bu.below k, h.bv.below k, h.bel.trans (k.mono h.bel.size)⟩
theorem Sn.mv {p : Nat} {m m' : Option Nat} (h : Sn w0 gu gv a b W) (k : Mv p m m' W W') (hu : gu ≠ p) (hum : some gu ≠ m) (hv : gv ≠ p) (hvm : some gv ≠ m) (hp : w0.heap.size ≤ p) (hm : ∀ b, m = some b → w0.heap.size ≤ b) : Sn w0 gu gv a b W' :=
  ⟨h.bu.keep (k.block gu h.bu.lt hu hum), h.bv.keep (k.block gv h.bv.lt hv hvm), h.bel.trans (k.to h.bel.size hp hm)⟩
end
/-- A block that was there is not where a map was made anew. -/
theorem Mv.not_at {p : Nat} {m' : Option Nat} {W W' : World} (h : Mv p none m' W W') {g : Nat} (hg : g < W.heap.size) : some g ≠ m' := by
  intro e
  rcases h.at_ with e' | e'
  · rw [e'] at e; cases e
  · have := e' g e.symm
    omega

/-- What the second Raise answers. -/
theorem new_two (a b now nodes : Int) : ∃ y f z, raiseS [newD 4 a 1 now nodes Re.two] 4 b 1 1 (now + 5) nodes Re.two = (y, f, [z]) ∧ z.n = 4 ∧ z.s = 1 ∧
    ((a < b ∧ y = true ∧ f = 0 ∧ z.i = b ∧ z.a = now + 5 ∧ z.t = 0) ∨ (¬ a < b ∧ b = a ∧ y = false ∧ f = 0 ∧ z.i = a ∧ z.a = now) ∨ (¬ a < b ∧ b < a ∧ y = false ∧ f = 70 ∧ z.i = a)) := by
  have hg : getD [newD 4 a 1 now nodes Re.two] 4 = newD 4 a 1 now nodes Re.two := rfl
  have hh : hasD [newD 4 a 1 now nodes Re.two] 4 = true := rfl
  have hi : (getD [newD 4 a 1 now nodes Re.two] 4).i = a := rfl
  have hf : Bnd.hasS (getD [newD 4 a 1 now nodes Re.two] 4).f 1 = true := by rw [hg]; show Bnd.hasS (Bnd.withS 0 1) 1 = true; decide
  have ha : argS 4 1 1 = true := by decide
  rcases Int.lt_trichotomy a b with h | h | h
  · refine ⟨_, _, newD 4 b 1 (now + 5) nodes Re.two, raise_is_new ha (Or.inr (by rw [hi]; exact h)), rfl, rfl, Or.inl ⟨h, rfl, rfl, rfl, rfl, rfl⟩⟩
  · refine ⟨_, _, newD 4 a 1 now nodes Re.two, raise_is_told ha hh (by rw [hi]; exact h) hf, rfl, rfl, Or.inr (Or.inl ⟨by omega, h.symm, rfl, rfl, rfl, rfl⟩)⟩
  · refine ⟨_, _, newD 4 a 1 now nodes Re.two, raise_is_old ha hh (by rw [hi]; exact h), rfl, rfl, Or.inr (Or.inr ⟨by omega, h, rfl, rfl, rfl⟩)⟩

set_option maxRecDepth 100000 in
set_option maxHeartbeats 4000000 in
theorem new_core (a b now nodes : Int) (ha : 0 ≤ a ∧ a ≤ 4294967295) (hb : 0 ≤ b ∧ b ≤ 4294967295) (hnow : 0 ≤ now ∧ now ≤ 4294967295) (hnd : 0 ≤ nodes ∧ nodes ≤ 255) (w : World) :
    Calls Try.prog 6 #[.int .u32 a, .int .u32 b, .int .u32 now, .int .u8 nodes] w fun e w' => e = .returned (.bool true) ∧ Below w.heap.size w w' := by
  obtain ⟨y, f, z, h2, zn, zs, hcs⟩ := new_two a b now nodes
  have b1 := below_alloc w (.cells #[.map none] 27)
  have hQ := Du.new w
  obtain ⟨w1, HW1⟩ : ∃ w1, Hid (w1 = w.alloc (.cells #[.map none] 27)) := ⟨_, rfl⟩
  rw [← HW1.out] at b1 hQ
  have b2 := below_alloc w1 (.cells #[.int .i64 4, .int .u64 a, .int .i64 1] 34)
  have hU := Bx.new 34 4 a 1 w1
  have hQ2 := hQ.below b2
  obtain ⟨w2, HW2⟩ : ∃ w2, Hid (w2 = w1.alloc (.cells #[.int .i64 4, .int .u64 a, .int .i64 1] 34)) := ⟨_, rfl⟩
  rw [← HW2.out] at b2 hU hQ2
  have b3 := below_alloc w2 (.cells #[.int .i64 4, .int .u64 b, .int .i64 1] 34)
  have hV := Bx.new 34 4 b 1 w2
  have hQ3 := hQ2.below b3
  have hU3 := hU.below b3
  obtain ⟨w3, HW3⟩ : ∃ w3, Hid (w3 = w2.alloc (.cells #[.int .i64 4, .int .u64 b, .int .i64 1] 34)) := ⟨_, rfl⟩
  rw [← HW3.out] at b3 hV hQ3 hU3
  obtain ⟨G, HG⟩ : ∃ G, Hid (w.heap.size = G) := ⟨_, rfl⟩
  have hs1 : w1.heap.size = G + 1 := by rw [← HG.out, HW1.out]; simp
  have hs2 : w2.heap.size = G + 1 + 1 := by rw [HW2.out, ← hs1]; simp
  have hbb : Below w.heap.size w w3 := (b1.trans (b2.mono b1.size)).trans (b3.mono (Nat.le_trans b1.size b2.size))
  have hS3 : Sn w (G + 1) (G + 1 + 1) a b w3 := ⟨by rw [← hs1]; exact hU3, by rw [← hs2]; exact hV, hbb⟩
  rw [HG.out] at hQ3
  have hr1 := raise_any G none [] 4 a 1 1 now nodes Re.two (by omega) (by omega) two_word (by omega) w3 hQ3
  have hrs : raiseS [] 4 a 1 1 now nodes Re.two = (true, 0, [newD 4 a 1 now nodes Re.two]) := raise_is_new (by decide) (Or.inl rfl)
  rw [hrs] at hr1
  simp only at hr1
  have hr2 := fun m W => raise_any G m [newD 4 a 1 now nodes Re.two] 4 b 1 1 (now + 5) nodes Re.two (by omega) (by omega) two_word (by omega) W
  rw [h2] at hr2
  simp only at hr2
  generalize [newD 4 a 1 now nodes Re.two] = L1 at *
  unfold Re.two at hr1 hr2
  have hal := fun m W => all_any G m [z] W
  have u0 := hS3.bu.c0
  have u1 := hS3.bu.c1
  have u2 := hS3.bu.c2
  have hGw : w.heap.size ≤ G := by rw [HG.out]; exact Nat.le_refl _
  have heqa := fun W => run_eqlU ⟨4, a, 1⟩ ⟨4, a, 1⟩ W
  have heqb := fun W => run_eqlU ⟨4, b, 1⟩ ⟨4, b, 1⟩ W
  rw [show eqU ⟨4, a, 1⟩ ⟨4, a, 1⟩ = true from by simp [eqU]] at heqa
  rw [show eqU ⟨4, b, 1⟩ ⟨4, b, 1⟩ = true from by simp [eqU]] at heqb
  simp only at heqa heqb
  have hwx : IntKind.u64.wrap (now + 5) = now + 5 := by simp [IntKind.wrap, IntKind.bits, IntKind.signed]; omega
  have hwn : IntKind.u64.wrap now = now := by simp [IntKind.wrap, IntKind.bits, IntKind.signed]; omega
  clear hQ hQ2 hQ3 hU hU3 hV hs1 hs2 b1 b2 b3 hbb hrs h2
  rcases hcs with ⟨q1, rfl, rfl, zi, za, zt⟩ | ⟨q1, q2, rfl, rfl, zi, za⟩ | ⟨q1, q2, rfl, rfl, zi⟩
  all_goals
    try have q2' : (b == a) = true := by simpa using q2
    try have q2' : (b == a) = false := by simp; omega
    try clear q2
    go_enter Try.func6, Try.ntmps6
    go_upto_region 4 with fail
    rw [← HW1.out, ← HW2.out, ← HW3.out, HG.out]
    go_wp2_with fail
    refine hr1.mono ?_
    rintro e w4 ⟨rfl, m4, hQ4, hmv4⟩
    have hS4 := hS3.mv hmv4 (by omega) (by simp) (by omega) (by simp) hGw (fun b e => by cases e)
    have hn1 := hmv4.not_at hS3.bu.lt
    have hn2 := hmv4.not_at hS3.bv.lt
    have hf4 := hmv4.from_ hS3.bel.size (fun b e => by cases e)
    have v0 := hS4.bv.c0
    have v1 := hS4.bv.c1
    have v2 := hS4.bv.c2
    go_wp2_with fail
    refine (hr2 _ _ hQ4).mono ?_
    rintro e w5 ⟨rfl, m5, hQ5, hmv5⟩
    have hS5 := hS4.mv hmv5 (by omega) hn1 (by omega) hn2 hGw hf4
    go_wp2_with fail
    refine (hal _ _ hQ5).mono ?_
    rintro e w6 ⟨⟨v, rfl, hO⟩, hb6⟩
    obtain ⟨g, cap, rfl, hcap, hg1, hg2, hrow⟩ := hO.one
    have hS6 := hS5.below hb6
    go_wp2_with fail
    refine (shown_any _).mono ?_
    rintro e w7 ⟨rfl, hb7⟩
    have hS7 := hS6.below hb7
    obtain ⟨d0, d1, d2, d3, d4, d5, d6⟩ := hrow.below hb7
    rw [zn] at d0
    rw [zi] at d1
    rw [zs] at d2
    try rw [za] at d4
    try rw [zt] at d5
    have a0 := hS7.bu.c0
    have a1 := hS7.bu.c1
    have a2 := hS7.bu.c2
    have c0 := hS7.bv.c0
    have c1 := hS7.bv.c1
    have c2 := hS7.bv.c2
    rw [Nat.zero_add] at d1 d2 d3 d4 d5 d6
    clear hrow hO hb6 hb7 hmv4 hmv5 hS3 hS4 hS5 hS6 hQ4 hQ5 hr1 hr2 hal u0 u1 u2 v0 v1 v2
    go_wp2_with fail
    go_quiet (fail)
    go_wp2_with fail
    go_ret
    exact ⟨rfl, hS7.bel.trans (below_drewN _ _ _)⟩
end Go.Proofs.Ytahiiieifdhgeaa
