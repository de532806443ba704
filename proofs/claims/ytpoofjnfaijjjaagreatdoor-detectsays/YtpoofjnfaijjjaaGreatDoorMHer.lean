/-
  Watches, Errands, answers. fault. Hear.
-/
import Derived.Test.YtpoofjnfaijjjaaGreatDoorMClu
import Derived.Test.YtpoofjnfaijjjaaGreatDoorMTkd
import Derived.Test.YtpoofjnfaijjjaaGreatDoorMAcm
import Derived.Test.YtpoofjnfaijjjaaGreatDoorMTal
import Derived.Test.YtpoofjnfaijjjaaGreatDoorMHlp
namespace Go.Proofs.YtpoofjnfaijjjaaGreatDoor
open Go.RowKit Go.Proofs.YtpoofjnfaijjjaaGreatDoor.Ro
/-- Block g holds four functions. -/
structure F4 (g : Nat) (a b c d : Value) (w : World) : Prop where
  heap : w.heap[g]? = some (.cells #[a, b, c, d] 125 (0, 0))
section
variable {g : Nat} {a b c d : Value} {w : World}
theorem F4.c0 (h : F4 g a b c d w) : w.cell? ⟨g, 0, none⟩ = some a := by simp [World.cell?, h.heap]
theorem F4.c1 (h : F4 g a b c d w) : w.cell? ⟨g, 1, none⟩ = some b := by simp [World.cell?, h.heap]
theorem F4.c2 (h : F4 g a b c d w) : w.cell? ⟨g, 2, none⟩ = some c := by simp [World.cell?, h.heap]
theorem F4.c3 (h : F4 g a b c d w) : w.cell? ⟨g, 3, none⟩ = some d := by simp [World.cell?, h.heap]
theorem F4.free (h : F4 g a b c d w) (j : Nat) : w.frozen? ⟨g, j, none⟩ = false := free_of h.heap j
theorem F4.new (a b c d : Value) (w : World) : F4 w.heap.size a b c d (w.alloc (.cells #[a, b, c, d] 125)) := ⟨heap_alloc_new w _⟩
theorem F4.set (h : F4 g a b c d w) (x y z u : Value) : F4 g x y z u ((((w.setCell ⟨g, 0, none⟩ x).setCell ⟨g, 1, none⟩ y).setCell ⟨g, 2, none⟩ z).setCell ⟨g, 3, none⟩ u) := ⟨by simp [World.setCell, Array.getElem?_modify, h.heap]⟩
end
section
variable {k Bp p : Nat} {b : Bl} {d : Det} {l : List Int} {w : World}
set_option maxRecDepth 100000 in
theorem answers_any (w : World) :
    Calls Tryz.prog 54 #[] w fun e w' => e = .returned (.agg #[.nilFunc, .func (.func 103) #[] #[], .func (.func 104) #[] #[], .func (.func 105) #[] #[]]) ∧ Below w.heap.size w w' := by
  have ba := below_alloc w (.cells #[.nilFunc, .nilFunc, .nilFunc, .nilFunc] 125)
  have hF := F4.new .nilFunc .nilFunc .nilFunc .nilFunc w
  obtain ⟨w1, HW1⟩ : ∃ w1, Hid (w1 = w.alloc (.cells #[.nilFunc, .nilFunc, .nilFunc, .nilFunc] 125)) := ⟨_, rfl⟩
  rw [← HW1.out] at ba hF
  have hE := hF.set .nilFunc (.func (.func 103) #[] #[]) (.func (.func 104) #[] #[]) (.func (.func 105) #[] #[])
  have hb := (((ba.setCell (p := ⟨w.heap.size, 0, none⟩) (Nat.le_refl _) .nilFunc).setCell (p := ⟨w.heap.size, 1, none⟩) (Nat.le_refl _) (.func (.func 103) #[] #[])).setCell (p := ⟨w.heap.size, 2, none⟩) (Nat.le_refl _) (.func (.func 104) #[] #[])).setCell (p := ⟨w.heap.size, 3, none⟩) (Nat.le_refl _) (.func (.func 105) #[] #[])
  have x0 := hF.c0
  have x1 := hF.c1
  have x2 := hF.c2
  have x3 := hF.c3
  have f0 := hF.free 0
  have f1 := hF.free 1
  have f2 := hF.free 2
  have f3 := hF.free 3
  have hst0 := fun a w m => run_store Tryz.prog w a .nilFunc m rfl
  have hstf := fun a f w m => run_store Tryz.prog w a (.func (.func f) #[] #[]) m rfl
  go_enter Tryz.func54, Tryz.ntmps54
  go_upto_region 1 with fail
  rw [← HW1.out]
  go_wp2_with fail
  have y0 := hE.c0
  have y1 := hE.c1
  have y2 := hE.c2
  have y3 := hE.c3
  refine bodyPost_ret (v := .agg #[.nilFunc, .func (.func 103) #[] #[], .func (.func 104) #[] #[], .func (.func 105) #[] #[]]) ?_ rfl ⟨rfl, hb⟩
  rw [results_cell rfl]
  go_simp
set_option maxRecDepth 100000 in
theorem watches_any (h : Sx k Bp p b d l w) (hl : d.W.length ≤ 1000000) :
    Calls Tryz.prog 57 #[.pointer (some ⟨b.q, 0, none⟩)] w fun e w' => (∃ v', e = .returned v' ∧ OwE encW 133 w.heap.size v' d.W w') ∧ Below w.heap.size w w' := by
  have c4 := h.dt.c4
  have hc := cloneW_any b.vw d.W w hl h.dt.ws
  obtain ⟨va, vcap, hve, _, _⟩ := h.dt.ws.len
  rw [hve] at c4 hc
  go_enter Tryz.func57, Tryz.ntmps57
  go_wp2_with fail
  refine hc.mono ?_
  rintro e w2 ⟨⟨v', rfl, hO⟩, hb⟩
  obtain ⟨a, L, c, rfl⟩ : ∃ a L c, v' = .slice a L c := by obtain ⟨a, cap, e, _⟩ := hO.len; exact ⟨a, _, cap, e⟩
  go_wp2_with fail
  go_ret
  exact ⟨⟨_, rfl, hO⟩, hb⟩
set_option maxRecDepth 100000 in
theorem errands_any (h : Sx k Bp p b d l w) :
    Calls Tryz.prog 58 #[.pointer (some ⟨b.q, 0, none⟩)] w fun e w' => (∃ v', e = .returned v' ∧ OwE encE 112 w.heap.size v' d.E w') ∧ Below w.heap.size w w' := by
  have c4 := h.dt.c5
  have hc := cloneE_any b.ve d.E w (by have := h.dt.ok.el; omega) h.dt.es
  obtain ⟨va, vcap, hve, _, _⟩ := h.dt.es.len
  rw [hve] at c4 hc
  go_enter Tryz.func58, Tryz.ntmps58
  go_wp2_with fail
  refine hc.mono ?_
  rintro e w2 ⟨⟨v', rfl, hO⟩, hb⟩
  obtain ⟨a, L, c, rfl⟩ : ∃ a L c, v' = .slice a L c := by obtain ⟨a, cap, e, _⟩ := hO.len; exact ⟨a, _, cap, e⟩
  go_wp2_with fail
  go_ret
  exact ⟨⟨_, rfl, hO⟩, hb⟩
end
end Go.Proofs.YtpoofjnfaijjjaaGreatDoor
namespace Go.Proofs.YtpoofjnfaijjjaaGreatDoor
open Go.RowKit Go.Proofs.YtpoofjnfaijjjaaGreatDoor.Ro
section
variable {k Bp p : Nat} {b : Bl} {d : Det} {l : List Int} {w : World}
/-- What a region that reads keeps: the detector, and the box of the note. -/
structure Jn (k Bp p : Nat) (b : Bl) (d : Det) (l : List Int) (g : Nat) (K F T Q O : Int) (v : Value) (w0 w : World) : Prop where
  st : Sx k Bp p b d l w
  box : Bn g K F T Q O v w
  below : Below w0.heap.size w0 w
section
variable {g : Nat} {K F T Q O : Int} {v : Value} {w0 w' : World}
theorem Jn.later (h : Jn k Bp p b d l g K F T Q O v w0 w) (hb : Below w.heap.size w w') : Jn k Bp p b d l g K F T Q O v w0 w' := ⟨h.st.below hb, h.box.below hb, bT h.below hb⟩
theorem Jn.drew (h : Jn k Bp p b d l g K F T Q O v w0 w) : Jn k Bp p b d l g K F T Q O v w0 w.drew := ⟨h.st.drew, h.box.drew, bD h.below⟩
theorem Jn.on {x : Kept (Jn k Bp p b d l g K F T Q O v w0)} (hb : Below x.at_.heap.size x.at_ w') : ∃ y : Kept (Jn k Bp p b d l g K F T Q O v w0), w' = y.at_ := ⟨⟨w', x.is.later hb⟩, rfl⟩
theorem Jn.st' {x : Kept (Jn k Bp p b d l g K F T Q O v w0)} : Sx k Bp p b d l x.at_ := x.is.st
end

set_option maxRecDepth 100000 in
set_option maxHeartbeats 4000000 in
theorem fault_any (h : Sx k Bp p b d l w) (n : Nte) (na : Option Addr) (nl nc : Nat) :
    Calls Tryz.prog 52 #[.pointer (some ⟨b.q, 0, none⟩), ntV n (.slice na nl nc)] w fun e w' => e = .returned (.int .i64 (d.fault k n)) ∧ Below w.heap.size w w' := by
  obtain ⟨K, F, T, Q, O, U⟩ := n
  have ba := below_alloc w (.cells (ntC K F T Q O (.slice na nl nc)) 37)
  have hN := Bn.new K F T Q O (.slice na nl nc) w
  have h1 := h.below ba
  obtain ⟨w1, HW1⟩ : ∃ w1, Hid (w1 = w.alloc (.cells (ntC K F T Q O (.slice na nl nc)) 37)) := ⟨_, rfl⟩
  rw [← HW1.out] at ba hN h1
  obtain ⟨R, HR⟩ : ∃ R, Hid (d.fault k ⟨K, F, T, Q, O, U⟩ = R) := ⟨_, rfl⟩
  rw [HR.out]
  have HR' : Hid (R = if d.le = true then 5 else if T ≠ (k : Int) ∨ F = (k : Int) ∨ nodeB F = false ∨ nodeB O = false then 1 else if K < 1 ∨ 3 < K then 150 else 0) := HR.out.symm
  clear HR
  have c8 := h1.dt.c8
  cases hle : d.le
  case true =>
    rw [hle] at c8
    rw [if_pos hle] at HR'
    go_enter Tryz.func52, Tryz.ntmps52
    go_upto_region 1 with fail
    rw [← HW1.out]
    go_wp2_with fail
    go_ret
    rw [HR'.out]
    exact ⟨rfl, ba⟩
  case false =>
  rw [hle] at c8
  rw [if_neg (by rw [hle]; decide)] at HR'
  clear hle
  have hJ : Jn k Bp p b d l w.heap.size K F T Q O (.slice na nl nc) w w1 := ⟨h1, hN, ba⟩
  have hne : Nonempty (Kept (Jn k Bp p b d l w.heap.size K F T Q O (.slice na nl nc) w)) := ⟨⟨_, hJ⟩⟩
  have k1 : ∀ x : Kept (Jn k Bp p b d l w.heap.size K F T Q O (.slice na nl nc) w), x.at_.cell? ⟨w.heap.size, 1, none⟩ = some (.int .i64 F) := fun x => x.is.box.c1
  have k2 : ∀ x : Kept (Jn k Bp p b d l w.heap.size K F T Q O (.slice na nl nc) w), x.at_.cell? ⟨w.heap.size, 2, none⟩ = some (.int .i64 T) := fun x => x.is.box.c2
  have k4 : ∀ x : Kept (Jn k Bp p b d l w.heap.size K F T Q O (.slice na nl nc) w), x.at_.cell? ⟨w.heap.size, 4, none⟩ = some (.int .i64 O) := fun x => x.is.box.c4
  have hnF := fun w' => isnode_any F w'
  have hnO := fun w' => isnode_any O w'
  cases hT : (T != (k : Int))
  case true =>
    have e : T ≠ (k : Int) := by simpa using hT
    rw [if_pos (Or.inl e)] at HR'
    clear e
    go_enter Tryz.func52, Tryz.ntmps52
    go_upto_region 1 with fail
    rw [← HW1.out]
    go_wp2_with fail
    refine wp_region_kept (Jn k Bp p b d l w.heap.size K F T Q O (.slice na nl nc) w) (by kernel_rfl) (by kernel_rfl) hJ.drew ?_
    repeat (go_big_quiet_step (first
      | (refine (me_any Jn.st').mono ?_; rintro e w4 ⟨rfl, hb4⟩; exact ⟨rfl, Jn.on hb4⟩)
      | (refine (hnF _).mono ?_; rintro e w4 ⟨rfl, hw4⟩; exact ⟨rfl, _, hw4⟩)
      | (refine (hnO _).mono ?_; rintro e w4 ⟨rfl, hw4⟩; exact ⟨rfl, _, hw4⟩)))
    refine wpQuiet_nil ?_
    intro w5 h5
    go_wp2_with fail
    go_ret
    rw [HR'.out]
    exact ⟨rfl, h5.below⟩
  case false =>
  have eT : Hid (¬ T ≠ (k : Int)) := by show ¬ _; simpa using hT
  cases hF : (F == (k : Int))
  case true =>
    have e : F = (k : Int) := by simpa using hF
    rw [if_pos (Or.inr (Or.inl e))] at HR'
    clear e
    go_enter Tryz.func52, Tryz.ntmps52
    go_upto_region 1 with fail
    rw [← HW1.out]
    go_wp2_with fail
    refine wp_region_kept (Jn k Bp p b d l w.heap.size K F T Q O (.slice na nl nc) w) (by kernel_rfl) (by kernel_rfl) hJ.drew ?_
    repeat (go_big_quiet_step (first
      | (refine (me_any Jn.st').mono ?_; rintro e w4 ⟨rfl, hb4⟩; exact ⟨rfl, Jn.on hb4⟩)
      | (refine (hnF _).mono ?_; rintro e w4 ⟨rfl, hw4⟩; exact ⟨rfl, _, hw4⟩)
      | (refine (hnO _).mono ?_; rintro e w4 ⟨rfl, hw4⟩; exact ⟨rfl, _, hw4⟩)))
    refine wpQuiet_nil ?_
    intro w5 h5
    go_wp2_with fail
    go_ret
    rw [HR'.out]
    exact ⟨rfl, h5.below⟩
  case false =>
  have eF : Hid (¬ F = (k : Int)) := by show ¬ _; simpa using hF
  cases hb1 : nodeB F
  case false =>
    rw [if_pos (Or.inr (Or.inr (Or.inl hb1)))] at HR'
    rw [hb1] at hnF
    go_enter Tryz.func52, Tryz.ntmps52
    go_upto_region 1 with fail
    rw [← HW1.out]
    go_wp2_with fail
    refine wp_region_kept (Jn k Bp p b d l w.heap.size K F T Q O (.slice na nl nc) w) (by kernel_rfl) (by kernel_rfl) hJ.drew ?_
    repeat (go_big_quiet_step (first
      | (refine (me_any Jn.st').mono ?_; rintro e w4 ⟨rfl, hb4⟩; exact ⟨rfl, Jn.on hb4⟩)
      | (refine (hnF _).mono ?_; rintro e w4 ⟨rfl, hw4⟩; exact ⟨rfl, _, hw4⟩)
      | (refine (hnO _).mono ?_; rintro e w4 ⟨rfl, hw4⟩; exact ⟨rfl, _, hw4⟩)))
    refine wpQuiet_nil ?_
    intro w5 h5
    go_wp2_with fail
    go_ret
    rw [HR'.out]
    exact ⟨rfl, h5.below⟩
  case true =>
  rw [hb1] at hnF
  cases hb2 : nodeB O
  case false =>
    rw [if_pos (Or.inr (Or.inr (Or.inr hb2)))] at HR'
    rw [hb2] at hnO
    go_enter Tryz.func52, Tryz.ntmps52
    go_upto_region 1 with fail
    rw [← HW1.out]
    go_wp2_with fail
    refine wp_region_kept (Jn k Bp p b d l w.heap.size K F T Q O (.slice na nl nc) w) (by kernel_rfl) (by kernel_rfl) hJ.drew ?_
    repeat (go_big_quiet_step (first
      | (refine (me_any Jn.st').mono ?_; rintro e w4 ⟨rfl, hb4⟩; exact ⟨rfl, Jn.on hb4⟩)
      | (refine (hnF _).mono ?_; rintro e w4 ⟨rfl, hw4⟩; exact ⟨rfl, _, hw4⟩)
      | (refine (hnO _).mono ?_; rintro e w4 ⟨rfl, hw4⟩; exact ⟨rfl, _, hw4⟩)))
    refine wpQuiet_nil ?_
    intro w5 h5
    go_wp2_with fail
    go_ret
    rw [HR'.out]
    exact ⟨rfl, h5.below⟩
  case true =>
  rw [hb2] at hnO
  rw [if_neg (by rw [hb1, hb2]; rintro (e | e | e | e); exact eT.out e; exact eF.out e; cases e; cases e)] at HR'
  clear hb1 hb2
  by_cases hK1 : K < 1
  · rw [if_pos (Or.inl hK1)] at HR'
    go_enter Tryz.func52, Tryz.ntmps52
    go_upto_region 1 with fail
    rw [← HW1.out]
    go_wp2_with fail
    refine wp_region_kept (Jn k Bp p b d l w.heap.size K F T Q O (.slice na nl nc) w) (by kernel_rfl) (by kernel_rfl) hJ.drew ?_
    repeat (go_big_quiet_step (first
      | (refine (me_any Jn.st').mono ?_; rintro e w4 ⟨rfl, hb4⟩; exact ⟨rfl, Jn.on hb4⟩)
      | (refine (hnF _).mono ?_; rintro e w4 ⟨rfl, hw4⟩; exact ⟨rfl, _, hw4⟩)
      | (refine (hnO _).mono ?_; rintro e w4 ⟨rfl, hw4⟩; exact ⟨rfl, _, hw4⟩)))
    refine wpQuiet_nil ?_
    intro w5 h5
    have x0 := h5.box.c0
    go_wp2_with fail
    go_ret
    rw [HR'.out]
    exact ⟨rfl, h5.below⟩
  · by_cases hK3 : 3 < K
    · rw [if_pos (Or.inr hK3)] at HR'
      go_enter Tryz.func52, Tryz.ntmps52
      go_upto_region 1 with fail
      rw [← HW1.out]
      go_wp2_with fail
      refine wp_region_kept (Jn k Bp p b d l w.heap.size K F T Q O (.slice na nl nc) w) (by kernel_rfl) (by kernel_rfl) hJ.drew ?_
      repeat (go_big_quiet_step (first
        | (refine (me_any Jn.st').mono ?_; rintro e w4 ⟨rfl, hb4⟩; exact ⟨rfl, Jn.on hb4⟩)
        | (refine (hnF _).mono ?_; rintro e w4 ⟨rfl, hw4⟩; exact ⟨rfl, _, hw4⟩)
        | (refine (hnO _).mono ?_; rintro e w4 ⟨rfl, hw4⟩; exact ⟨rfl, _, hw4⟩)))
      refine wpQuiet_nil ?_
      intro w5 h5
      have x0 := h5.box.c0
      go_wp2_with fail
      go_ret
      rw [HR'.out]
      exact ⟨rfl, h5.below⟩
    · rw [if_neg (by omega)] at HR'
      go_enter Tryz.func52, Tryz.ntmps52
      go_upto_region 1 with fail
      rw [← HW1.out]
      go_wp2_with fail
      refine wp_region_kept (Jn k Bp p b d l w.heap.size K F T Q O (.slice na nl nc) w) (by kernel_rfl) (by kernel_rfl) hJ.drew ?_
      repeat (go_big_quiet_step (first
        | (refine (me_any Jn.st').mono ?_; rintro e w4 ⟨rfl, hb4⟩; exact ⟨rfl, Jn.on hb4⟩)
        | (refine (hnF _).mono ?_; rintro e w4 ⟨rfl, hw4⟩; exact ⟨rfl, _, hw4⟩)
        | (refine (hnO _).mono ?_; rintro e w4 ⟨rfl, hw4⟩; exact ⟨rfl, _, hw4⟩)))
      refine wpQuiet_nil ?_
      intro w5 h5
      have x0 := h5.box.c0
      go_wp2_with fail
      go_ret
      rw [HR'.out]
      exact ⟨rfl, h5.below⟩
end
end Go.Proofs.YtpoofjnfaijjjaaGreatDoor
namespace Go.Proofs.YtpoofjnfaijjjaaGreatDoor
open Go.RowKit Go.Proofs.YtpoofjnfaijjjaaGreatDoor.Ro
section
variable {k Bp p : Nat} {b : Bl} {d : Det} {l : List Int} {w : World}

set_option maxRecDepth 100000 in
set_option maxHeartbeats 4000000 in
theorem hear_none (h : Sx k Bp p b d l w) (n : Nte) (na : Option Addr) (nl nc : Nat) (hf : d.fault k n ≠ 0) :
    Calls Tryz.prog 15 #[.pointer (some ⟨b.q, 0, none⟩), ntV n (.slice na nl nc), .pointer (some ⟨p, 0, none⟩)] w fun e w' => e = .returned (.tuple #[.slice none 0 0, .int .i64 (d.fault k n)]) ∧ Below w.heap.size w w' := by
  have hft := fun (w' : World) (h' : Sx k Bp p b d l w') => fault_any h' n na nl nc
  obtain ⟨K, F, T, Q, O, U⟩ := n
  have ba := below_alloc w (.cells (ntC K F T Q O (.slice na nl nc)) 37)
  have hN := Bn.new K F T Q O (.slice na nl nc) w
  have h1 := h.below ba
  obtain ⟨w1, HW1⟩ : ∃ w1, Hid (w1 = w.alloc (.cells (ntC K F T Q O (.slice na nl nc)) 37)) := ⟨_, rfl⟩
  rw [← HW1.out] at ba hN h1
  have hft1 := hft w1 h1
  obtain ⟨f, HF⟩ : ∃ f, Hid (d.fault k ⟨K, F, T, Q, O, U⟩ = f) := ⟨_, rfl⟩
  rw [HF.out] at hft1 hf ⊢
  have hfb : (f == 0) = false := by simpa using hf
  have x0 := hN.c0
  have x1 := hN.c1
  have x2 := hN.c2
  have x3 := hN.c3
  have x4 := hN.c4
  have x5 := hN.c5
  clear hft
  go_enter Tryz.func15, Tryz.ntmps15
  go_upto_region 1 with fail
  rw [← HW1.out]
  go_wp2_with fail
  refine hft1.mono ?_
  rintro e w2 ⟨rfl, hb2⟩
  go_wp2_with fail
  refine bodyPost_ret (v := .tuple #[.slice none 0 0, .int .i64 f]) (by simp [results, Tryz.results15, go_sem]) rfl ⟨rfl, bT ba hb2⟩

set_option maxRecDepth 100000 in
set_option maxHeartbeats 4000000 in
theorem hear_ended (h : Sx k Bp p b d l w) (n : Nte) (na : Option Addr) (nl nc : Nat) (hU : Ro.Ru (.slice na nl nc) n.u w) (hA : Nw p b w (.slice na nl nc) n.u) (hl : n.u.length ≤ 1000000) (hin : ∀ u ∈ n.u, U64 u.i) (hf : d.fault k n = 0)
    (he : ((d.first k n.f l).1.takes k n.f n.u (d.first k n.f l).2).1 ≠ 0) :
    Calls Tryz.prog 15 #[.pointer (some ⟨b.q, 0, none⟩), ntV n (.slice na nl nc), .pointer (some ⟨p, 0, none⟩)] w fun e w' => e = .returned (.tuple #[.slice none 0 0, .int .i64 ((d.first k n.f l).1.takes k n.f n.u (d.first k n.f l).2).1]) ∧ ∃ b', Sx k Bp p b' ((d.first k n.f l).1.takes k n.f n.u (d.first k n.f l).2).2.1 ((d.first k n.f l).1.takes k n.f n.u (d.first k n.f l).2).2.2 w' ∧ Stp p b w b' w' := by
  have hft := fun (w' : World) (h' : Sx k Bp p b d l w') => fault_any h' n na nl nc
  have hta := fun (w' : World) (h' : Sx k Bp p b d l w') hU hA => takeinall_any h' n na nl nc hU hA hl hin
  obtain ⟨K, F, T, Q, O, U⟩ := n
  have ba := below_alloc w (.cells (ntC K F T Q O (.slice na nl nc)) 37)
  have hN := Bn.new K F T Q O (.slice na nl nc) w
  have h1 := h.below ba
  obtain ⟨w1, HW1⟩ : ∃ w1, Hid (w1 = w.alloc (.cells (ntC K F T Q O (.slice na nl nc)) 37)) := ⟨_, rfl⟩
  rw [← HW1.out] at ba hN h1
  have hft1 := hft w1 h1
  rw [hf] at hft1
  dsimp only at he hta ⊢
  generalize (d.first k F l).1.takes k F U (d.first k F l).2 = R at *
  obtain ⟨R1, R2, R3⟩ := R
  dsimp only at he hta ⊢
  have hfb : (R1 == 0) = false := by simpa using he
  have x0 := hN.c0
  have x1 := hN.c1
  have x2 := hN.c2
  have x3 := hN.c3
  have x4 := hN.c4
  have x5 := hN.c5
  clear hft
  go_enter Tryz.func15, Tryz.ntmps15
  go_upto_region 1 with fail
  rw [← HW1.out]
  go_wp2_with fail
  refine hft1.mono ?_
  rintro e w2 ⟨rfl, hb2⟩
  have S2 : Stp p b w b w2 := (Stp.of ba).then hb2
  have hta2 := hta w2 (h1.below hb2) (ruK hU hA S2) (hA.stp S2)
  have hN2 := hN.below hb2
  clear x0 x1 x2 x3 x4 x5
  have x0 := hN2.c0
  have x1 := hN2.c1
  have x2 := hN2.c2
  have x3 := hN2.c3
  have x4 := hN2.c4
  have x5 := hN2.c5
  go_wp2_with fail
  refine hta2.mono ?_
  rintro e w3 ⟨rfl, b3, h3, s3⟩
  go_wp2_with fail
  exact bodyPost_ret (v := .tuple #[.slice none 0 0, .int .i64 R1]) (by simp [results, Tryz.results15, go_sem]) rfl ⟨rfl, b3, h3, S2.trans s3⟩
set_option maxRecDepth 100000 in
set_option maxHeartbeats 4000000 in
theorem hear_ping (h : Sx k Bp p b d l w) (n : Nte) (na : Option Addr) (nl nc : Nat) (hU : Ro.Ru (.slice na nl nc) n.u w) (hA : Nw p b w (.slice na nl nc) n.u) (hl : n.u.length ≤ 1000000) (hin : ∀ u ∈ n.u, U64 u.i) (hf : d.fault k n = 0)
    (he : ((d.first k n.f l).1.takes k n.f n.u (d.first k n.f l).2).1 = 0) (hk1 : n.k = 1) :
    Calls Tryz.prog 15 #[.pointer (some ⟨b.q, 0, none⟩), ntV n (.slice na nl nc), .pointer (some ⟨p, 0, none⟩)] w fun e w' => ∃ v X b', e = .returned (.tuple #[v, .int .i64 0]) ∧ Sd p b' w v X w' ∧ X.map NtX.n = (((d.first k n.f l).1.takes k n.f n.u (d.first k n.f l).2).2.1.answer k n).1 ∧ Sx k Bp p b' (((d.first k n.f l).1.takes k n.f n.u (d.first k n.f l).2).2.1.answer k n).2 ((d.first k n.f l).1.takes k n.f n.u (d.first k n.f l).2).2.2 w' ∧ Stp p b w b' w' := by
  have hft := fun (w' : World) (h' : Sx k Bp p b d l w') => fault_any h' n na nl nc
  have hta := fun (w' : World) (h' : Sx k Bp p b d l w') hU hA => takeinall_any h' n na nl nc hU hA hl hin
  obtain ⟨K, F, T, Q, O, U⟩ := n
  have ba := below_alloc w (.cells (ntC K F T Q O (.slice na nl nc)) 37)
  have hN := Bn.new K F T Q O (.slice na nl nc) w
  have h1 := h.below ba
  obtain ⟨w1, HW1⟩ : ∃ w1, Hid (w1 = w.alloc (.cells (ntC K F T Q O (.slice na nl nc)) 37)) := ⟨_, rfl⟩
  rw [← HW1.out] at ba hN h1
  have hft1 := hft w1 h1
  rw [hf] at hft1
  dsimp only at he hta hk1 ⊢
  subst hk1
  generalize (d.first k F l).1.takes k F U (d.first k F l).2 = R at *
  obtain ⟨R1, R2, R3⟩ := R
  dsimp only at he hta ⊢
  subst he
  have x0 := hN.c0
  have x1 := hN.c1
  have x2 := hN.c2
  have x3 := hN.c3
  have x4 := hN.c4
  have x5 := hN.c5
  clear hft
  go_enter Tryz.func15, Tryz.ntmps15
  go_upto_region 1 with fail
  rw [← HW1.out]
  go_wp2_with fail
  refine hft1.mono ?_
  rintro e w2 ⟨rfl, hb2⟩
  have S2 : Stp p b w b w2 := (Stp.of ba).then hb2
  have hta2 := hta w2 (h1.below hb2) (ruK hU hA S2) (hA.stp S2)
  have hN2 := hN.below hb2
  clear x0 x1 x2 x3 x4 x5
  have x0 := hN2.c0
  have x1 := hN2.c1
  have x2 := hN2.c2
  have x3 := hN2.c3
  have x4 := hN2.c4
  have x5 := hN2.c5
  go_wp2_with fail
  refine hta2.mono ?_
  rintro e w3 ⟨rfl, b3, h3, s3⟩
  have hAN := (h.away (Nat.le_refl _) hN.lt).stp (Stp.of hb2)
  have hN3 := hN2.stp hAN s3
  have hAN3 := hAN.stp s3
  have hq : b3.q = b.q := s3.q
  have hS3 := And.intro hN3.c0 (And.intro hN3.c1 (And.intro hN3.c2 (And.intro hN3.c3 (And.intro hN3.c4 hN3.c5))))
  clear x0 x1 x2 x3 x4 x5
  have hix : ∀ w : World, (Instr.index 125 (.agg #[.nilFunc, .func (.func 103) #[] #[], .func (.func 104) #[] #[], .func (.func 105) #[] #[]]) (.int .i64 1)).run Tryz.prog w = .ok (.func (.func 103) #[] #[]) w := fun w => by kernel_rfl
  go_upto_region 7 with fail
  go_region_held3 (fun w' => w'.cell? ⟨w.heap.size, 0, none⟩ = some (.int .i64 1) ∧ w'.cell? ⟨w.heap.size, 1, none⟩ = some (.int .i64 F) ∧ w'.cell? ⟨w.heap.size, 2, none⟩ = some (.int .i64 T) ∧ w'.cell? ⟨w.heap.size, 3, none⟩ = some (.int .u64 Q) ∧ w'.cell? ⟨w.heap.size, 4, none⟩ = some (.int .i64 O) ∧ w'.cell? ⟨w.heap.size, 5, none⟩ = some (.slice na nl nc)) (first | exact hS3 | exact hS4 | exact hS5) ((first
    | (go_at_call 54; go_must (refine (answers_any _).mono ?_; rintro e w4 ⟨rfl, hb4⟩; have h4 := h3.drew.below hb4; have hN4 := hN3.drew.below hb4; have hS4 := And.intro hN4.c0 (And.intro hN4.c1 (And.intro hN4.c2 (And.intro hN4.c3 (And.intro hN4.c4 hN4.c5))))))
    | (go_at_call 103; go_must (rw [← hq]; refine (pinged_any h4 1 F T Q O na nl nc).mono ?_; rintro e w5 ⟨v5, X5, rfl, hs5, hX5, h5, s5⟩; obtain ⟨a5, L5, c5, rfl⟩ : ∃ a L c, v5 = .slice a L c := (by obtain ⟨a, cap, e, _⟩ := hs5.row.len; exact ⟨a, _, cap, e⟩); have hN5 := hN4.stp (hAN3.drew.stp (Stp.of hb4)) s5; have hS5 := And.intro hN5.c0 (And.intro hN5.c1 (And.intro hN5.c2 (And.intro hN5.c3 (And.intro hN5.c4 hN5.c5))))))))
  have S5 := ((S2.trans s3).drew.then hb4)
  go_wp2_with fail
  unfold Det.answer
  rw [if_pos rfl]
  exact bodyPost_ret (v := .tuple #[.slice a5 L5 c5, .int .i64 0]) (by simp [results, Tryz.results15, go_sem]) rfl ⟨_, X5, b3, rfl, hs5.up S5.size, hX5, h5, S5.trans s5⟩

set_option maxRecDepth 100000 in
set_option maxHeartbeats 4000000 in
theorem hear_ack (h : Sx k Bp p b d l w) (n : Nte) (na : Option Addr) (nl nc : Nat) (hU : Ro.Ru (.slice na nl nc) n.u w) (hA : Nw p b w (.slice na nl nc) n.u) (hl : n.u.length ≤ 1000000) (hin : ∀ u ∈ n.u, U64 u.i) (hf : d.fault k n = 0)
    (he : ((d.first k n.f l).1.takes k n.f n.u (d.first k n.f l).2).1 = 0) (hW : ∀ d' : Det, d' = ((d.first k n.f l).1.takes k n.f n.u (d.first k n.f l).2).2.1 → d'.W.length ≤ 1000000) (hk1 : n.k = 2) :
    Calls Tryz.prog 15 #[.pointer (some ⟨b.q, 0, none⟩), ntV n (.slice na nl nc), .pointer (some ⟨p, 0, none⟩)] w fun e w' => ∃ v X b', e = .returned (.tuple #[v, .int .i64 0]) ∧ Sd p b' w v X w' ∧ X.map NtX.n = (((d.first k n.f l).1.takes k n.f n.u (d.first k n.f l).2).2.1.answer k n).1 ∧ Sx k Bp p b' (((d.first k n.f l).1.takes k n.f n.u (d.first k n.f l).2).2.1.answer k n).2 ((d.first k n.f l).1.takes k n.f n.u (d.first k n.f l).2).2.2 w' ∧ Stp p b w b' w' := by
  have hft := fun (w' : World) (h' : Sx k Bp p b d l w') => fault_any h' n na nl nc
  have hta := fun (w' : World) (h' : Sx k Bp p b d l w') hU hA => takeinall_any h' n na nl nc hU hA hl hin
  obtain ⟨K, F, T, Q, O, U⟩ := n
  have ba := below_alloc w (.cells (ntC K F T Q O (.slice na nl nc)) 37)
  have hN := Bn.new K F T Q O (.slice na nl nc) w
  have h1 := h.below ba
  obtain ⟨w1, HW1⟩ : ∃ w1, Hid (w1 = w.alloc (.cells (ntC K F T Q O (.slice na nl nc)) 37)) := ⟨_, rfl⟩
  rw [← HW1.out] at ba hN h1
  have hft1 := hft w1 h1
  rw [hf] at hft1
  dsimp only at he hta hk1 hW ⊢
  subst hk1
  have hW' := hW _ rfl
  clear hW
  generalize (d.first k F l).1.takes k F U (d.first k F l).2 = R at *
  obtain ⟨R1, R2, R3⟩ := R
  dsimp only at he hta hW' ⊢
  subst he
  have x0 := hN.c0
  have x1 := hN.c1
  have x2 := hN.c2
  have x3 := hN.c3
  have x4 := hN.c4
  have x5 := hN.c5
  clear hft
  go_enter Tryz.func15, Tryz.ntmps15
  go_upto_region 1 with fail
  rw [← HW1.out]
  go_wp2_with fail
  refine hft1.mono ?_
  rintro e w2 ⟨rfl, hb2⟩
  have S2 : Stp p b w b w2 := (Stp.of ba).then hb2
  have hta2 := hta w2 (h1.below hb2) (ruK hU hA S2) (hA.stp S2)
  have hN2 := hN.below hb2
  clear x0 x1 x2 x3 x4 x5
  have x0 := hN2.c0
  have x1 := hN2.c1
  have x2 := hN2.c2
  have x3 := hN2.c3
  have x4 := hN2.c4
  have x5 := hN2.c5
  go_wp2_with fail
  refine hta2.mono ?_
  rintro e w3 ⟨rfl, b3, h3, s3⟩
  have hAN := (h.away (Nat.le_refl _) hN.lt).stp (Stp.of hb2)
  have hN3 := hN2.stp hAN s3
  have hAN3 := hAN.stp s3
  have hq : b3.q = b.q := s3.q
  have hS3 := And.intro hN3.c0 (And.intro hN3.c1 (And.intro hN3.c2 (And.intro hN3.c3 (And.intro hN3.c4 hN3.c5))))
  clear x0 x1 x2 x3 x4 x5
  have hix : ∀ w : World, (Instr.index 125 (.agg #[.nilFunc, .func (.func 103) #[] #[], .func (.func 104) #[] #[], .func (.func 105) #[] #[]]) (.int .i64 2)).run Tryz.prog w = .ok (.func (.func 104) #[] #[]) w := fun w => by kernel_rfl
  go_upto_region 7 with fail
  go_region_held3 (fun w' => w'.cell? ⟨w.heap.size, 0, none⟩ = some (.int .i64 2) ∧ w'.cell? ⟨w.heap.size, 1, none⟩ = some (.int .i64 F) ∧ w'.cell? ⟨w.heap.size, 2, none⟩ = some (.int .i64 T) ∧ w'.cell? ⟨w.heap.size, 3, none⟩ = some (.int .u64 Q) ∧ w'.cell? ⟨w.heap.size, 4, none⟩ = some (.int .i64 O) ∧ w'.cell? ⟨w.heap.size, 5, none⟩ = some (.slice na nl nc)) (first | exact hS3 | exact hS4 | exact hS5) ((first
    | (go_at_call 54; go_must (refine (answers_any _).mono ?_; rintro e w4 ⟨rfl, hb4⟩; have h4 := h3.drew.below hb4; have hN4 := hN3.drew.below hb4; have hS4 := And.intro hN4.c0 (And.intro hN4.c1 (And.intro hN4.c2 (And.intro hN4.c3 (And.intro hN4.c4 hN4.c5))))))
    | (go_at_call 104; go_must (rw [← hq]; refine (acked_any h4 hW' ⟨2, F, T, Q, O, U⟩ na nl nc).mono ?_; rintro e w5 ⟨v5, X5, b5, rfl, hs5, hX5, h5, s5⟩; obtain ⟨a5, L5, c5, rfl⟩ : ∃ a L c, v5 = .slice a L c := (by obtain ⟨a, cap, e, _⟩ := hs5.row.len; exact ⟨a, _, cap, e⟩); have hN5 := hN4.stp (hAN3.drew.stp (Stp.of hb4)) s5; have hS5 := And.intro hN5.c0 (And.intro hN5.c1 (And.intro hN5.c2 (And.intro hN5.c3 (And.intro hN5.c4 hN5.c5))))))))
  have S5 := ((S2.trans s3).drew.then hb4)
  go_wp2_with fail
  unfold Det.answer
  rw [if_neg (show ¬ (2 : Int) = 1 by decide), if_pos rfl]
  exact bodyPost_ret (v := .tuple #[.slice a5 L5 c5, .int .i64 0]) (by simp [results, Tryz.results15, go_sem]) rfl ⟨_, X5, b5, rfl, hs5.up S5.size, hX5, h5, S5.trans s5⟩
end
end Go.Proofs.YtpoofjnfaijjjaaGreatDoor
