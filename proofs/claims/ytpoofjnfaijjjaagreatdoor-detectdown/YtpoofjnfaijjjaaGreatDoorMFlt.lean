/-
  Rows of notes that are said. pinged; fault. acked: its closures, and it. acked. fault.
-/
import Derived.Test.YtpoofjnfaijjjaaGreatDoorMEru
import Derived.Test.YtpoofjnfaijjjaaGreatDoorMSld
namespace Go.Proofs.YtpoofjnfaijjjaaGreatDoor
open Go.RowKit Go.Proofs.YtpoofjnfaijjjaaGreatDoor.Ro

/-- A note in a row, and the slice that its news are. -/
structure NtX where
  n : Nte
  a : Option Addr
  L : Nat
  c : Nat
def encN : Enc NtX := ⟨6, fun x => [.int .i64 x.n.k, .int .i64 x.n.f, .int .i64 x.n.t, .int .u64 x.n.q, .int .i64 x.n.o, .slice x.a x.L x.c], fun _ => rfl, fun x v hv => by
  simp only [List.mem_cons, List.not_mem_nil, or_false] at hv
  rcases hv with rfl | rfl | rfl | rfl | rfl | rfl <;> rfl, by decide⟩
theorem Tryz.infoN : (Tryz.prog.info? 37).map (fun i => (i.zero, i.size, i.bytes)) = some (some (.agg (ntC 0 0 0 0 0 (.slice none 0 0))), 6, 64) := by kernel_rfl
/-- The row v, made behind the world w0, holds the notes L; no step of the detector touches it. -/
structure Sd (p : Nat) (b : Bl) (w0 : World) (v : Value) (X : List NtX) (w : World) : Prop where
  row : OwE encN 37 w0.heap.size v X w
  away : ∀ g, v.ownBlock = some g → Away p b w g
  news : ∀ x ∈ X, Ro.Own w0.heap.size (.slice x.a x.L x.c) x.n.u w
  naw : ∀ x ∈ X, ∀ g, (Value.slice x.a x.L x.c).ownBlock = some g → Away p b w g
section
variable {p : Nat} {b b' : Bl} {w0 w w' : World} {v : Value} {X : List NtX}
theorem Sd.stp (h : Sd p b w0 v X w) (s : Stp p b w b' w') : Sd p b' w0 v X w' :=
  ⟨h.row.keep fun g hg _ => s.keep (h.away g hg), fun g hg => (h.away g hg).stp s, fun x hx => (h.news x hx).keep fun g hg _ => s.keep (h.naw x hx g hg), fun x hx g hg => (h.naw x hx g hg).stp s⟩
theorem Sd.up {v0 : World} (h : Sd p b w0 v X w) (hz : v0.heap.size ≤ w0.heap.size) : Sd p b v0 v X w := ⟨h.row.mono hz, h.away, fun x hx => Ro.Own.mono (h.news x hx) hz, h.naw⟩
theorem Sd.nil (p : Nat) (b : Bl) (w0 w : World) : Sd p b w0 (.slice none 0 0) [] w := ⟨OwE.nil _ _ _ _, (fun g hg => by cases hg), (fun x hx => by cases hx), (fun x hx => by cases hx)⟩
theorem own_type {B : Nat} {v : Value} {l : List Upd} {w : World} (h : Ro.Own B v l w) {g : Nat} (hg : v.ownBlock = some g) : ∃ cur, w.heap[g]? = some (.cells cur 39 (0, 0)) := by
  rcases h.2 with ⟨rfl, _⟩ | ⟨g', cap, cur, rfl, _, h1, _⟩
  · cases hg
  · cases hg; exact ⟨cur, h1⟩
theorem owe_type {α : Type} {E : Enc α} {T : TypeId} {B : Nat} {v : Value} {l : List α} {w : World} (h : OwE E T B v l w) {g : Nat} (hg : v.ownBlock = some g) : ∃ cur, w.heap[g]? = some (.cells cur T (0, 0)) := by
  rcases h.2 with ⟨rfl, _⟩ | ⟨g', cap, cur, rfl, _, h1, _⟩
  · cases hg
  · cases hg; exact ⟨cur, h1⟩
/-- News lie in no row of notes. -/
theorem Sd.apart (h : Sd p b w0 v X w) {B : Nat} {u : Value} {l : List Upd} (hu : Ro.Own B u l w) {g : Nat} (hg : u.ownBlock = some g) : v.ownBlock ≠ some g := fun e => by
  obtain ⟨c1, e1⟩ := owe_type h.row e
  obtain ⟨c2, e2⟩ := own_type hu hg
  rw [e1] at e2
  simp at e2
/-- One note. -/
theorem Sd.one {k Bp : Nat} {d : Det} {l : List Int} {n : Nte} {a : Option Addr} {L c : Nat} (h : Sx k Bp p b d l w) (hz : w0.heap.size ≤ w.heap.size) (hO : Ro.Own w0.heap.size (.slice a L c) n.u w) (hA : ∀ g, (Value.slice a L c).ownBlock = some g → Away p b w g) :
    Sd p b w0 (.slice (some ⟨w.heap.size, 0, none⟩) 1 1) [⟨n, a, L, c⟩] (w.alloc (.cells (ntC n.k n.f n.t n.q n.o (.slice a L c)) 37)) := by
  have ba : Below w.heap.size w (w.alloc (.cells (ntC n.k n.f n.t n.q n.o (.slice a L c)) 37)) := below_alloc _ _
  refine ⟨⟨rfl, Or.inr ⟨w.heap.size, 1, _, rfl, hz, heap_alloc_new w _, Nat.le_refl _, by unfold maxLen; omega, rfl, rfl⟩⟩, fun g hg => ?_, fun x hx => ?_, fun x hx g hg => ?_⟩
  · cases hg; exact h.away (Nat.le_refl _) (by simp)
  · obtain rfl := List.mem_singleton.1 hx
    exact hO.below ba
  · obtain rfl := List.mem_singleton.1 hx
    exact (hA g hg).stp (Stp.of ba)
/-- Behind an append to it. -/
theorem Sd.app {u v' : Value} {Y : List NtX} {k Bp : Nat} {d : Det} {l : List Int} (hS : Sx k Bp p b d l w) (h : Sd p b w0 v X w) (k' : Sd p b w0 u Y w) (hrow : OwE encN 37 w0.heap.size v' (X ++ Y) w') (hg : w.grownBy w' v.ownBlock) (hv : v'.ownBlock = v.ownBlock ∨ v'.ownBlock = some w.heap.size) (hlt : ∀ g, v'.ownBlock = some g → g < w'.heap.size) :
    Sd p b w0 v' (X ++ Y) w' := by
  have hA : ∀ g, Away p b w g → Away p b w' g := fun g a => ⟨Nat.lt_of_lt_of_le a.lt hg.size, a.p, a.own⟩
  refine ⟨hrow, fun g e => ?_, fun x hx => ?_, fun x hx g e => ?_⟩
  · rcases hv with e' | e'
    · exact hA g (h.away g (e'.symm.trans e))
    · rw [e'] at e; cases e
      exact hS.away (Nat.le_refl _) (hlt _ e')
  · rcases List.mem_append.1 hx with hx | hx
    · exact (h.news x hx).keep fun g e hlt => hg.block g hlt (fun e' => h.apart (h.news x hx) e e'.symm)
    · exact (k'.news x hx).keep fun g e hlt => hg.block g hlt (fun e' => h.apart (k'.news x hx) e e'.symm)
  · rcases List.mem_append.1 hx with hx | hx
    · exact hA g (h.naw x hx g e)
    · exact hA g (k'.naw x hx g e)
end
end Go.Proofs.YtpoofjnfaijjjaaGreatDoor
namespace Go.Proofs.YtpoofjnfaijjjaaGreatDoor
open Go.RowKit Go.Proofs.YtpoofjnfaijjjaaGreatDoor.Ro
section
variable {k Bp p : Nat} {b : Bl} {d : Det} {l : List Int} {w : World}
theorem news_away (h : Sx k Bp p b d l w) {w' : World} {v : Value} {N : List Upd} (hO : Ro.Own w.heap.size v N w') : ∀ g, v.ownBlock = some g → Away p b w' g := fun g hg => h.away (hO.lt g hg).1 (hO.lt g hg).2
theorem Bn.stp {g : Nat} {K F T Q O : Int} {v : Value} {b' : Bl} {w' : World} (h : Bn g K F T Q O v w) (hA : Away p b w g) (s : Stp p b w b' w') : Bn g K F T Q O v w' := h.keep (s.keep hA)

set_option maxRecDepth 100000 in
set_option maxHeartbeats 1000000 in
theorem pinged_any (h : Sx k Bp p b d l w) (K F T Q O : Int) (na : Option Addr) (nl nc : Nat) :
    Calls Tryz.prog 103 #[.pointer (some ⟨b.q, 0, none⟩), .agg (ntC K F T Q O (.slice na nl nc))] w fun e w' => ∃ v X, e = .returned v ∧ Sd p b w v X w' ∧ X.map NtX.n = [⟨2, k, F, Q, k, d.news k F⟩] ∧ Sx k Bp p b (d.told k F) l w' ∧ Stp p b w b w' := by
  have ba := below_alloc w (.cells (ntC K F T Q O (.slice na nl nc)) 37)
  have hN := Bn.new K F T Q O (.slice na nl nc) w
  have h1 := h.below ba
  have hA := h.away (w' := w.alloc (.cells (ntC K F T Q O (.slice na nl nc)) 37)) (Nat.le_refl _) hN.lt
  obtain ⟨w1, HW1⟩ : ∃ w1, Hid (w1 = w.alloc (.cells (ntC K F T Q O (.slice na nl nc)) 37)) := ⟨_, rfl⟩
  rw [← HW1.out] at ba hN h1 hA
  have hS1 := And.intro hN.c1 hN.c3
  go_enter Tryz.func103, Tryz.ntmps103
  go_upto_region 1 with fail
  rw [← HW1.out]
  go_region_held3 (fun w' => w'.cell? ⟨w.heap.size, 1, none⟩ = some (.int .i64 F) ∧ w'.cell? ⟨w.heap.size, 3, none⟩ = some (.int .u64 Q)) (first | exact hS1 | exact hS2 | exact hS3 | exact And.intro (hN3.below (below_alloc _ _)).c1 (hN3.below (below_alloc _ _)).c3) ((first
    | (go_at_call 44; refine (me_any h1.drew).mono ?_; rintro e w2 ⟨rfl, hb2⟩; have h2 := h1.drew.below hb2; have hN2 := hN.drew.below hb2; have hA2 := hA.drew.stp (Stp.of hb2); have hS2 := And.intro hN2.c1 hN2.c3)
    | (go_at_call 122; refine (say_any h2 2 0 F Q k).mono ?_; rintro e w3 ⟨v3, rfl, hO3, h3, s3⟩; obtain ⟨a3, L3, c3, rfl⟩ : ∃ a L c, v3 = .slice a L c := (by obtain ⟨a, cap, e, _⟩ := hO3.ru; exact ⟨a, _, cap, e⟩); have hN3 := hN2.stp hA2 s3; have hS3 := And.intro hN3.c1 hN3.c3)))
  all_goals
    go_wp2_with fail
    go_ret
    have S3 : Stp p b w b w3 := ((Stp.of ba).drew.then hb2).trans s3
    have hz : w.heap.size ≤ w2.heap.size := ((Stp.of (p := p) (b := b) ba).drew.then hb2).size
    have b3 := below_alloc w3 (.cells (ntC 2 k F Q k (.slice a3 L3 c3)) 37)
    have hsd := Sd.one (w0 := w) (n := ⟨2, k, F, Q, k, d.news k F⟩) h3 S3.size (Ro.Own.mono hO3 hz) (news_away h2 hO3)
    exact ⟨_, _, rfl, hsd, rfl, h3.below b3, S3.then b3⟩
end
end Go.Proofs.YtpoofjnfaijjjaaGreatDoor
namespace Go.Proofs.YtpoofjnfaijjjaaGreatDoor
open Go.RowKit Go.Proofs.YtpoofjnfaijjjaaGreatDoor.Ro

theorem find_at {α : Type} (f : α → Bool) : ∀ (l : List α) (i : Nat) (h : i < l.length), f l[i] = true → (∀ x ∈ l.take i, f x = false) → l.find? f = some l[i] ∧ l.eraseP f = l.eraseIdx i
  | x :: r, 0, _, h1, _ => by
    have h1 : f x = true := h1
    simp [h1]
  | x :: r, i + 1, h, h1, h2 => by
    have hx : f x = false := h2 x (by simp)
    have ih := find_at f r i (by simpa using h) h1 fun y hy => h2 y (by simp [hy])
    simp [hx, ih.1, ih.2]
section
variable {w : World}
set_option maxRecDepth 100000 in
set_option maxHeartbeats 400000 in
theorem indexfE_nil (F : FuncId) (caps : Array Value) : Calls Tryz.prog 78 #[.slice none 0 0, .func (.func F) #[] caps] w fun e w' => e = .returned (.int .i64 (-1)) ∧ w' = w := by
  go_enter Tryz.func78, Tryz.ntmps78
  go_wp2_with fail
  go_loopg [8] 0 (fun gk t8 wr => t8 = .int .i64 0 ∧ wr = w)
  case atStart => exact ⟨rfl, rfl⟩
  case round =>
    obtain ⟨rfl, rfl⟩ := hrel
    go_wp2_with fail
    go_ret
    exact ⟨rfl, rfl⟩
set_option maxRecDepth 100000 in
set_option maxHeartbeats 400000 in
theorem indexfW_nil (F : FuncId) (caps : Array Value) : Calls Tryz.prog 176 #[.slice none 0 0, .func (.func F) #[] caps] w fun e w' => e = .returned (.int .i64 (-1)) ∧ w' = w := by
  go_enter Tryz.func176, Tryz.ntmps176
  go_wp2_with fail
  go_loopg [8] 0 (fun gk t8 wr => t8 = .int .i64 0 ∧ wr = w)
  case atStart => exact ⟨rfl, rfl⟩
  case round =>
    obtain ⟨rfl, rfl⟩ := hrel
    go_wp2_with fail
    go_ret
    exact ⟨rfl, rfl⟩
set_option maxRecDepth 100000 in
set_option maxHeartbeats 400000 in
theorem deleteE_nil (F : FuncId) (caps : Array Value) : Calls Tryz.prog 40 #[.slice none 0 0, .func (.func F) #[] caps] w fun e w' => e = .returned (.slice none 0 0) ∧ w' = w := by
  go_enter Tryz.func40, Tryz.ntmps40
  go_wp2_with fail
  refine (indexfE_nil F caps).mono ?_
  rintro e w1 ⟨rfl, rfl⟩
  go_wp2_with fail
  go_ret
  exact ⟨rfl, rfl⟩
set_option maxRecDepth 100000 in
set_option maxHeartbeats 400000 in
theorem deleteW_nil (F : FuncId) (caps : Array Value) : Calls Tryz.prog 146 #[.slice none 0 0, .func (.func F) #[] caps] w fun e w' => e = .returned (.slice none 0 0) ∧ w' = w := by
  go_enter Tryz.func146, Tryz.ntmps146
  go_wp2_with fail
  refine (indexfW_nil F caps).mono ?_
  rintro e w1 ⟨rfl, rfl⟩
  go_wp2_with fail
  go_ret
  exact ⟨rfl, rfl⟩

set_option maxRecDepth 100000 in
set_option maxHeartbeats 400000 in
theorem acked1_any {g : Nat} {K F T Q O : Int} {v : Value} (hN : Bn g K F T Q O v w) (x : Ern) : Calls Tryz.prog 145 (#[.agg (cellsE x)] ++ #[.pointer (some ⟨g, 0, none⟩)]) w fun e w' => e = .returned (.bool (x.q == Q && x.n == F)) ∧ Below w.heap.size w w' := by
  have ba := below_alloc w (.cells (cellsE x) 112)
  have hX := BE.new x w
  have hN1 := hN.below ba
  have n1 := hN1.c1
  have n3 := hN1.c3
  have x0 := hX.c0
  have x1 := hX.c1
  cases h1 : (x.q == Q) <;> cases h2 : (x.n == F)
  all_goals
    go_enter Tryz.func145, Tryz.ntmps145
    go_wp2_with fail
    go_ret
    exact ⟨rfl, ba⟩
set_option maxRecDepth 100000 in
set_option maxHeartbeats 400000 in
theorem acked2_any {g : Nat} {K F T Q O : Int} {v : Value} (hN : Bn g K F T Q O v w) (x : Wch) : Calls Tryz.prog 147 (#[.agg (cellsW x)] ++ #[.pointer (some ⟨g, 0, none⟩)]) w fun e w' => e = .returned (.bool (x.q == Q && x.n == O)) ∧ Below w.heap.size w w' := by
  have ba := below_alloc w (.cells (cellsW x) 133)
  have hX := BW.new x w
  have hN1 := hN.below ba
  have n3 := hN1.c3
  have n4 := hN1.c4
  have x0 := hX.c0
  have x1 := hX.c1
  cases h1 : (x.q == Q) <;> cases h2 : (x.n == O)
  all_goals
    go_enter Tryz.func147, Tryz.ntmps147
    go_wp2_with fail
    go_ret
    exact ⟨rfl, ba⟩
end
end Go.Proofs.YtpoofjnfaijjjaaGreatDoor
namespace Go.Proofs.YtpoofjnfaijjjaaGreatDoor
open Go.RowKit Go.Proofs.YtpoofjnfaijjjaaGreatDoor.Ro

theorem grown_of {g : Nat} {w w' : World} (h : Ro.But w.heap.size g w w') : w.grownBy w' (some g) := ⟨h.os, h.tape, h.output, h.size, fun k hk hn => h.block k hk (fun e => hn (by rw [e]))⟩
theorem grown_below {w w' : World} {r : Option Nat} (h : Below w.heap.size w w') : w.grownBy w' r := ⟨h.os, h.tape, h.output, h.size, fun k hk _ => h.block k hk⟩
section
variable {w : World}
theorem indexE_any (J : World → Prop) (hJb : ∀ w w', J w → Below w.heap.size w w' → J w') (F : FuncId) (caps : Array Value) (f : Ern → Bool) {v : Value} {l : List Ern} (hs : l.length ≤ 1000000) (hO : OwE encE 112 0 v l w) (hF : ∀ args w', (callFunc F args).run Tryz.prog w' = .ok (.enter F args) w')
    (hcl : ∀ x ∈ l, ∀ w', J w' → Calls Tryz.prog F (#[.agg (cellsE x)] ++ caps) w' fun e w'' => e = .returned (.bool (f x)) ∧ Below w'.heap.size w' w'') (hJ : J w) :
    Calls Tryz.prog 78 #[v, .func (.func F) #[] caps] w fun e w' => ((∃ n : Nat, e = .returned (.int .i64 n) ∧ ∃ h : n < l.length, f l[n] = true ∧ ∀ x ∈ l.take n, f x = false) ∨ (e = .returned (.int .i64 (-1)) ∧ ∀ x ∈ l, f x = false)) ∧ Below w.heap.size w w' := by
  rcases id hO.2 with ⟨rfl, h0⟩ | ⟨g, cap, cur, rfl, _⟩
  · obtain rfl : l = [] := List.length_eq_zero_iff.1 h0
    refine (indexfE_nil F caps).mono ?_
    rintro e w' ⟨rfl, rfl⟩
    exact ⟨.inr ⟨rfl, by simp⟩, Below.refl _ _⟩
  · exact indexfE_any J hJb F caps f hs hO hF hcl hJ
theorem deletesE_any (J : World → Prop) (hJb : ∀ w w', J w → Below w.heap.size w w' → J w') (F : FuncId) (caps : Array Value) (f : Ern → Bool) {v : Value} {l : List Ern} (hJs : ∀ g, v.ownBlock = some g → ∀ w j u, J w → J (w.setCell ⟨g, j, none⟩ u)) (hs : l.length ≤ 1000000) (hO : OwE encE 112 0 v l w) (hF : ∀ args w', (callFunc F args).run Tryz.prog w' = .ok (.enter F args) w')
    (hcl : ∀ x ∈ l, ∀ w', J w' → Calls Tryz.prog F (#[.agg (cellsE x)] ++ caps) w' fun e w'' => e = .returned (.bool (f x)) ∧ Below w'.heap.size w' w'') (hJ : J w) :
    Calls Tryz.prog 40 #[v, .func (.func F) #[] caps] w fun e w' => ∃ a L c, e = .returned (.slice a L c) ∧ OwE encE 112 0 (.slice a L c) (l.filter (fun x => !f x)) w' ∧ (Value.slice a L c).ownBlock = v.ownBlock ∧ w.grownBy w' v.ownBlock ∧ J w' := by
  rcases id hO.2 with ⟨rfl, h0⟩ | ⟨g, cap, cur, rfl, _⟩
  · obtain rfl : l = [] := List.length_eq_zero_iff.1 h0
    refine (deleteE_nil F caps).mono ?_
    rintro e w' ⟨rfl, rfl⟩
    exact ⟨none, 0, 0, rfl, hO, rfl, grown_below (Below.refl _ _), hJ⟩
  · refine (deleteE_any J hJb (hJs g rfl) F caps f hs hO hF hcl hJ).mono ?_
    rintro e w' ⟨⟨rfl, hO'⟩, hJ', hB⟩
    exact ⟨_, _, cap, rfl, hO', rfl, grown_of hB, hJ'⟩
theorem deletesW_any (J : World → Prop) (hJb : ∀ w w', J w → Below w.heap.size w w' → J w') (F : FuncId) (caps : Array Value) (f : Wch → Bool) {v : Value} {l : List Wch} (hJs : ∀ g, v.ownBlock = some g → ∀ w j u, J w → J (w.setCell ⟨g, j, none⟩ u)) (hs : l.length ≤ 1000000) (hO : OwE encW 133 0 v l w) (hF : ∀ args w', (callFunc F args).run Tryz.prog w' = .ok (.enter F args) w')
    (hcl : ∀ x ∈ l, ∀ w', J w' → Calls Tryz.prog F (#[.agg (cellsW x)] ++ caps) w' fun e w'' => e = .returned (.bool (f x)) ∧ Below w'.heap.size w' w'') (hJ : J w) :
    Calls Tryz.prog 146 #[v, .func (.func F) #[] caps] w fun e w' => ∃ a L c, e = .returned (.slice a L c) ∧ OwE encW 133 0 (.slice a L c) (l.filter (fun x => !f x)) w' ∧ (Value.slice a L c).ownBlock = v.ownBlock ∧ w.grownBy w' v.ownBlock ∧ J w' := by
  rcases id hO.2 with ⟨rfl, h0⟩ | ⟨g, cap, cur, rfl, _⟩
  · obtain rfl : l = [] := List.length_eq_zero_iff.1 h0
    refine (deleteW_nil F caps).mono ?_
    rintro e w' ⟨rfl, rfl⟩
    exact ⟨none, 0, 0, rfl, hO, rfl, grown_below (Below.refl _ _), hJ⟩
  · refine (deleteW_any J hJb (hJs g rfl) F caps f hs hO hF hcl hJ).mono ?_
    rintro e w' ⟨⟨rfl, hO'⟩, hJ', hB⟩
    exact ⟨_, _, cap, rfl, hO', rfl, grown_of hB, hJ'⟩
end
section
variable {k Bp p : Nat} {b : Bl} {d : Det} {l : List Int} {w : World}

set_option maxRecDepth 100000 in
set_option maxHeartbeats 2000000 in
theorem acked_any (h : Sx k Bp p b d l w) (hWl : d.W.length ≤ 1000000) (n : Nte) (na : Option Addr) (nl nc : Nat) :
    Calls Tryz.prog 104 #[.pointer (some ⟨b.q, 0, none⟩), ntV n (.slice na nl nc)] w fun e w' => ∃ v X b', e = .returned v ∧ Sd p b' w v X w' ∧ X.map NtX.n = (d.acked k n).1 ∧ Sx k Bp p b' (d.acked k n).2 l w' ∧ Stp p b w b' w' := by
  obtain ⟨K, F, T, Q, O, U⟩ := n
  have ba := below_alloc w (.cells (ntC K F T Q O (.slice na nl nc)) 37)
  have hN := Bn.new K F T Q O (.slice na nl nc) w
  have h1 := h.below ba
  have hA := h.away (w' := w.alloc (.cells (ntC K F T Q O (.slice na nl nc)) 37)) (Nat.le_refl _) hN.lt
  obtain ⟨w1, HW1⟩ : ∃ w1, Hid (w1 = w.alloc (.cells (ntC K F T Q O (.slice na nl nc)) 37)) := ⟨_, rfl⟩
  rw [← HW1.out] at ba hN h1 hA
  have c5 := h1.dt.c5
  have hel := h.dt.ok.el
  have hidx := indexE_any (w := w1) (Bn w.heap.size K F T Q O (.slice na nl nc)) (fun w w' hJ hb => hJ.below hb) 145 #[.pointer (some ⟨w.heap.size, 0, none⟩)] (ackE ⟨K, F, T, Q, O, U⟩) (by omega) h1.dt.es (enter_of Tryz.func145 (by kernel_rfl) rfl) (fun x _ w' hJ => acked1_any hJ x) hN
  obtain ⟨va, hva⟩ := h1.dt.es.len
  obtain ⟨vcap, hve, _⟩ := hva
  obtain ⟨R, HR⟩ : ∃ R, Hid (d.acked k ⟨K, F, T, Q, O, U⟩ = R) := ⟨_, rfl⟩
  rw [HR.out]
  go_enter Tryz.func104, Tryz.ntmps104
  go_upto_region 1 with fail
  rw [← HW1.out]
  rw [hve] at c5 hidx
  go_wp2_with fail
  refine hidx.mono ?_
  rintro e w2 ⟨(⟨i, rfl, hi, hb, hx⟩ | ⟨rfl, hx⟩), hb2⟩
  · have h2 := h1.below hb2
    have hN2 := hN.below hb2
    have hA2 := hA.stp (Stp.of hb2)
    obtain ⟨hf1, hf2⟩ := find_at _ d.E i hi hb hx
    have hyes : Hid (R = ([⟨2, k, d.E[i].f, d.E[i].t, F, d.news k d.E[i].f⟩], ({ d with E := d.E.eraseIdx i } : Det).told k d.E[i].f)) := by
      show _ = _
      rw [← HR.out]
      unfold Det.acked
      rw [hf1, hf2]
    obtain ⟨ge, rfl⟩ : ∃ ge, va = some ⟨ge, 0, none⟩ := by
      rcases h2.dt.es.2 with ⟨e, h0⟩ | ⟨g, cap, cur, e, _⟩
      · omega
      · rw [hve] at e; cases e; exact ⟨g, rfl⟩
    have hE2 := h2.dt.es
    rw [hve] at hE2
    obtain ⟨x0, x1, x2, x3, x4⟩ := hE2.atE rfl i hi
    have hmem := fun x (hx : x ∈ d.E.eraseIdx i) => h.dt.ok.E x (List.mem_of_mem_eraseIdx hx)
    have hlen : (d.E.eraseIdx i).length ≤ 32 := Nat.le_trans (List.length_eraseIdx_le _ _) hel
    clear hf1 hf2 hb hx hidx c5
    have hi0 : (0 : Int) ≤ (i : Int) := by omega
    have hi1 : (i : Int) < d.E.length := by omega
    have hdl := fun w' hO => delete1_any ge vcap d.E i hi (by omega) w' hO
    generalize d.E[i] = y at *
    have by_ := below_alloc w2 (.cells (cellsE y) 112)
    have hY := BE.new y w2
    have h3 := h2.below by_
    have hN3 := hN2.below by_
    have hA3 := hA2.stp (Stp.of by_)
    have hAY := h2.away (w' := w2.alloc (.cells (cellsE y) 112)) (Nat.le_refl _) hY.lt
    have S3 : Stp p b w b (w2.alloc (.cells (cellsE y) 112)) := ((Stp.of ba).then hb2).then by_
    have c5 := h2.dt.c5
    rw [hve] at c5
    obtain ⟨w3, HW3⟩ : ∃ w3, Hid (w3 = w2.alloc (.cells (cellsE y) 112)) := ⟨_, rfl⟩
    rw [← HW3.out] at hY h3 hN3 hA3 hAY S3
    clear hN2 hA2 by_
    go_upto_region 6 with fail
    rw [← HW3.out]
    clear c5
    have c5 := h3.dt.c5
    have hE3 := h3.dt.es
    rw [hve] at c5 hE3
    go_wp2_with fail
    refine (hdl w3 hE3).mono ?_
    rintro e w4 ⟨⟨rfl, hO4⟩, hB4⟩
    have hq4 : w4.heap[b.q]? = w3.heap[b.q]? := hB4.block b.q h3.dt.qlt (fun e => by have := h3.dt.sep.one 0 6 b.q rfl (by show b.ve.ownBlock = _; rw [hve, e]; rfl); omega)
    have c5' := (World.cell?_of_block (w := w3) (a := ⟨b.q, 5, none⟩) hq4).trans h3.dt.c5
    have f5' := (World.frozen?_of_block (w := w3) (a := ⟨b.q, 5, none⟩) hq4).trans (h3.dt.free 5)
    obtain ⟨h5, s5⟩ := h3.setE hO4 (by rw [hve]; exact grown_of hB4) (.inl (by rw [hve]; rfl)) hmem hlen
    obtain ⟨M, HM⟩ : ∃ M, Hid ((d.E.eraseIdx i).length = M) := ⟨_, rfl⟩
    rw [HM.out] at h5 s5 ⊢
    obtain ⟨w5, HW5⟩ : ∃ w5, Hid (w5 = w4.setCell ⟨b.q, 5, none⟩ (.slice (some ⟨ge, 0, none⟩) M vcap)) := ⟨_, rfl⟩
    rw [← HW5.out] at h5 s5
    have hN5 := hN3.stp hA3 s5
    have hY5 := hY.keep (s5.keep hAY)
    clear x0 x1 x2 x3 x4 c5
    have y3 := hY5.c3
    have y4 := hY5.c4
    have n1 := hN5.c1
    have hsay := say_any h5 2 0 y.f y.t F
    go_upto_region 7 with fail
    rw [← HW5.out]
    go_wp2_with fail
    refine hsay.mono ?_
    rintro e w6 ⟨v6, rfl, hO6, h6, s6⟩
    obtain ⟨a6, L6, c6, rfl⟩ : ∃ a L c, v6 = .slice a L c := (by obtain ⟨a, cap, e, _⟩ := hO6.ru; exact ⟨a, _, cap, e⟩)
    have S5 := S3.trans s5
    have S6 := S5.trans s6
    have b6 := below_alloc w6 (.cells (ntC 2 k y.f y.t F (.slice a6 L6 c6)) 37)
    have hsd := Sd.one (w0 := w) (n := ⟨2, k, y.f, y.t, F, d.news k y.f⟩) h6 S6.size (Ro.Own.mono hO6 S5.size) (news_away h5 hO6)
    go_wp2_with fail
    go_ret
    rw [hyes.out]
    exact ⟨_, _, _, rfl, hsd, rfl, h6.below b6, S6.then b6⟩
  · have h2 := h1.below hb2
    have hN2 := hN.below hb2
    have hA2 := hA.stp (Stp.of hb2)
    have hno : Hid (R = ([], { d with W := d.W.filter (fun x => !ackW ⟨K, F, T, Q, O, U⟩ x) })) := by
      show _ = _
      rw [← HR.out]
      unfold Det.acked
      rw [List.find?_eq_none.2 (fun x hm => by rw [hx x hm]; decide)]
    clear hx hidx c5 hve
    have c4 := h2.dt.c4
    have hdel := deletesW_any (w := w2) (Bn w.heap.size K F T Q O (.slice na nl nc)) (fun w w' hJ hb => hJ.below hb) 147 #[.pointer (some ⟨w.heap.size, 0, none⟩)] (ackW ⟨K, F, T, Q, O, U⟩) (fun g hg w' j u hJ => hJ.other (a := ⟨g, j, none⟩) (show w.heap.size ≠ g from fun e => hA2.own 5 (e ▸ hg)) u) hWl h2.dt.ws (enter_of Tryz.func147 (by kernel_rfl) rfl) (fun x _ w' hJ => acked2_any hJ x) hN2
    obtain ⟨ua, ucap, hvw, _⟩ := h2.dt.ws.len
    rw [hvw] at c4
    have hdel' := hdel
    rw [hvw] at hdel'
    clear hdel
    go_wp2_with fail
    refine hdel'.mono ?_
    rintro e w3 ⟨a3, L3, c3, rfl, hO3, hown3, hg3, _⟩
    have hq3 : w3.heap[b.q]? = w2.heap[b.q]? := hg3.block b.q h2.dt.qlt (fun e => by have := h2.dt.sep.one 0 5 b.q rfl (by show b.vw.ownBlock = _; rw [hvw]; exact e.symm); omega)
    have c4' := (World.cell?_of_block (w := w2) (a := ⟨b.q, 4, none⟩) hq3).trans h2.dt.c4
    have f4' := (World.frozen?_of_block (w := w2) (a := ⟨b.q, 4, none⟩) hq3).trans (h2.dt.free 4)
    have hmem : ∀ x ∈ d.W.filter (fun x => !ackW ⟨K, F, T, Q, O, U⟩ x), WchOk x := fun x hx => h.dt.ok.W x (List.mem_filter.1 hx).1
    obtain ⟨h4, s4⟩ := h2.setW hO3 (by rw [hvw]; exact hg3) (.inl (by rw [hown3, hvw])) hmem
    clear c4
    go_wp2_with fail
    go_ret
    rw [hno.out]
    exact ⟨_, [], _, rfl, Sd.nil _ _ _ _, rfl, h4, ((Stp.of ba).then hb2).trans s4⟩
end
end Go.Proofs.YtpoofjnfaijjjaaGreatDoor
namespace Go.Proofs.YtpoofjnfaijjjaaGreatDoor
open Go.RowKit Go.Proofs.YtpoofjnfaijjjaaGreatDoor.Ro
section
variable {k Bp p : Nat} {b : Bl} {d : Det} {l : List Int} {w : World}
/-- What a region that reads keeps: the detector, and the box of the note. -/
structure Jn (k Bp p : Nat) (b : Bl) (d : Det) (l : List Int) (g : Nat) (K F T Q O : Int) (v : Value) (w0 w : World) : Prop where
  st : Sx k Bp p b d l w
  box : Bn g K F T Q O v w
  below : Below w0.heap.size w0 w
section
variable {g : Nat} {K F T Q O : Int} {v : Value} {w0 w' : World}
theorem Jn.later (h : Jn k Bp p b d l g K F T Q O v w0 w) (hb : Below w.heap.size w w') : Jn k Bp p b d l g K F T Q O v w0 w' := ⟨h.st.below hb, h.box.below hb, bT h.below hb⟩
theorem Jn.drew (h : Jn k Bp p b d l g K F T Q O v w0 w) : Jn k Bp p b d l g K F T Q O v w0 w.drew := ⟨h.st.drew, h.box.drew, bD h.below⟩
theorem Jn.on {x : Kept (Jn k Bp p b d l g K F T Q O v w0)} (hb : Below x.at_.heap.size x.at_ w') : ∃ y : Kept (Jn k Bp p b d l g K F T Q O v w0), w' = y.at_ := ⟨⟨w', x.is.later hb⟩, rfl⟩
theorem Jn.st' {x : Kept (Jn k Bp p b d l g K F T Q O v w0)} : Sx k Bp p b d l x.at_ := x.is.st
end

set_option maxRecDepth 100000 in
set_option maxHeartbeats 4000000 in
theorem fault_any (h : Sx k Bp p b d l w) (n : Nte) (na : Option Addr) (nl nc : Nat) :
    Calls Tryz.prog 52 #[.pointer (some ⟨b.q, 0, none⟩), ntV n (.slice na nl nc)] w fun e w' => e = .returned (.int .i64 (d.fault k n)) ∧ Below w.heap.size w w' := by
  obtain ⟨K, F, T, Q, O, U⟩ := n
  have ba := below_alloc w (.cells (ntC K F T Q O (.slice na nl nc)) 37)
  have hN := Bn.new K F T Q O (.slice na nl nc) w
  have h1 := h.below ba
  obtain ⟨w1, HW1⟩ : ∃ w1, Hid (w1 = w.alloc (.cells (ntC K F T Q O (.slice na nl nc)) 37)) := ⟨_, rfl⟩
  rw [← HW1.out] at ba hN h1
  obtain ⟨R, HR⟩ : ∃ R, Hid (d.fault k ⟨K, F, T, Q, O, U⟩ = R) := ⟨_, rfl⟩
  rw [HR.out]
  have HR' : Hid (R = if d.le = true then 5 else if T ≠ (k : Int) ∨ F = (k : Int) ∨ nodeB F = false ∨ nodeB O = false then 1 else if K < 1 ∨ 3 < K then 150 else 0) := HR.out.symm
  clear HR
  have c8 := h1.dt.c8
  cases hle : d.le
  case true =>
    rw [hle] at c8
    rw [if_pos hle] at HR'
    go_enter Tryz.func52, Tryz.ntmps52
    go_upto_region 1 with fail
    rw [← HW1.out]
    go_wp2_with fail
    go_ret
    rw [HR'.out]
    exact ⟨rfl, ba⟩
  case false =>
  rw [hle] at c8
  rw [if_neg (by rw [hle]; decide)] at HR'
  clear hle
  have hJ : Jn k Bp p b d l w.heap.size K F T Q O (.slice na nl nc) w w1 := ⟨h1, hN, ba⟩
  have hne : Nonempty (Kept (Jn k Bp p b d l w.heap.size K F T Q O (.slice na nl nc) w)) := ⟨⟨_, hJ⟩⟩
  have k1 : ∀ x : Kept (Jn k Bp p b d l w.heap.size K F T Q O (.slice na nl nc) w), x.at_.cell? ⟨w.heap.size, 1, none⟩ = some (.int .i64 F) := fun x => x.is.box.c1
  have k2 : ∀ x : Kept (Jn k Bp p b d l w.heap.size K F T Q O (.slice na nl nc) w), x.at_.cell? ⟨w.heap.size, 2, none⟩ = some (.int .i64 T) := fun x => x.is.box.c2
  have k4 : ∀ x : Kept (Jn k Bp p b d l w.heap.size K F T Q O (.slice na nl nc) w), x.at_.cell? ⟨w.heap.size, 4, none⟩ = some (.int .i64 O) := fun x => x.is.box.c4
  have hnF := fun w' => isnode_any F w'
  have hnO := fun w' => isnode_any O w'
  cases hT : (T != (k : Int))
  case true =>
    have e : T ≠ (k : Int) := by simpa using hT
    rw [if_pos (Or.inl e)] at HR'
    clear e
    go_enter Tryz.func52, Tryz.ntmps52
    go_upto_region 1 with fail
    rw [← HW1.out]
    go_wp2_with fail
    refine wp_region_kept (Jn k Bp p b d l w.heap.size K F T Q O (.slice na nl nc) w) (by kernel_rfl) (by kernel_rfl) hJ.drew ?_
    repeat (go_big_quiet_step (first
      | (refine (me_any Jn.st').mono ?_; rintro e w4 ⟨rfl, hb4⟩; exact ⟨rfl, Jn.on hb4⟩)
      | (refine (hnF _).mono ?_; rintro e w4 ⟨rfl, hw4⟩; exact ⟨rfl, _, hw4⟩)
      | (refine (hnO _).mono ?_; rintro e w4 ⟨rfl, hw4⟩; exact ⟨rfl, _, hw4⟩)))
    refine wpQuiet_nil ?_
    intro w5 h5
    go_wp2_with fail
    go_ret
    rw [HR'.out]
    exact ⟨rfl, h5.below⟩
  case false =>
  have eT : Hid (¬ T ≠ (k : Int)) := by show ¬ _; simpa using hT
  cases hF : (F == (k : Int))
  case true =>
    have e : F = (k : Int) := by simpa using hF
    rw [if_pos (Or.inr (Or.inl e))] at HR'
    clear e
    go_enter Tryz.func52, Tryz.ntmps52
    go_upto_region 1 with fail
    rw [← HW1.out]
    go_wp2_with fail
    refine wp_region_kept (Jn k Bp p b d l w.heap.size K F T Q O (.slice na nl nc) w) (by kernel_rfl) (by kernel_rfl) hJ.drew ?_
    repeat (go_big_quiet_step (first
      | (refine (me_any Jn.st').mono ?_; rintro e w4 ⟨rfl, hb4⟩; exact ⟨rfl, Jn.on hb4⟩)
      | (refine (hnF _).mono ?_; rintro e w4 ⟨rfl, hw4⟩; exact ⟨rfl, _, hw4⟩)
      | (refine (hnO _).mono ?_; rintro e w4 ⟨rfl, hw4⟩; exact ⟨rfl, _, hw4⟩)))
    refine wpQuiet_nil ?_
    intro w5 h5
    go_wp2_with fail
    go_ret
    rw [HR'.out]
    exact ⟨rfl, h5.below⟩
  case false =>
  have eF : Hid (¬ F = (k : Int)) := by show ¬ _; simpa using hF
  cases hb1 : nodeB F
  case false =>
    rw [if_pos (Or.inr (Or.inr (Or.inl hb1)))] at HR'
    rw [hb1] at hnF
    go_enter Tryz.func52, Tryz.ntmps52
    go_upto_region 1 with fail
    rw [← HW1.out]
    go_wp2_with fail
    refine wp_region_kept (Jn k Bp p b d l w.heap.size K F T Q O (.slice na nl nc) w) (by kernel_rfl) (by kernel_rfl) hJ.drew ?_
    repeat (go_big_quiet_step (first
      | (refine (me_any Jn.st').mono ?_; rintro e w4 ⟨rfl, hb4⟩; exact ⟨rfl, Jn.on hb4⟩)
      | (refine (hnF _).mono ?_; rintro e w4 ⟨rfl, hw4⟩; exact ⟨rfl, _, hw4⟩)
      | (refine (hnO _).mono ?_; rintro e w4 ⟨rfl, hw4⟩; exact ⟨rfl, _, hw4⟩)))
    refine wpQuiet_nil ?_
    intro w5 h5
    go_wp2_with fail
    go_ret
    rw [HR'.out]
    exact ⟨rfl, h5.below⟩
  case true =>
  rw [hb1] at hnF
  cases hb2 : nodeB O
  case false =>
    rw [if_pos (Or.inr (Or.inr (Or.inr hb2)))] at HR'
    rw [hb2] at hnO
    go_enter Tryz.func52, Tryz.ntmps52
    go_upto_region 1 with fail
    rw [← HW1.out]
    go_wp2_with fail
    refine wp_region_kept (Jn k Bp p b d l w.heap.size K F T Q O (.slice na nl nc) w) (by kernel_rfl) (by kernel_rfl) hJ.drew ?_
    repeat (go_big_quiet_step (first
      | (refine (me_any Jn.st').mono ?_; rintro e w4 ⟨rfl, hb4⟩; exact ⟨rfl, Jn.on hb4⟩)
      | (refine (hnF _).mono ?_; rintro e w4 ⟨rfl, hw4⟩; exact ⟨rfl, _, hw4⟩)
      | (refine (hnO _).mono ?_; rintro e w4 ⟨rfl, hw4⟩; exact ⟨rfl, _, hw4⟩)))
    refine wpQuiet_nil ?_
    intro w5 h5
    go_wp2_with fail
    go_ret
    rw [HR'.out]
    exact ⟨rfl, h5.below⟩
  case true =>
  rw [hb2] at hnO
  rw [if_neg (by rw [hb1, hb2]; rintro (e | e | e | e); exact eT.out e; exact eF.out e; cases e; cases e)] at HR'
  clear hb1 hb2
  by_cases hK1 : K < 1
  · rw [if_pos (Or.inl hK1)] at HR'
    go_enter Tryz.func52, Tryz.ntmps52
    go_upto_region 1 with fail
    rw [← HW1.out]
    go_wp2_with fail
    refine wp_region_kept (Jn k Bp p b d l w.heap.size K F T Q O (.slice na nl nc) w) (by kernel_rfl) (by kernel_rfl) hJ.drew ?_
    repeat (go_big_quiet_step (first
      | (refine (me_any Jn.st').mono ?_; rintro e w4 ⟨rfl, hb4⟩; exact ⟨rfl, Jn.on hb4⟩)
      | (refine (hnF _).mono ?_; rintro e w4 ⟨rfl, hw4⟩; exact ⟨rfl, _, hw4⟩)
      | (refine (hnO _).mono ?_; rintro e w4 ⟨rfl, hw4⟩; exact ⟨rfl, _, hw4⟩)))
    refine wpQuiet_nil ?_
    intro w5 h5
    have x0 := h5.box.c0
    go_wp2_with fail
    go_ret
    rw [HR'.out]
    exact ⟨rfl, h5.below⟩
  · by_cases hK3 : 3 < K
    · rw [if_pos (Or.inr hK3)] at HR'
      go_enter Tryz.func52, Tryz.ntmps52
      go_upto_region 1 with fail
      rw [← HW1.out]
      go_wp2_with fail
      refine wp_region_kept (Jn k Bp p b d l w.heap.size K F T Q O (.slice na nl nc) w) (by kernel_rfl) (by kernel_rfl) hJ.drew ?_
      repeat (go_big_quiet_step (first
        | (refine (me_any Jn.st').mono ?_; rintro e w4 ⟨rfl, hb4⟩; exact ⟨rfl, Jn.on hb4⟩)
        | (refine (hnF _).mono ?_; rintro e w4 ⟨rfl, hw4⟩; exact ⟨rfl, _, hw4⟩)
        | (refine (hnO _).mono ?_; rintro e w4 ⟨rfl, hw4⟩; exact ⟨rfl, _, hw4⟩)))
      refine wpQuiet_nil ?_
      intro w5 h5
      have x0 := h5.box.c0
      go_wp2_with fail
      go_ret
      rw [HR'.out]
      exact ⟨rfl, h5.below⟩
    · rw [if_neg (by omega)] at HR'
      go_enter Tryz.func52, Tryz.ntmps52
      go_upto_region 1 with fail
      rw [← HW1.out]
      go_wp2_with fail
      refine wp_region_kept (Jn k Bp p b d l w.heap.size K F T Q O (.slice na nl nc) w) (by kernel_rfl) (by kernel_rfl) hJ.drew ?_
      repeat (go_big_quiet_step (first
        | (refine (me_any Jn.st').mono ?_; rintro e w4 ⟨rfl, hb4⟩; exact ⟨rfl, Jn.on hb4⟩)
        | (refine (hnF _).mono ?_; rintro e w4 ⟨rfl, hw4⟩; exact ⟨rfl, _, hw4⟩)
        | (refine (hnO _).mono ?_; rintro e w4 ⟨rfl, hw4⟩; exact ⟨rfl, _, hw4⟩)))
      refine wpQuiet_nil ?_
      intro w5 h5
      have x0 := h5.box.c0
      go_wp2_with fail
      go_ret
      rw [HR'.out]
      exact ⟨rfl, h5.below⟩
end
end Go.Proofs.YtpoofjnfaijjjaaGreatDoor
