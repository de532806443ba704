/-
  Rows of errands: IndexFunc, DeleteFunc, Clone.
-/
import Derived.Test.YtpoofjnfaijjjaaGreatDoorMSlw
import Derived.Test.YtpoofjnfaijjjaaGreatDoorMClr
import Derived.Deep.RegionHeld3
namespace Go.Proofs.YtpoofjnfaijjjaaGreatDoor
open Go.RowKit Go.Proofs.YtpoofjnfaijjjaaGreatDoor.Ro

theorem Tryz.infoE : (Tryz.prog.info? 112).map (fun i => (i.zero, i.size, i.bytes)) = some (some (.agg #[.int .i64 0, .int .u64 0, .int .u64 0, .int .i64 0, .int .u64 0]), 5, 40) := by kernel_rfl
theorem Tryz.zeroE (w : World) : (zeroValue 112).run Tryz.prog w = .ok (.agg #[.int .i64 0, .int .u64 0, .int .u64 0, .int .i64 0, .int .u64 0]) w := by
  have h : Tryz.t112.zero = some (.agg #[.int .i64 0, .int .u64 0, .int .u64 0, .int .i64 0, .int .u64 0]) := by kernel_rfl
  simp [zeroValue, h]
section
variable {g cap : Nat} {l : List Ern} {w : World}
/-- A thing's cells. -/
abbrev cellsE (x : Ern) : Array Value := #[.int .i64 x.n, .int .u64 x.q, .int .u64 x.a, .int .i64 x.f, .int .u64 x.t]
theorem OwE.atE {T : TypeId} {B : Nat} {v : Value} (h : OwE encE T B v l w) (hv : v = .slice (some ⟨g, 0, none⟩) l.length cap) (j : Nat) (hj : j < l.length) : w.cell? ⟨g, j * 5, none⟩ = some (.int .i64 l[j].n) ∧ w.cell? ⟨g, j * 5 + 1, none⟩ = some (.int .u64 l[j].q) ∧ w.cell? ⟨g, j * 5 + 2, none⟩ = some (.int .u64 l[j].a) ∧ w.cell? ⟨g, j * 5 + 3, none⟩ = some (.int .i64 l[j].f) ∧ w.cell? ⟨g, j * 5 + 4, none⟩ = some (.int .u64 l[j].t) := by
  obtain ⟨a, c, e, _, _, h3⟩ := h.rd
  rw [hv] at e; cases e
  rcases h3 with h3 | ⟨g', off, e, h3⟩
  · omega
  · cases e
    have h0 := fun c hc => h3 j c hj hc
    simp only [Nat.zero_add] at h0
    exact ⟨h0 0 (by decide), h0 1 (by decide), h0 2 (by decide), h0 3 (by decide), h0 4 (by decide)⟩
/-- Block g is a box of such a thing. -/
structure BE (g : Nat) (x : Ern) (w : World) : Prop where
  heap : w.heap[g]? = some (.cells (cellsE x) 112 (0, 0))
theorem BE.c0 {x : Ern} (h : BE g x w) : w.cell? ⟨g, 0, none⟩ = some (.int .i64 x.n) := by simp [World.cell?, h.heap]
theorem BE.c1 {x : Ern} (h : BE g x w) : w.cell? ⟨g, 1, none⟩ = some (.int .u64 x.q) := by simp [World.cell?, h.heap]
theorem BE.c2 {x : Ern} (h : BE g x w) : w.cell? ⟨g, 2, none⟩ = some (.int .u64 x.a) := by simp [World.cell?, h.heap]
theorem BE.c3 {x : Ern} (h : BE g x w) : w.cell? ⟨g, 3, none⟩ = some (.int .i64 x.f) := by simp [World.cell?, h.heap]
theorem BE.c4 {x : Ern} (h : BE g x w) : w.cell? ⟨g, 4, none⟩ = some (.int .u64 x.t) := by simp [World.cell?, h.heap]
theorem BE.free {x : Ern} (h : BE g x w) (j : Nat) : w.frozen? ⟨g, j, none⟩ = false := free_of h.heap j
theorem BE.lt {x : Ern} (h : BE g x w) : g < w.heap.size := (Array.getElem?_eq_some_iff.1 h.heap).1
theorem BE.keep {x : Ern} {w' : World} (h : BE g x w) (e : w'.heap[g]? = w.heap[g]?) : BE g x w' := ⟨e.trans h.heap⟩
theorem BE.below {x : Ern} {w' : World} (h : BE g x w) (b : Below w.heap.size w w') : BE g x w' := h.keep (b.block g h.lt)
theorem BE.drew {x : Ern} (h : BE g x w) : BE g x w.drew := ⟨h.heap⟩
theorem BE.new (x : Ern) (w : World) : BE w.heap.size x (w.alloc (.cells (cellsE x) 112)) := ⟨heap_alloc_new w _⟩
theorem BE.rd {x : Ern} (h : BE g x w) : RdE encE (.slice (some ⟨g, 0, none⟩) 1 1) [x] w :=
  ⟨_, 1, rfl, Nat.le_refl _, by unfold maxLen; omega, Or.inr ⟨g, 0, rfl, fun j c hj hc => by
    obtain rfl : j = 0 := by simpa using hj
    have hc : c < 5 := hc
    simp [World.cell?, h.heap, encE, cellsE]⟩⟩

set_option maxRecDepth 100000 in
set_option maxHeartbeats 1000000 in
theorem indexfE_any (J : World → Prop) (hJb : ∀ w w', J w → Below w.heap.size w w' → J w') (F : FuncId) (caps : Array Value) (f : Ern → Bool) (hs : l.length ≤ 1000000) (hO : OwE encE 112 0 (.slice (some ⟨g, 0, none⟩) l.length cap) l w) (hF : ∀ args w', (callFunc F args).run Tryz.prog w' = .ok (.enter F args) w')
    (hcl : ∀ x ∈ l, ∀ w', J w' → Calls Tryz.prog F (#[.agg (cellsE x)] ++ caps) w' fun e w'' => e = .returned (.bool (f x)) ∧ Below w'.heap.size w' w'') (hJ : J w) :
    Calls Tryz.prog 78 #[.slice (some ⟨g, 0, none⟩) l.length cap, .func (.func F) #[] caps] w fun e w' => ((∃ n : Nat, e = .returned (.int .i64 n) ∧ ∃ h : n < l.length, f l[n] = true ∧ ∀ x ∈ l.take n, f x = false) ∨ (e = .returned (.int .i64 (-1)) ∧ ∀ x ∈ l, f x = false)) ∧ Below w.heap.size w w' := by
  go_enter Tryz.func78, Tryz.ntmps78
  go_wp2_with fail
  go_loopg [8] l.length (fun gk t8 wr => ∃ i : Nat, i + gk = l.length ∧ t8 = .int .i64 i ∧ (∀ x ∈ l.take i, f x = false) ∧ J wr ∧ Below w.heap.size w wr)
  case atStart => exact ⟨0, by omega, rfl, by simp, hJ, Below.refl _ _⟩
  case round =>
    obtain ⟨i, hi, rfl, hx, hJr, hB⟩ := hrel
    by_cases hlt : (i : Int) < l.length
    · have i0 : (0 : Int) ≤ i := by omega
      have hil : i < l.length := by omega
      obtain ⟨c0, c1, c2, c3, c4⟩ := (hO.below hB).atE rfl i hil
      have hb := hcl l[i] (List.getElem_mem hil) wr hJr
      have HX : Hid (∀ x ∈ l.take i, f x = false) := hx
      have hat : Hid (f l[i] = true → ∃ h : i < l.length, f l[i] = true ∧ ∀ x ∈ l.take i, f x = false) := fun e => ⟨hil, e, HX.out⟩
      have hns : Hid (f l[i] = false → ∀ x ∈ l.take (i + 1), f x = false) := fun e x hm => by
        rw [List.take_add_one, List.getElem?_eq_getElem hil] at hm
        rcases List.mem_append.1 hm with hm | hm
        · exact HX.out x hm
        · have e' : x = l[i] := by simpa using hm
          rw [e']; exact e
      clear hcl hx
      obtain ⟨y, HY⟩ : ∃ y, Hid (y = l[i]) := ⟨l[i], rfl⟩
      rw [← HY.out] at hb hns c0 c1 c2 c3 c4
      cases hbk : f y
      case false =>
        rw [hbk] at hb
        have hns := hns.out hbk
        go_wp2_with fail
        refine hb.mono ?_
        rintro e w1 ⟨rfl, hb1⟩
        go_wp2_with fail
        go_roundg (gk - 1)
        case rel => exact ⟨i + 1, by omega, by go_num, hns, hJb _ _ hJr hb1, hB.trans (hb1.mono hB.size)⟩
        case measure => omega
      case true =>
        rw [hbk] at hb
        have HK : Hid (f y = true) := hbk
        go_wp2_with fail
        refine hb.mono ?_
        rintro e w1 ⟨rfl, hb1⟩
        go_wp2_with fail
        go_ret
        exact ⟨Or.inl ⟨i, rfl, hat.out (by rw [← HY.out]; exact HK.out)⟩, hB.trans (hb1.mono hB.size)⟩
    · obtain rfl : i = l.length := by omega
      rw [List.take_length] at hx
      have HX : Hid _ := hx
      clear hx
      go_wp2_with fail
      go_ret
      exact ⟨Or.inr ⟨rfl, HX.out⟩, hB⟩

theorem Tryz.elemE : Tryz.prog.underlying 92 = some (.slice (Tryz.prog.elem 92)) := by kernel_rfl
theorem Tryz.sizeE (w : World) : (sizeOf (Tryz.prog.elem 92)).run Tryz.prog w = .ok 5 w := by
  rw [show Tryz.prog.elem 92 = 112 by kernel_rfl]
  simp [sizeOf]
  kernel_rfl
theorem cutE (g N i cap : Nat) (hi : i < N) (hN : N ≤ cap) : ∀ w', (Instr.slice 92 (.slice (some ⟨g, 0, none⟩) N cap) (some (.int .i64 (i : Int))) none none).run Tryz.prog w' = .ok (.slice (some ⟨g, i * 5, none⟩) (N - i) (cap - i)) w' := fun w' => by
  rw [run_slice_l (P := Tryz.prog) (w := w') 92 (some ⟨g, 0, none⟩) N cap Tryz.elemE .i64 (i : Int) (by omega) (by omega), Tryz.sizeE]
  show Result.ok (sliced _ _ _ _ _) _ = _
  rw [sliced, if_neg (by omega)]
  simp [Addr.add]
  omega
theorem but_b {g : Nat} {a w w' : World} (h : Ro.But a.heap.size g a w) (k : Below w.heap.size w w') : Ro.But a.heap.size g a w' := h.trans ((Ro.But.of k).mono h.size)

set_option maxRecDepth 100000 in
set_option maxHeartbeats 2000000 in
theorem deleteE_any (J : World → Prop) (hJb : ∀ w w', J w → Below w.heap.size w w' → J w') (hJs : ∀ w j v, J w → J (w.setCell ⟨g, j, none⟩ v)) (F : FuncId) (caps : Array Value) (f : Ern → Bool) (hs : l.length ≤ 1000000) (hO : OwE encE 112 0 (.slice (some ⟨g, 0, none⟩) l.length cap) l w) (hF : ∀ args w', (callFunc F args).run Tryz.prog w' = .ok (.enter F args) w')
    (hcl : ∀ x ∈ l, ∀ w', J w' → Calls Tryz.prog F (#[.agg (cellsE x)] ++ caps) w' fun e w'' => e = .returned (.bool (f x)) ∧ Below w'.heap.size w' w'') (hJ : J w) :
    Calls Tryz.prog 40 #[.slice (some ⟨g, 0, none⟩) l.length cap, .func (.func F) #[] caps] w fun e w' => (e = .returned (.slice (some ⟨g, 0, none⟩) (l.filter (fun x => !f x)).length cap) ∧ OwE encE 112 0 (.slice (some ⟨g, 0, none⟩) (l.filter (fun x => !f x)).length cap) (l.filter (fun x => !f x)) w') ∧ J w' ∧ Ro.But w.heap.size g w w' := by
  have hI := indexfE_any J hJb F caps f hs hO hF hcl hJ
  obtain ⟨_, hcur, _, hlc, hcm, _⟩ := hO.block rfl
  have hgz : g < w.heap.size := (Array.getElem?_eq_some_iff.1 hcur).1
  clear hcur
  obtain ⟨t, HT⟩ : ∃ t, Hid (l.filter (fun x => !f x) = t) := ⟨_, rfl⟩
  rw [HT.out]
  go_enter Tryz.func40, Tryz.ntmps40
  go_wp2_with fail
  refine hI.mono ?_
  rintro e w1 ⟨(⟨n, rfl, hn, hb, hx⟩ | ⟨rfl, hx⟩), hb1⟩
  · have HD : Hid (DelG f l l n (n + 1)) := DelG.start hn hb hx
    have hn1 : ((n : Int) == -1) = false := by rw [beq_eq_false_iff_ne]; omega
    have hJ1 := hJb _ _ hJ hb1
    have hO1 := hO.below hb1
    have hB1 : Ro.But w.heap.size g w w1 := Ro.But.of hb1
    clear hb hx hI hO hJ hb1
    go_wp2_with fail
    go_loopg [5, 6] l.length (fun gk t5 t6 wr => ∃ (i j : Nat) (r : List Ern), l.length ≤ j + gk ∧ t5 = .int .i64 i ∧ t6 = .int .i64 j ∧ Hid (DelG f l r i j) ∧ OwE encE 112 0 (.slice (some ⟨g, 0, none⟩) r.length cap) r wr ∧ J wr ∧ Ro.But w.heap.size g w wr)
    case atStart => exact ⟨n, n + 1, l, by omega, rfl, by go_num, HD, hO1, hJ1, hB1⟩
    case round =>
      obtain ⟨i, j, r, hg, rfl, rfl, HD, hOr, hJr, hB⟩ := hrel
      have hlen := HD.out.len
      have hij := HD.out.lt
      have hjl := HD.out.le
      by_cases hlt : (j : Int) < l.length
      · have hj : j < l.length := by omega
        have j0 : (0 : Int) ≤ j := by omega
        have i0 : (0 : Int) ≤ i := by omega
        have i1 : (i : Int) < l.length := by omega
        obtain ⟨c0, c1, c2, c3, c4⟩ := hOr.atE rfl j (by omega)
        rw [HD.out.at hj] at c0 c1 c2 c3 c4
        have hsk : f l[j] = true → Hid (DelG f l r i (j + 1)) := fun e => HD.out.skip hj e
        have hpt : f l[j] = false → Hid (DelG f l (r.set i l[j]) (i + 1) (j + 1)) := fun e => HD.out.put hj e
        have hcj := hcl l[j] (List.getElem_mem hj)
        clear HD
        generalize l[j] = y at *
        have bY := below_alloc wr (.cells (cellsE y) 112)
        have hY := BE.new y wr
        have hO2 := hOr.below bY
        have hJ2 := hJb _ _ hJr bY
        have hB2 := but_b hB bY
        have hb := hcj _ hJ2
        obtain ⟨w2, HW2⟩ : ∃ w2, Hid (w2 = wr.alloc (.cells (cellsE y) 112)) := ⟨_, rfl⟩
        rw [← HW2.out] at hY hO2 hJ2 hB2 hb
        have x0 := hY.c0
        have x1 := hY.c1
        have x2 := hY.c2
        have x3 := hY.c3
        have x4 := hY.c4
        cases hbk : f y
        case true =>
          have hsk := hsk hbk
          rw [hbk] at hb
          clear hpt
          go_upto_region 8 with fail
          rw [← HW2.out]
          go_wp2_with fail
          refine hb.mono ?_
          rintro e w3 ⟨rfl, hb3⟩
          go_wp2_with fail
          go_roundg (gk - 1)
          case rel => exact ⟨i, j + 1, r, by omega, rfl, by go_num, hsk, hO2.below hb3, hJb _ _ hJ2 hb3, but_b hB2 hb3⟩
          case measure => omega
        case false =>
          have hpt := hpt hbk
          rw [hbk] at hb
          clear hsk
          go_upto_region 8 with fail
          rw [← HW2.out]
          go_wp2_with fail
          refine hb.mono ?_
          rintro e w3 ⟨rfl, hb3⟩
          have hY3 := hY.below hb3
          have hO3 := hO2.below hb3
          have hJ3 := hJb _ _ hJ2 hb3
          have hB3 := but_b hB2 hb3
          obtain ⟨e0, e1, e2, e3, e4⟩ := hO3.atE rfl i (by omega)
          have f0 := hO3.free rfl (i * 5)
          have f1 := hO3.free rfl (i * 5 + 1)
          have f2 := hO3.free rfl (i * 5 + 2)
          have f3 := hO3.free rfl (i * 5 + 3)
          have f4 := hO3.free rfl (i * 5 + 4)
          clear x0 x1 x2 x3 x4
          have x0 := hY3.c0
          have x1 := hY3.c1
          have x2 := hY3.c2
          have x3 := hY3.c3
          have x4 := hY3.c4
          have hO4 := hO3.set rfl i (by omega) y
          have hB4 := (Ro.But.setCell (Ro.But.setCell (Ro.But.setCell (Ro.But.setCell (Ro.But.setCell hB3 (r := ⟨g, i * 5, none⟩) (Or.inl rfl) (.int .i64 y.n)) (r := ⟨g, i * 5 + 1, none⟩) (Or.inl rfl) (.int .u64 y.q)) (r := ⟨g, i * 5 + 2, none⟩) (Or.inl rfl) (.int .u64 y.a)) (r := ⟨g, i * 5 + 3, none⟩) (Or.inl rfl) (.int .i64 y.f)) (r := ⟨g, i * 5 + 4, none⟩) (Or.inl rfl) (.int .u64 y.t))
          have hJ4 := (hJs _ (i * 5 + 4) (.int .u64 y.t) (hJs _ (i * 5 + 3) (.int .i64 y.f) (hJs _ (i * 5 + 2) (.int .u64 y.a) (hJs _ (i * 5 + 1) (.int .u64 y.q) (hJs _ (i * 5) (.int .i64 y.n) hJ3)))))
          obtain ⟨w4, HW4⟩ : ∃ w4, Hid (w4 = ((((w3.setCell ⟨g, i * 5, none⟩ (.int .i64 y.n)).setCell ⟨g, i * 5 + 1, none⟩ (.int .u64 y.q)).setCell ⟨g, i * 5 + 2, none⟩ (.int .u64 y.a)).setCell ⟨g, i * 5 + 3, none⟩ (.int .i64 y.f)).setCell ⟨g, i * 5 + 4, none⟩ (.int .u64 y.t)) := ⟨_, rfl⟩
          have hO4' : OwE encE 112 0 (.slice (some ⟨g, 0, none⟩) r.length cap) (r.set i y) w4 := by rw [HW4.out]; exact hO4
          rw [← HW4.out] at hB4 hJ4
          generalize r[i]'(by omega) = z at *
          go_wp2_with fail
          rw [← HW4.out]
          go_roundg (gk - 1)
          case rel => exact ⟨i + 1, j + 1, r.set i y, by omega, by go_num, by go_num, hpt, by rw [List.length_set]; exact hO4', hJ4, hB4⟩
          case measure => omega
      · obtain rfl : j = l.length := by omega
        have hd := HD.out.done
        rw [List.take_length, HT.out] at hd
        have hti : t.length = i := by rw [← hd, List.length_take]; omega
        have hcut := cutE g l.length i cap hij hlc
        have hclear := fun ty => run_clear_rows (P := Tryz.prog) wr 92 112 ty (.agg #[.int .i64 0, .int .u64 0, .int .u64 0, .int .i64 0, .int .u64 0]) Tryz.underlying92 Tryz.zeroE (by decide) g (i * 5) (l.length - i) (cap - i) (by omega) (fun m hm => hOr.some_ rfl _ (by show _ < cap * 5; have : m < (l.length - i) * 5 := hm; omega)) (fun m _ => hOr.free rfl _)
        have hOc := hOr.cut rfl i (by omega) (i * 5) (Nat.le_refl _) (Builtin.zeroCells (Value.agg #[.int .i64 0, .int .u64 0, .int .u64 0, .int .i64 0, .int .u64 0]).cells (l.length - i)).toList
        have hBc := but_setCells (Builtin.zeroCells (Value.agg #[.int .i64 0, .int .u64 0, .int .u64 0, .int .i64 0, .int .u64 0]).cells (l.length - i)).toList (i * 5) wr hB
        have hJc : ∀ (vs : List Value) (o : Nat) (w : World), J w → J (w.setCells g o vs) := fun vs => by
          induction vs with
          | nil => intro o w h; exact h
          | cons v r ih => intro o w h; exact ih _ _ (hJs _ _ _ h)
        have hJc := hJc (Builtin.zeroCells (Value.agg #[.int .i64 0, .int .u64 0, .int .u64 0, .int .i64 0, .int .u64 0]).cells (l.length - i)).toList (i * 5) wr hJr
        generalize wr.setCells g (i * 5) (Builtin.zeroCells (Value.agg #[.int .i64 0, .int .u64 0, .int .u64 0, .int .i64 0, .int .u64 0]).cells (l.length - i)).toList = w5 at *
        rw [hd] at hOc
        have HOC : Hid _ := hOc
        have hic : (i : Int) ≤ cap := by omega
        have HD' : Hid _ := hti
        clear hd hcl HD hOc hOr hti
        go_wp2_with fail
        go_ret
        rw [HD'.out]
        exact ⟨⟨rfl, HOC.out⟩, hJc, hBc⟩
  · have ht : l = t := by rw [← HT.out]; exact (List.filter_eq_self.2 (fun x hm => by rw [hx x hm]; rfl)).symm
    have hJ1 := hJb _ _ hJ hb1
    have hO1 := hO.below hb1
    have hB1 : Ro.But w.heap.size g w w1 := Ro.But.of hb1
    clear hx hI
    subst ht
    go_wp2_with fail
    go_ret
    exact ⟨⟨rfl, hO1⟩, hJ1, hB1⟩
end
end Go.Proofs.YtpoofjnfaijjjaaGreatDoor
