/-
  Rows of errands: IndexFunc, DeleteFunc, Clone. slices.Delete of one errand; slices.Clone of errands and of watches. Rows of notes that are said. pinged; fault. acked: its closures, and it. acked. fault.
-/
import Derived.Test.YtpoofjnfaijjjaaGreatDoorMEru
namespace Go.Proofs.YtpoofjnfaijjjaaGreatDoor
open Go.RowKit Go.Proofs.YtpoofjnfaijjjaaGreatDoor.Ro
theorem Tryz.infoE : (Tryz.prog.info? 112).map (fun i => (i.zero, i.size, i.bytes)) = some (some (.agg #[.int .i64 0, .int .u64 0, .int .u64 0, .int .i64 0, .int .u64 0]), 5, 40) := by kernel_rfl
theorem Tryz.zeroE (w : World) : (zeroValue 112).run Tryz.prog w = .ok (.agg #[.int .i64 0, .int .u64 0, .int .u64 0, .int .i64 0, .int .u64 0]) w := by
  have h : Tryz.t112.zero = some (.agg #[.int .i64 0, .int .u64 0, .int .u64 0, .int .i64 0, .int .u64 0]) := by kernel_rfl
  simp [zeroValue, h]
section
variable {g cap : Nat} {l : List Ern} {w : World}
abbrev cellsE (x : Ern) : Array Value := #[.int .i64 x.n, .int .u64 x.q, .int .u64 x.a, .int .i64 x.f, .int .u64 x.t]
theorem OwE.atE {T : TypeId} {B : Nat} {v : Value} (h : OwE encE T B v l w) (hv : v = .slice (some ⟨g, 0, none⟩) l.length cap) (j : Nat) (hj : j < l.length) : w.cell? ⟨g, j * 5, none⟩ = some (.int .i64 l[j].n) ∧ w.cell? ⟨g, j * 5 + 1, none⟩ = some (.int .u64 l[j].q) ∧ w.cell? ⟨g, j * 5 + 2, none⟩ = some (.int .u64 l[j].a) ∧ w.cell? ⟨g, j * 5 + 3, none⟩ = some (.int .i64 l[j].f) ∧ w.cell? ⟨g, j * 5 + 4, none⟩ = some (.int .u64 l[j].t) := by
  obtain ⟨a, c, e, _, _, h3⟩ := h.rd
  rw [hv] at e; cases e
  rcases h3 with h3 | ⟨g', off, e, h3⟩
  · omega
  · cases e
    have h0 := fun c hc => h3 j c hj hc
    simp only [Nat.zero_add] at h0
    exact ⟨h0 0 (by decide), h0 1 (by decide), h0 2 (by decide), h0 3 (by decide), h0 4 (by decide)⟩
structure BE (g : Nat) (x : Ern) (w : World) : Prop where
  heap : w.heap[g]? = some (.cells (cellsE x) 112 (0, 0))
theorem BE.c0 {x : Ern} (h : BE g x w) : w.cell? ⟨g, 0, none⟩ = some (.int .i64 x.n) := by simp [World.cell?, h.heap]
theorem BE.c1 {x : Ern} (h : BE g x w) : w.cell? ⟨g, 1, none⟩ = some (.int .u64 x.q) := by simp [World.cell?, h.heap]
theorem BE.c2 {x : Ern} (h : BE g x w) : w.cell? ⟨g, 2, none⟩ = some (.int .u64 x.a) := by simp [World.cell?, h.heap]
theorem BE.c3 {x : Ern} (h : BE g x w) : w.cell? ⟨g, 3, none⟩ = some (.int .i64 x.f) := by simp [World.cell?, h.heap]
theorem BE.c4 {x : Ern} (h : BE g x w) : w.cell? ⟨g, 4, none⟩ = some (.int .u64 x.t) := by simp [World.cell?, h.heap]
theorem BE.lt {x : Ern} (h : BE g x w) : g < w.heap.size := (Array.getElem?_eq_some_iff.1 h.heap).1
theorem BE.keep {x : Ern} {w' : World} (h : BE g x w) (e : w'.heap[g]? = w.heap[g]?) : BE g x w' := ⟨e.trans h.heap⟩
theorem BE.below {x : Ern} {w' : World} (h : BE g x w) (b : Below w.heap.size w w') : BE g x w' := h.keep (b.block g h.lt)
theorem BE.drew {x : Ern} (h : BE g x w) : BE g x w.drew := ⟨h.heap⟩
theorem BE.new (x : Ern) (w : World) : BE w.heap.size x (w.alloc (.cells (cellsE x) 112)) := ⟨heap_alloc_new w _⟩
theorem BE.rd {x : Ern} (h : BE g x w) : RdE encE (.slice (some ⟨g, 0, none⟩) 1 1) [x] w :=
  ⟨_, 1, rfl, Nat.le_refl _, by unfold maxLen; omega, Or.inr ⟨g, 0, rfl, fun j c hj hc => by
    obtain rfl : j = 0 := by simpa using hj
    have hc : c < 5 := hc
    simp [World.cell?, h.heap, encE, cellsE]⟩⟩
set_option maxRecDepth 100000 in
set_option maxHeartbeats 1000000 in
theorem indexfE_any (J : World → Prop) (hJb : ∀ w w', J w → Below w.heap.size w w' → J w') (F : FuncId) (caps : Array Value) (f : Ern → Bool) (hs : l.length ≤ 1000000) (hO : OwE encE 112 0 (.slice (some ⟨g, 0, none⟩) l.length cap) l w) (hF : ∀ args w', (callFunc F args).run Tryz.prog w' = .ok (.enter F args) w')
    (hcl : ∀ x ∈ l, ∀ w', J w' → Calls Tryz.prog F (#[.agg (cellsE x)] ++ caps) w' fun e w'' => e = .returned (.bool (f x)) ∧ Below w'.heap.size w' w'') (hJ : J w) :
    Calls Tryz.prog 78 #[.slice (some ⟨g, 0, none⟩) l.length cap, .func (.func F) #[] caps] w fun e w' => ((∃ n : Nat, e = .returned (.int .i64 n) ∧ ∃ h : n < l.length, f l[n] = true ∧ ∀ x ∈ l.take n, f x = false) ∨ (e = .returned (.int .i64 (-1)) ∧ ∀ x ∈ l, f x = false)) ∧ Below w.heap.size w w' := by
  go_enter Tryz.func78, Tryz.ntmps78
  go_wp2_with fail
  go_loopg [8] l.length (fun gk t8 wr => ∃ i : Nat, i + gk = l.length ∧ t8 = .int .i64 i ∧ (∀ x ∈ l.take i, f x = false) ∧ J wr ∧ Below w.heap.size w wr)
  case atStart => exact ⟨0, by omega, rfl, by simp, hJ, Below.refl _ _⟩
  case round =>
    obtain ⟨i, hi, rfl, hx, hJr, hB⟩ := hrel
    by_cases hlt : (i : Int) < l.length
    · have i0 : (0 : Int) ≤ i := by omega
      have hil : i < l.length := by omega
      obtain ⟨c0, c1, c2, c3, c4⟩ := (hO.below hB).atE rfl i hil
      have hb := hcl l[i] (List.getElem_mem hil) wr hJr
      have HX : Hid (∀ x ∈ l.take i, f x = false) := hx
      have hat : Hid (f l[i] = true → ∃ h : i < l.length, f l[i] = true ∧ ∀ x ∈ l.take i, f x = false) := fun e => ⟨hil, e, HX.out⟩
      have hns : Hid (f l[i] = false → ∀ x ∈ l.take (i + 1), f x = false) := fun e x hm => by
        rw [List.take_add_one, List.getElem?_eq_getElem hil] at hm
        rcases List.mem_append.1 hm with hm | hm
        · exact HX.out x hm
        · have e' : x = l[i] := by simpa using hm
          rw [e']; exact e
      clear hcl hx
      obtain ⟨y, HY⟩ : ∃ y, Hid (y = l[i]) := ⟨l[i], rfl⟩
      rw [← HY.out] at hb hns c0 c1 c2 c3 c4
      cases hbk : f y
      case false =>
        rw [hbk] at hb
        have hns := hns.out hbk
        go_wp2_with fail
        refine hb.mono ?_
        rintro e w1 ⟨rfl, hb1⟩
        go_wp2_with fail
        go_roundg (gk - 1)
        case rel => exact ⟨i + 1, by omega, by go_num, hns, hJb _ _ hJr hb1, hB.trans (hb1.mono hB.size)⟩
        case measure => omega
      case true =>
        rw [hbk] at hb
        have HK : Hid (f y = true) := hbk
        go_wp2_with fail
        refine hb.mono ?_
        rintro e w1 ⟨rfl, hb1⟩
        go_wp2_with fail
        go_ret
        exact ⟨Or.inl ⟨i, rfl, hat.out (by rw [← HY.out]; exact HK.out)⟩, hB.trans (hb1.mono hB.size)⟩
    · obtain rfl : i = l.length := by omega
      rw [List.take_length] at hx
      have HX : Hid _ := hx
      clear hx
      go_wp2_with fail
      go_ret
      exact ⟨Or.inr ⟨rfl, HX.out⟩, hB⟩
theorem Tryz.elemE : Tryz.prog.underlying 92 = some (.slice (Tryz.prog.elem 92)) := by kernel_rfl
theorem Tryz.sizeE (w : World) : (sizeOf (Tryz.prog.elem 92)).run Tryz.prog w = .ok 5 w := by
  rw [show Tryz.prog.elem 92 = 112 by kernel_rfl]
  simp [sizeOf]
  kernel_rfl
theorem cutE (g N i cap : Nat) (hi : i < N) (hN : N ≤ cap) : ∀ w', (Instr.slice 92 (.slice (some ⟨g, 0, none⟩) N cap) (some (.int .i64 (i : Int))) none none).run Tryz.prog w' = .ok (.slice (some ⟨g, i * 5, none⟩) (N - i) (cap - i)) w' := fun w' => by
  rw [run_slice_l (P := Tryz.prog) (w := w') 92 (some ⟨g, 0, none⟩) N cap Tryz.elemE .i64 (i : Int) (by omega) (by omega), Tryz.sizeE]
  show Result.ok (sliced _ _ _ _ _) _ = _
  rw [sliced, if_neg (by omega)]
  simp [Addr.add]
  omega
theorem but_b {g : Nat} {a w w' : World} (h : Ro.But a.heap.size g a w) (k : Below w.heap.size w w') : Ro.But a.heap.size g a w' := h.trans ((Ro.But.of k).mono h.size)
set_option maxRecDepth 100000 in
set_option maxHeartbeats 2000000 in
theorem deleteE_any (J : World → Prop) (hJb : ∀ w w', J w → Below w.heap.size w w' → J w') (hJs : ∀ w j v, J w → J (w.setCell ⟨g, j, none⟩ v)) (F : FuncId) (caps : Array Value) (f : Ern → Bool) (hs : l.length ≤ 1000000) (hO : OwE encE 112 0 (.slice (some ⟨g, 0, none⟩) l.length cap) l w) (hF : ∀ args w', (callFunc F args).run Tryz.prog w' = .ok (.enter F args) w')
    (hcl : ∀ x ∈ l, ∀ w', J w' → Calls Tryz.prog F (#[.agg (cellsE x)] ++ caps) w' fun e w'' => e = .returned (.bool (f x)) ∧ Below w'.heap.size w' w'') (hJ : J w) :
    Calls Tryz.prog 40 #[.slice (some ⟨g, 0, none⟩) l.length cap, .func (.func F) #[] caps] w fun e w' => (e = .returned (.slice (some ⟨g, 0, none⟩) (l.filter (fun x => !f x)).length cap) ∧ OwE encE 112 0 (.slice (some ⟨g, 0, none⟩) (l.filter (fun x => !f x)).length cap) (l.filter (fun x => !f x)) w') ∧ J w' ∧ Ro.But w.heap.size g w w' := by
  have hI := indexfE_any J hJb F caps f hs hO hF hcl hJ
  obtain ⟨_, hcur, _, hlc, hcm, _⟩ := hO.block rfl
  have hgz : g < w.heap.size := (Array.getElem?_eq_some_iff.1 hcur).1
  clear hcur
  obtain ⟨t, HT⟩ : ∃ t, Hid (l.filter (fun x => !f x) = t) := ⟨_, rfl⟩
  rw [HT.out]
  go_enter Tryz.func40, Tryz.ntmps40
  go_wp2_with fail
  refine hI.mono ?_
  rintro e w1 ⟨(⟨n, rfl, hn, hb, hx⟩ | ⟨rfl, hx⟩), hb1⟩
  · have HD : Hid (DelG f l l n (n + 1)) := DelG.start hn hb hx
    have hn1 : ((n : Int) == -1) = false := by rw [beq_eq_false_iff_ne]; omega
    have hJ1 := hJb _ _ hJ hb1
    have hO1 := hO.below hb1
    have hB1 : Ro.But w.heap.size g w w1 := Ro.But.of hb1
    clear hb hx hI hO hJ hb1
    go_wp2_with fail
    go_loopg [5, 6] l.length (fun gk t5 t6 wr => ∃ (i j : Nat) (r : List Ern), l.length ≤ j + gk ∧ t5 = .int .i64 i ∧ t6 = .int .i64 j ∧ Hid (DelG f l r i j) ∧ OwE encE 112 0 (.slice (some ⟨g, 0, none⟩) r.length cap) r wr ∧ J wr ∧ Ro.But w.heap.size g w wr)
    case atStart => exact ⟨n, n + 1, l, by omega, rfl, by go_num, HD, hO1, hJ1, hB1⟩
    case round =>
      obtain ⟨i, j, r, hg, rfl, rfl, HD, hOr, hJr, hB⟩ := hrel
      have hlen := HD.out.len
      have hij := HD.out.lt
      have hjl := HD.out.le
      by_cases hlt : (j : Int) < l.length
      · have hj : j < l.length := by omega
        have j0 : (0 : Int) ≤ j := by omega
        have i0 : (0 : Int) ≤ i := by omega
        have i1 : (i : Int) < l.length := by omega
        obtain ⟨c0, c1, c2, c3, c4⟩ := hOr.atE rfl j (by omega)
        rw [HD.out.at hj] at c0 c1 c2 c3 c4
        have hsk : f l[j] = true → Hid (DelG f l r i (j + 1)) := fun e => HD.out.skip hj e
        have hpt : f l[j] = false → Hid (DelG f l (r.set i l[j]) (i + 1) (j + 1)) := fun e => HD.out.put hj e
        have hcj := hcl l[j] (List.getElem_mem hj)
        clear HD
        generalize l[j] = y at *
        have bY := below_alloc wr (.cells (cellsE y) 112)
        have hY := BE.new y wr
        have hO2 := hOr.below bY
        have hJ2 := hJb _ _ hJr bY
        have hB2 := but_b hB bY
        have hb := hcj _ hJ2
        obtain ⟨w2, HW2⟩ : ∃ w2, Hid (w2 = wr.alloc (.cells (cellsE y) 112)) := ⟨_, rfl⟩
        rw [← HW2.out] at hY hO2 hJ2 hB2 hb
        have x0 := hY.c0
        have x1 := hY.c1
        have x2 := hY.c2
        have x3 := hY.c3
        have x4 := hY.c4
        cases hbk : f y
        case true =>
          have hsk := hsk hbk
          rw [hbk] at hb
          clear hpt
          go_upto_region 8 with fail
          rw [← HW2.out]
          go_wp2_with fail
          refine hb.mono ?_
          rintro e w3 ⟨rfl, hb3⟩
          go_wp2_with fail
          go_roundg (gk - 1)
          case rel => exact ⟨i, j + 1, r, by omega, rfl, by go_num, hsk, hO2.below hb3, hJb _ _ hJ2 hb3, but_b hB2 hb3⟩
          case measure => omega
        case false =>
          have hpt := hpt hbk
          rw [hbk] at hb
          clear hsk
          go_upto_region 8 with fail
          rw [← HW2.out]
          go_wp2_with fail
          refine hb.mono ?_
          rintro e w3 ⟨rfl, hb3⟩
          have hY3 := hY.below hb3
          have hO3 := hO2.below hb3
          have hJ3 := hJb _ _ hJ2 hb3
          have hB3 := but_b hB2 hb3
          obtain ⟨e0, e1, e2, e3, e4⟩ := hO3.atE rfl i (by omega)
          have f0 := hO3.free rfl (i * 5)
          have f1 := hO3.free rfl (i * 5 + 1)
          have f2 := hO3.free rfl (i * 5 + 2)
          have f3 := hO3.free rfl (i * 5 + 3)
          have f4 := hO3.free rfl (i * 5 + 4)
          clear x0 x1 x2 x3 x4
          have x0 := hY3.c0
          have x1 := hY3.c1
          have x2 := hY3.c2
          have x3 := hY3.c3
          have x4 := hY3.c4
          have hO4 := hO3.set rfl i (by omega) y
          have hB4 := (Ro.But.setCell (Ro.But.setCell (Ro.But.setCell (Ro.But.setCell (Ro.But.setCell hB3 (r := ⟨g, i * 5, none⟩) (Or.inl rfl) (.int .i64 y.n)) (r := ⟨g, i * 5 + 1, none⟩) (Or.inl rfl) (.int .u64 y.q)) (r := ⟨g, i * 5 + 2, none⟩) (Or.inl rfl) (.int .u64 y.a)) (r := ⟨g, i * 5 + 3, none⟩) (Or.inl rfl) (.int .i64 y.f)) (r := ⟨g, i * 5 + 4, none⟩) (Or.inl rfl) (.int .u64 y.t))
          have hJ4 := (hJs _ (i * 5 + 4) (.int .u64 y.t) (hJs _ (i * 5 + 3) (.int .i64 y.f) (hJs _ (i * 5 + 2) (.int .u64 y.a) (hJs _ (i * 5 + 1) (.int .u64 y.q) (hJs _ (i * 5) (.int .i64 y.n) hJ3)))))
          obtain ⟨w4, HW4⟩ : ∃ w4, Hid (w4 = ((((w3.setCell ⟨g, i * 5, none⟩ (.int .i64 y.n)).setCell ⟨g, i * 5 + 1, none⟩ (.int .u64 y.q)).setCell ⟨g, i * 5 + 2, none⟩ (.int .u64 y.a)).setCell ⟨g, i * 5 + 3, none⟩ (.int .i64 y.f)).setCell ⟨g, i * 5 + 4, none⟩ (.int .u64 y.t)) := ⟨_, rfl⟩
          have hO4' : OwE encE 112 0 (.slice (some ⟨g, 0, none⟩) r.length cap) (r.set i y) w4 := by rw [HW4.out]; exact hO4
          rw [← HW4.out] at hB4 hJ4
          generalize r[i]'(by omega) = z at *
          go_wp2_with fail
          rw [← HW4.out]
          go_roundg (gk - 1)
          case rel => exact ⟨i + 1, j + 1, r.set i y, by omega, by go_num, by go_num, hpt, by rw [List.length_set]; exact hO4', hJ4, hB4⟩
          case measure => omega
      · obtain rfl : j = l.length := by omega
        have hd := HD.out.done
        rw [List.take_length, HT.out] at hd
        have hti : t.length = i := by rw [← hd, List.length_take]; omega
        have hcut := cutE g l.length i cap hij hlc
        have hclear := fun ty => run_clear_rows (P := Tryz.prog) wr 92 112 ty (.agg #[.int .i64 0, .int .u64 0, .int .u64 0, .int .i64 0, .int .u64 0]) Tryz.underlying92 Tryz.zeroE (by decide) g (i * 5) (l.length - i) (cap - i) (by omega) (fun m hm => hOr.some_ rfl _ (by show _ < cap * 5; have : m < (l.length - i) * 5 := hm; omega)) (fun m _ => hOr.free rfl _)
        have hOc := hOr.cut rfl i (by omega) (i * 5) (Nat.le_refl _) (Builtin.zeroCells (Value.agg #[.int .i64 0, .int .u64 0, .int .u64 0, .int .i64 0, .int .u64 0]).cells (l.length - i)).toList
        have hBc := but_setCells (Builtin.zeroCells (Value.agg #[.int .i64 0, .int .u64 0, .int .u64 0, .int .i64 0, .int .u64 0]).cells (l.length - i)).toList (i * 5) wr hB
        have hJc : ∀ (vs : List Value) (o : Nat) (w : World), J w → J (w.setCells g o vs) := fun vs => by
          induction vs with
          | nil => intro o w h; exact h
          | cons v r ih => intro o w h; exact ih _ _ (hJs _ _ _ h)
        have hJc := hJc (Builtin.zeroCells (Value.agg #[.int .i64 0, .int .u64 0, .int .u64 0, .int .i64 0, .int .u64 0]).cells (l.length - i)).toList (i * 5) wr hJr
        generalize wr.setCells g (i * 5) (Builtin.zeroCells (Value.agg #[.int .i64 0, .int .u64 0, .int .u64 0, .int .i64 0, .int .u64 0]).cells (l.length - i)).toList = w5 at *
        rw [hd] at hOc
        have HOC : Hid _ := hOc
        have hic : (i : Int) ≤ cap := by omega
        have HD' : Hid _ := hti
        clear hd hcl HD hOc hOr hti
        go_wp2_with fail
        go_ret
        rw [HD'.out]
        exact ⟨⟨rfl, HOC.out⟩, hJc, hBc⟩
  · have ht : l = t := by rw [← HT.out]; exact (List.filter_eq_self.2 (fun x hm => by rw [hx x hm]; rfl)).symm
    have hJ1 := hJb _ _ hJ hb1
    have hO1 := hO.below hb1
    have hB1 : Ro.But w.heap.size g w w1 := Ro.But.of hb1
    clear hx hI
    subst ht
    go_wp2_with fail
    go_ret
    exact ⟨⟨rfl, hO1⟩, hJ1, hB1⟩
end
theorem Enc.flat_drop {α : Type} (E : Enc α) (l : List α) : ∀ n, (E.flat l).drop (n * E.sz) = E.flat (l.drop n) := by
  induction l with
  | nil => intro n; simp [Enc.flat]
  | cons u r ih =>
    intro n
    cases n with
    | zero => simp [Enc.flat]
    | succ n =>
      rw [List.drop_succ_cons, Enc.flat, Nat.succ_mul, ← ih n, List.drop_append, E.len, List.drop_of_length_le (by rw [E.len]; omega), show n * E.sz + E.sz - E.sz = n * E.sz from by omega]
      rfl
theorem wp_fitsE {α : Type} {E : Enc α} {T ST : TypeId} {z : Value} {bytes : Nat} (hST : Tryz.prog.underlying ST = some (.slice T)) (hinfo : (Tryz.prog.info? T).map (fun i => (i.zero, i.size, i.bytes)) = some (some z, E.sz, bytes)) {o : Oper} {a : Act} {K : Act → World → Prop} {Q : Exit → Act → World → Prop} (w : World) (s x : Operand)
    (ho : o.op = .call { callee := .builtin .append, args := #[s, x], argTypes := #[ST, ST] }) (B g n cap : Nat) (l : List α) (hs : a.eval s = .slice (some ⟨g, 0, none⟩) n cap) (hn : n = l.length) (hown : OwE E T B (.slice (some ⟨g, 0, none⟩) n cap) l w)
    (ad : Addr) (m c : Nat) (r : List α) (hx : a.eval x = .slice (some ad) m c) (hm : m = r.length) (hcells : ∀ j u, (E.flat r)[j]? = some u → w.cell? (ad.add j) = some u) (hroom : n + m ≤ cap) (N : Nat) (hN : n + m = N)
    (h : ∀ w', OwE E T B (.slice (some ⟨g, 0, none⟩) N cap) (l ++ r) w' → w.grownBy w' (some g) → K (a.put o.dst (.slice (some ⟨g, 0, none⟩) N cap)) w') : o.wp Tryz.prog a w K Q := by
  obtain ⟨i0, hi, _, hz1, _⟩ := info_parts hinfo
  subst hn hm hN
  obtain ⟨w', hr, h2, h3⟩ := run_append_fits (P := Tryz.prog) w B ST o.type T i0 E.sz hST hi hz1 g l.length cap (E.flat l) hown ad r.length c (E.flat r) (E.flat_length r) hcells (E.flat_cell r) hroom
  unfold Oper.wp execOp
  simp only [ho, resolve, invoke, builtin, Sem.run_bind, Sem.run_pure, Result.andThen_ok, List.map_toArray, List.map_cons, List.map_nil, hs, hx, hr]
  refine h w' ?_ h3
  unfold OwE
  rw [E.flat_append, List.length_append]
  exact h2
theorem step_fitsE {α : Type} {E : Enc α} {T ST : TypeId} {z : Value} {bytes : Nat} (hST : Tryz.prog.underlying ST = some (.slice T)) (hinfo : (Tryz.prog.info? T).map (fun i => (i.zero, i.size, i.bytes)) = some (some z, E.sz, bytes)) {ops : Array Oper} {o : Oper} {a : Act} {K : Act → World → Prop} {Q : Exit → Act → World → Prop} {F : Prop} (w : World) (hgd : o.guard = none) (s x : Operand)
    (ho : o.op = .call { callee := .builtin .append, args := #[s, x], argTypes := #[ST, ST] }) (B g n cap : Nat) (l : List α) (hs : a.eval s = .slice (some ⟨g, 0, none⟩) n cap) (hn : n = l.length) (hown : OwE E T B (.slice (some ⟨g, 0, none⟩) n cap) l w)
    (ad : Addr) (m c : Nat) (r : List α) (hx : a.eval x = .slice (some ad) m c) (hm : m = r.length) (hcells : ∀ j u, (E.flat r)[j]? = some u → w.cell? (ad.add j) = some u) (hroom : n + m ≤ cap) (N : Nat) (hN : n + m = N)
    (h : ∀ w', OwE E T B (.slice (some ⟨g, 0, none⟩) N cap) (l ++ r) w' → w.grownBy w' (some g) → K (a.put o.dst (.slice (some ⟨g, 0, none⟩) N cap)) w') :
    if Region.wanted o (yielded ops a.tmps) = true then Oper.wp Tryz.prog o a w K Q else F := by
  have hw : Region.wanted o (yielded ops a.tmps) = true := by simp [Region.wanted, hgd]
  rw [if_pos hw]
  exact wp_fitsE hST hinfo w s x ho B g n cap l hs hn hown ad m c r hx hm hcells hroom N hN h
theorem OwE.empty {α : Type} (E : Enc α) (T : TypeId) (B g : Nat) {w : World} (h : w.heap[g]? = some (.cells #[] T (0, 0))) (hB : B ≤ g) : OwE E T B (.slice (some ⟨g, 0, none⟩) 0 0) [] w :=
  ⟨by simp [Enc.flat], Or.inr ⟨g, 0, #[], rfl, hB, h, Nat.le_refl _, Nat.zero_le _, by simp, by simp [Enc.flat]⟩⟩
set_option maxRecDepth 100000 in
set_option maxHeartbeats 1000000 in
theorem cloneW_any (v : Value) (l : List Wch) (w : World) (hl : l.length ≤ 1000000) (hO : OwE encW 133 0 v l w) :
    Calls Tryz.prog 106 #[v] w fun e w' => (∃ v', e = .returned v' ∧ OwE encW 133 w.heap.size v' l w') ∧ Below w.heap.size w w' := by
  have hq : ∀ (w : World) (a : Option Addr) (n c n' c' : Nat), (binOp .eql 91 (.slice a n c) (.slice none n' c')).run Tryz.prog w = .ok (.bool a.isNone) w := fun w a n c n' c' => Lib.run_eql_slice_nil w _ _ a n c n' c' Tryz.underlying91
  rcases id hO.2 with ⟨rfl, h0⟩ | ⟨g, cap, cur, rfl, _, _, hlc, _⟩
  · obtain rfl : l = [] := List.length_eq_zero_iff.1 h0
    go_enter Tryz.func106, Tryz.ntmps106
    go_wp2_with fail
    go_ret
    exact ⟨⟨_, rfl, OwE.nil _ _ _ _⟩, Below.refl _ _⟩
  · have ba := below_alloc w (.cells #[] 133)
    have hE := OwE.empty encW 133 w.heap.size w.heap.size (heap_alloc_new w (.cells #[] 133)) (Nat.le_refl _)
    have hR := (hO.below ba).rd
    have hz := ba.size
    go_enter Tryz.func106, Tryz.ntmps106
    go_wp2_with (at_builtin; go_must (refine wpList_appE Tryz.underlying91 Tryz.infoW (by decide) (by decide) _ rfl (.tmp 5) (.tmp 6) rfl w.heap.size _ [] rfl hE hz g 0 cap l l.length rfl rfl hR (by simp; omega) ?_; intro v' w' h1 h3 h4; obtain ⟨a', c', rfl, _⟩ := (show ∃ a' c', v' = .slice a' l.length c' ∧ True from by obtain ⟨a', c', e, _⟩ := h1.len; exact ⟨a', c', e, trivial⟩)))
    go_ret
    exact ⟨⟨_, rfl, h1⟩, bG ba h3 fun g hg => by cases hg; exact Nat.le_refl _⟩
set_option maxRecDepth 100000 in
set_option maxHeartbeats 1000000 in
theorem cloneE_any (v : Value) (l : List Ern) (w : World) (hl : l.length ≤ 1000000) (hO : OwE encE 112 0 v l w) :
    Calls Tryz.prog 107 #[v] w fun e w' => (∃ v', e = .returned v' ∧ OwE encE 112 w.heap.size v' l w') ∧ Below w.heap.size w w' := by
  have hq : ∀ (w : World) (a : Option Addr) (n c n' c' : Nat), (binOp .eql 92 (.slice a n c) (.slice none n' c')).run Tryz.prog w = .ok (.bool a.isNone) w := fun w a n c n' c' => Lib.run_eql_slice_nil w _ _ a n c n' c' Tryz.underlying92
  rcases id hO.2 with ⟨rfl, h0⟩ | ⟨g, cap, cur, rfl, _, _, hlc, _⟩
  · obtain rfl : l = [] := List.length_eq_zero_iff.1 h0
    go_enter Tryz.func107, Tryz.ntmps107
    go_wp2_with fail
    go_ret
    exact ⟨⟨_, rfl, OwE.nil _ _ _ _⟩, Below.refl _ _⟩
  · have ba := below_alloc w (.cells #[] 112)
    have hE := OwE.empty encE 112 w.heap.size w.heap.size (heap_alloc_new w (.cells #[] 112)) (Nat.le_refl _)
    have hR := (hO.below ba).rd
    have hz := ba.size
    go_enter Tryz.func107, Tryz.ntmps107
    go_wp2_with (at_builtin; go_must (refine wpList_appE Tryz.underlying92 Tryz.infoE (by decide) (by decide) _ rfl (.tmp 5) (.tmp 6) rfl w.heap.size _ [] rfl hE hz g 0 cap l l.length rfl rfl hR (by simp; omega) ?_; intro v' w' h1 h3 h4; obtain ⟨a', c', rfl, _⟩ := (show ∃ a' c', v' = .slice a' l.length c' ∧ True from by obtain ⟨a', c', e, _⟩ := h1.len; exact ⟨a', c', e, trivial⟩)))
    go_ret
    exact ⟨⟨_, rfl, h1⟩, bG ba h3 fun g hg => by cases hg; exact Nat.le_refl _⟩
set_option maxRecDepth 100000 in
set_option maxHeartbeats 2000000 in
theorem delete1_any (g cap : Nat) (l : List Ern) (i : Nat) (hi : i < l.length) (hl : l.length ≤ 1000000) (w : World) (hO : OwE encE 112 0 (.slice (some ⟨g, 0, none⟩) l.length cap) l w) :
    Calls Tryz.prog 148 #[.slice (some ⟨g, 0, none⟩) l.length cap, .int .i64 (i : Int), .int .i64 ((i : Int) + 1)] w fun e w' => (e = .returned (.slice (some ⟨g, 0, none⟩) (l.eraseIdx i).length cap) ∧ OwE encE 112 0 (.slice (some ⟨g, 0, none⟩) (l.eraseIdx i).length cap) (l.eraseIdx i) w') ∧ Ro.But w.heap.size g w w' := by
  obtain ⟨cur, hcur, _, hlc, hcm, _, _, _⟩ := hO.block rfl
  have hgz : g < w.heap.size := (Array.getElem?_eq_some_iff.1 hcur).1
  clear hcur
  have hpre := hO.take rfl i (Nat.le_of_lt hi)
  have hcellsW : ∀ j u, (encE.flat l)[j]? = some u → w.cell? ((⟨g, 0, none⟩ : Addr).add j) = some u := World.ownsRow.cells hO (g := g) rfl
  have her : l.take i ++ l.drop (i + 1) = l.eraseIdx i := (List.eraseIdx_eq_take_drop_succ l i).symm
  have hel : (l.eraseIdx i).length + 1 = l.length := by rw [List.length_eraseIdx, if_pos hi]; omega
  obtain ⟨ad, hs2, hcells⟩ : ∃ ad, (∀ w', (Instr.slice 92 (.slice (some ⟨g, 0, none⟩) l.length cap) (some (.int .i64 ((i : Int) + 1))) none none).run Tryz.prog w' = .ok (.slice (some ad) (l.length - (i + 1)) (cap - (i + 1))) w') ∧ ∀ j u, (encE.flat (l.drop (i + 1)))[j]? = some u → w.cell? (ad.add j) = some u := by
    have hr : ∀ w', (Instr.slice 92 (.slice (some ⟨g, 0, none⟩) l.length cap) (some (.int .i64 ((i : Int) + 1))) none none).run Tryz.prog w' = .ok (sliced (some ⟨g, 0, none⟩) (i + 1) l.length cap 5) w' := fun w' => by
      have := run_slice_l (P := Tryz.prog) (w := w') 92 (some ⟨g, 0, none⟩) l.length cap Tryz.elemE .i64 ((i : Int) + 1) (by omega) (by omega)
      rw [Tryz.sizeE] at this
      rw [show ((i : Int) + 1).toNat = i + 1 from by omega] at this
      exact this
    by_cases hc : cap = i + 1
    · refine ⟨⟨g, 0, none⟩, fun w' => by rw [hr, sliced, if_pos hc], fun j u hu => ?_⟩
      rw [List.drop_of_length_le (by omega)] at hu
      simp [Enc.flat] at hu
    · refine ⟨⟨g, (i + 1) * 5, none⟩, fun w' => by rw [hr, sliced, if_neg hc]; simp [Addr.add], fun j u hu => ?_⟩
      rw [← encE.flat_drop, List.getElem?_drop] at hu
      have := hcellsW _ _ hu
      rw [Ro.add_off] at this ⊢
      rw [Nat.zero_add] at this
      exact this
  obtain ⟨v3, h3s⟩ : ∃ v3, ∀ w', (Instr.slice 92 (.slice (some ⟨g, 0, none⟩) l.length cap) (some (.int .i64 (i : Int))) (some (.int .i64 ((i : Int) + 1))) (some (.int .i64 (l.length : Int)))).run Tryz.prog w' = .ok v3 w' :=
    ⟨_, fun w' => by rw [run_slice_lhm (P := Tryz.prog) (w := w') 92 (some ⟨g, 0, none⟩) l.length cap Tryz.elemE .i64 .i64 .i64 (i : Int) ((i : Int) + 1) (l.length : Int) (by omega) (by omega) (by omega) (by omega), Tryz.sizeE]; rfl⟩
  have h1s : ∀ w', (Instr.slice 92 (.slice (some ⟨g, 0, none⟩) l.length cap) none (some (.int .i64 (i : Int))) none).run Tryz.prog w' = .ok (.slice (some ⟨g, 0, none⟩) i cap) w' := fun w' => by
    rw [run_slice_h (P := Tryz.prog) (w := w') 92 (some ⟨g, 0, none⟩) l.length cap Tryz.elemE .i64 (i : Int) (by omega) (by omega), Tryz.sizeE]
    show Result.ok (sliced _ _ _ _ _) _ = _
    rw [sliced]
    simp [Addr.add]
  obtain ⟨M, HM⟩ : ∃ M, Hid ((l.eraseIdx i).length = M) := ⟨_, rfl⟩
  rw [HM.out] at hel ⊢
  have h4s : ∀ w', (Instr.slice 92 (.slice (some ⟨g, 0, none⟩) M cap) (some (.int .i64 (M : Int))) (some (.int .i64 (l.length : Int))) none).run Tryz.prog w' = .ok (.slice (some ⟨g, M * 5, none⟩) 1 (cap - M)) w' := fun w' => by
    rw [run_slice_lh (P := Tryz.prog) (w := w') 92 (some ⟨g, 0, none⟩) M cap Tryz.elemE .i64 .i64 (M : Int) (l.length : Int) (by omega) (by omega) (by omega), Tryz.sizeE]
    show Result.ok (sliced _ _ _ _ _) _ = _
    rw [sliced, if_neg (by omega)]
    simp [Addr.add]
    omega
  have hne : ((i : Int) == (i : Int) + 1) = false := by rw [beq_eq_false_iff_ne]; omega
  have hdl : (l.drop (i + 1)).length = l.length - (i + 1) := List.length_drop
  have hpre' : OwE encE 112 0 (.slice (some ⟨g, 0, none⟩) i cap) (l.take i) w.drew := hpre.keep fun _ _ _ => rfl
  have hcells' : ∀ j u, (encE.flat (l.drop (i + 1)))[j]? = some u → w.drew.cell? (ad.add j) = some u := hcells
  have htl : i = (l.take i).length := by rw [List.length_take]; omega
  have HC : Hid _ := hcells'
  have HP : Hid _ := hpre'
  have HTL : Hid _ := htl
  have HDL : Hid _ := hdl.symm
  have HER : Hid _ := her
  clear hcells hcells' hcellsW hpre hpre' htl hdl her
  go_enter Tryz.func148, Tryz.ntmps148
  go_upto_region 5 with fail
  go_region_law (
    refine step_fitsE Tryz.underlying92 Tryz.infoE w.drew (by rfl) (.tmp 22) (.tmp 25) (by rfl) 0 g i cap (l.take i) (by rfl) HTL.out HP.out ad (l.length - (i + 1)) (cap - (i + 1)) (l.drop (i + 1)) (by rfl) HDL.out HC.out (by omega) M (by omega) ?_
    intro w4 hO4 hg4)
  all_goals
    rw [HER.out] at hO4
    have hclear := fun ty => run_clear_rows (P := Tryz.prog) w4 92 112 ty (.agg #[.int .i64 0, .int .u64 0, .int .u64 0, .int .i64 0, .int .u64 0]) Tryz.underlying92 Tryz.zeroE (by decide) g (M * 5) 1 (cap - M) (by omega) (fun m hm => hO4.some_ rfl _ (by show _ < cap * 5; have : m < 1 * 5 := hm; omega)) (fun m _ => hO4.free rfl _)
    have hOc := hO4.cut (by rw [HM.out]) M (by rw [HM.out]; exact Nat.le_refl _) (M * 5) (Nat.le_refl _) (Builtin.zeroCells (Value.agg #[.int .i64 0, .int .u64 0, .int .u64 0, .int .i64 0, .int .u64 0]).cells 1).toList
    rw [List.take_of_length_le (by rw [HM.out]; exact Nat.le_refl _)] at hOc
    have hB4 : Ro.But w.heap.size g w w4 := ⟨hg4.os, hg4.tape, hg4.output, hg4.size, fun q hq hne => hg4.block q hq (fun e => hne (Option.some.inj e))⟩
    have hBc := but_setCells (Builtin.zeroCells (Value.agg #[.int .i64 0, .int .u64 0, .int .u64 0, .int .i64 0, .int .u64 0]).cells 1).toList (M * 5) w4 hB4
    generalize w4.setCells g (M * 5) (Builtin.zeroCells (Value.agg #[.int .i64 0, .int .u64 0, .int .u64 0, .int .i64 0, .int .u64 0]).cells 1).toList = w5 at *
    go_wp2_with fail
    go_ret
    exact ⟨⟨rfl, hOc⟩, hBc⟩
structure NtX where
  n : Nte
  a : Option Addr
  L : Nat
  c : Nat
def encN : Enc NtX := ⟨6, fun x => [.int .i64 x.n.k, .int .i64 x.n.f, .int .i64 x.n.t, .int .u64 x.n.q, .int .i64 x.n.o, .slice x.a x.L x.c], fun _ => rfl, fun x v hv => by
  simp only [List.mem_cons, List.not_mem_nil, or_false] at hv
  rcases hv with rfl | rfl | rfl | rfl | rfl | rfl <;> rfl, by decide⟩
theorem Tryz.infoN : (Tryz.prog.info? 37).map (fun i => (i.zero, i.size, i.bytes)) = some (some (.agg (ntC 0 0 0 0 0 (.slice none 0 0))), 6, 64) := by kernel_rfl
structure Sd (p : Nat) (b : Bl) (w0 : World) (v : Value) (X : List NtX) (w : World) : Prop where
  row : OwE encN 37 w0.heap.size v X w
  away : ∀ g, v.ownBlock = some g → Away p b w g
  news : ∀ x ∈ X, Ro.Own w0.heap.size (.slice x.a x.L x.c) x.n.u w
  naw : ∀ x ∈ X, ∀ g, (Value.slice x.a x.L x.c).ownBlock = some g → Away p b w g
section
variable {p : Nat} {b b' : Bl} {w0 w w' : World} {v : Value} {X : List NtX}
theorem Sd.stp (h : Sd p b w0 v X w) (s : Stp p b w b' w') : Sd p b' w0 v X w' :=
  ⟨h.row.keep fun g hg _ => s.keep (h.away g hg), fun g hg => (h.away g hg).stp s, fun x hx => (h.news x hx).keep fun g hg _ => s.keep (h.naw x hx g hg), fun x hx g hg => (h.naw x hx g hg).stp s⟩
theorem Sd.up {v0 : World} (h : Sd p b w0 v X w) (hz : v0.heap.size ≤ w0.heap.size) : Sd p b v0 v X w := ⟨h.row.mono hz, h.away, fun x hx => Ro.Own.mono (h.news x hx) hz, h.naw⟩
theorem Sd.nil (p : Nat) (b : Bl) (w0 w : World) : Sd p b w0 (.slice none 0 0) [] w := ⟨OwE.nil _ _ _ _, (fun g hg => by cases hg), (fun x hx => by cases hx), (fun x hx => by cases hx)⟩
theorem own_type {B : Nat} {v : Value} {l : List Upd} {w : World} (h : Ro.Own B v l w) {g : Nat} (hg : v.ownBlock = some g) : ∃ cur, w.heap[g]? = some (.cells cur 39 (0, 0)) := by
  rcases h.2 with ⟨rfl, _⟩ | ⟨g', cap, cur, rfl, _, h1, _⟩
  · cases hg
  · cases hg; exact ⟨cur, h1⟩
theorem owe_type {α : Type} {E : Enc α} {T : TypeId} {B : Nat} {v : Value} {l : List α} {w : World} (h : OwE E T B v l w) {g : Nat} (hg : v.ownBlock = some g) : ∃ cur, w.heap[g]? = some (.cells cur T (0, 0)) := by
  rcases h.2 with ⟨rfl, _⟩ | ⟨g', cap, cur, rfl, _, h1, _⟩
  · cases hg
  · cases hg; exact ⟨cur, h1⟩
theorem Sd.apart (h : Sd p b w0 v X w) {B : Nat} {u : Value} {l : List Upd} (hu : Ro.Own B u l w) {g : Nat} (hg : u.ownBlock = some g) : v.ownBlock ≠ some g := fun e => by
  obtain ⟨c1, e1⟩ := owe_type h.row e
  obtain ⟨c2, e2⟩ := own_type hu hg
  rw [e1] at e2
  simp at e2
theorem Sd.one {k Bp : Nat} {d : Det} {l : List Int} {n : Nte} {a : Option Addr} {L c : Nat} (h : Sx k Bp p b d l w) (hz : w0.heap.size ≤ w.heap.size) (hO : Ro.Own w0.heap.size (.slice a L c) n.u w) (hA : ∀ g, (Value.slice a L c).ownBlock = some g → Away p b w g) :
    Sd p b w0 (.slice (some ⟨w.heap.size, 0, none⟩) 1 1) [⟨n, a, L, c⟩] (w.alloc (.cells (ntC n.k n.f n.t n.q n.o (.slice a L c)) 37)) := by
  have ba : Below w.heap.size w (w.alloc (.cells (ntC n.k n.f n.t n.q n.o (.slice a L c)) 37)) := below_alloc _ _
  refine ⟨⟨rfl, Or.inr ⟨w.heap.size, 1, _, rfl, hz, heap_alloc_new w _, Nat.le_refl _, by unfold maxLen; omega, rfl, rfl⟩⟩, fun g hg => ?_, fun x hx => ?_, fun x hx g hg => ?_⟩
  · cases hg; exact h.away (Nat.le_refl _) (by simp)
  · obtain rfl := List.mem_singleton.1 hx
    exact hO.below ba
  · obtain rfl := List.mem_singleton.1 hx
    exact (hA g hg).stp (Stp.of ba)
theorem Sd.app {u v' : Value} {Y : List NtX} {k Bp : Nat} {d : Det} {l : List Int} (hS : Sx k Bp p b d l w) (h : Sd p b w0 v X w) (k' : Sd p b w0 u Y w) (hrow : OwE encN 37 w0.heap.size v' (X ++ Y) w') (hg : w.grownBy w' v.ownBlock) (hv : v'.ownBlock = v.ownBlock ∨ v'.ownBlock = some w.heap.size) (hlt : ∀ g, v'.ownBlock = some g → g < w'.heap.size) :
    Sd p b w0 v' (X ++ Y) w' := by
  have hA : ∀ g, Away p b w g → Away p b w' g := fun g a => ⟨Nat.lt_of_lt_of_le a.lt hg.size, a.p, a.own⟩
  refine ⟨hrow, fun g e => ?_, fun x hx => ?_, fun x hx g e => ?_⟩
  · rcases hv with e' | e'
    · exact hA g (h.away g (e'.symm.trans e))
    · rw [e'] at e; cases e
      exact hS.away (Nat.le_refl _) (hlt _ e')
  · rcases List.mem_append.1 hx with hx | hx
    · exact (h.news x hx).keep fun g e hlt => hg.block g hlt (fun e' => h.apart (h.news x hx) e e'.symm)
    · exact (k'.news x hx).keep fun g e hlt => hg.block g hlt (fun e' => h.apart (k'.news x hx) e e'.symm)
  · rcases List.mem_append.1 hx with hx | hx
    · exact hA g (h.naw x hx g e)
    · exact hA g (k'.naw x hx g e)
end
section
variable {k Bp p : Nat} {b : Bl} {d : Det} {l : List Int} {w : World}
theorem news_away (h : Sx k Bp p b d l w) {w' : World} {v : Value} {N : List Upd} (hO : Ro.Own w.heap.size v N w') : ∀ g, v.ownBlock = some g → Away p b w' g := fun g hg => h.away (hO.lt g hg).1 (hO.lt g hg).2
theorem Bn.stp {g : Nat} {K F T Q O : Int} {v : Value} {b' : Bl} {w' : World} (h : Bn g K F T Q O v w) (hA : Away p b w g) (s : Stp p b w b' w') : Bn g K F T Q O v w' := h.keep (s.keep hA)
set_option maxRecDepth 100000 in
set_option maxHeartbeats 1000000 in
theorem pinged_any (h : Sx k Bp p b d l w) (K F T Q O : Int) (na : Option Addr) (nl nc : Nat) :
    Calls Tryz.prog 103 #[.pointer (some ⟨b.q, 0, none⟩), .agg (ntC K F T Q O (.slice na nl nc))] w fun e w' => ∃ v X, e = .returned v ∧ Sd p b w v X w' ∧ X.map NtX.n = [⟨2, k, F, Q, k, d.news k F⟩] ∧ Sx k Bp p b (d.told k F) l w' ∧ Stp p b w b w' := by
  have ba := below_alloc w (.cells (ntC K F T Q O (.slice na nl nc)) 37)
  have hN := Bn.new K F T Q O (.slice na nl nc) w
  have h1 := h.below ba
  have hA := h.away (w' := w.alloc (.cells (ntC K F T Q O (.slice na nl nc)) 37)) (Nat.le_refl _) hN.lt
  obtain ⟨w1, HW1⟩ : ∃ w1, Hid (w1 = w.alloc (.cells (ntC K F T Q O (.slice na nl nc)) 37)) := ⟨_, rfl⟩
  rw [← HW1.out] at ba hN h1 hA
  have hS1 := And.intro hN.c1 hN.c3
  go_enter Tryz.func103, Tryz.ntmps103
  go_upto_region 1 with fail
  rw [← HW1.out]
  go_region_held3 (fun w' => w'.cell? ⟨w.heap.size, 1, none⟩ = some (.int .i64 F) ∧ w'.cell? ⟨w.heap.size, 3, none⟩ = some (.int .u64 Q)) (first | exact hS1 | exact hS2 | exact hS3 | exact And.intro (hN3.below (below_alloc _ _)).c1 (hN3.below (below_alloc _ _)).c3) ((first
    | (go_at_call 44; refine (me_any h1.drew).mono ?_; rintro e w2 ⟨rfl, hb2⟩; have h2 := h1.drew.below hb2; have hN2 := hN.drew.below hb2; have hA2 := hA.drew.stp (Stp.of hb2); have hS2 := And.intro hN2.c1 hN2.c3)
    | (go_at_call 122; refine (say_any h2 2 0 F Q k).mono ?_; rintro e w3 ⟨v3, rfl, hO3, h3, s3⟩; obtain ⟨a3, L3, c3, rfl⟩ : ∃ a L c, v3 = .slice a L c := (by obtain ⟨a, cap, e, _⟩ := hO3.ru; exact ⟨a, _, cap, e⟩); have hN3 := hN2.stp hA2 s3; have hS3 := And.intro hN3.c1 hN3.c3)))
  all_goals
    go_wp2_with fail
    go_ret
    have S3 : Stp p b w b w3 := ((Stp.of ba).drew.then hb2).trans s3
    have hz : w.heap.size ≤ w2.heap.size := ((Stp.of (p := p) (b := b) ba).drew.then hb2).size
    have b3 := below_alloc w3 (.cells (ntC 2 k F Q k (.slice a3 L3 c3)) 37)
    have hsd := Sd.one (w0 := w) (n := ⟨2, k, F, Q, k, d.news k F⟩) h3 S3.size (Ro.Own.mono hO3 hz) (news_away h2 hO3)
    exact ⟨_, _, rfl, hsd, rfl, h3.below b3, S3.then b3⟩
end
theorem find_at {α : Type} (f : α → Bool) : ∀ (l : List α) (i : Nat) (h : i < l.length), f l[i] = true → (∀ x ∈ l.take i, f x = false) → l.find? f = some l[i] ∧ l.eraseP f = l.eraseIdx i
  | x :: r, 0, _, h1, _ => by
    have h1 : f x = true := h1
    simp [h1]
  | x :: r, i + 1, h, h1, h2 => by
    have hx : f x = false := h2 x (by simp)
    have ih := find_at f r i (by simpa using h) h1 fun y hy => h2 y (by simp [hy])
    simp [hx, ih.1, ih.2]
section
variable {w : World}
set_option maxRecDepth 100000 in
set_option maxHeartbeats 400000 in
theorem indexfE_nil (F : FuncId) (caps : Array Value) : Calls Tryz.prog 78 #[.slice none 0 0, .func (.func F) #[] caps] w fun e w' => e = .returned (.int .i64 (-1)) ∧ w' = w := by
  go_enter Tryz.func78, Tryz.ntmps78
  go_wp2_with fail
  go_loopg [8] 0 (fun gk t8 wr => t8 = .int .i64 0 ∧ wr = w)
  case atStart => exact ⟨rfl, rfl⟩
  case round =>
    obtain ⟨rfl, rfl⟩ := hrel
    go_wp2_with fail
    go_ret
    exact ⟨rfl, rfl⟩
set_option maxRecDepth 100000 in
set_option maxHeartbeats 400000 in
theorem indexfW_nil (F : FuncId) (caps : Array Value) : Calls Tryz.prog 176 #[.slice none 0 0, .func (.func F) #[] caps] w fun e w' => e = .returned (.int .i64 (-1)) ∧ w' = w := by
  go_enter Tryz.func176, Tryz.ntmps176
  go_wp2_with fail
  go_loopg [8] 0 (fun gk t8 wr => t8 = .int .i64 0 ∧ wr = w)
  case atStart => exact ⟨rfl, rfl⟩
  case round =>
    obtain ⟨rfl, rfl⟩ := hrel
    go_wp2_with fail
    go_ret
    exact ⟨rfl, rfl⟩
set_option maxRecDepth 100000 in
set_option maxHeartbeats 400000 in
theorem deleteE_nil (F : FuncId) (caps : Array Value) : Calls Tryz.prog 40 #[.slice none 0 0, .func (.func F) #[] caps] w fun e w' => e = .returned (.slice none 0 0) ∧ w' = w := by
  go_enter Tryz.func40, Tryz.ntmps40
  go_wp2_with fail
  refine (indexfE_nil F caps).mono ?_
  rintro e w1 ⟨rfl, rfl⟩
  go_wp2_with fail
  go_ret
  exact ⟨rfl, rfl⟩
set_option maxRecDepth 100000 in
set_option maxHeartbeats 400000 in
theorem deleteW_nil (F : FuncId) (caps : Array Value) : Calls Tryz.prog 146 #[.slice none 0 0, .func (.func F) #[] caps] w fun e w' => e = .returned (.slice none 0 0) ∧ w' = w := by
  go_enter Tryz.func146, Tryz.ntmps146
  go_wp2_with fail
  refine (indexfW_nil F caps).mono ?_
  rintro e w1 ⟨rfl, rfl⟩
  go_wp2_with fail
  go_ret
  exact ⟨rfl, rfl⟩
set_option maxRecDepth 100000 in
set_option maxHeartbeats 400000 in
theorem acked1_any {g : Nat} {K F T Q O : Int} {v : Value} (hN : Bn g K F T Q O v w) (x : Ern) : Calls Tryz.prog 145 (#[.agg (cellsE x)] ++ #[.pointer (some ⟨g, 0, none⟩)]) w fun e w' => e = .returned (.bool (x.q == Q && x.n == F)) ∧ Below w.heap.size w w' := by
  have ba := below_alloc w (.cells (cellsE x) 112)
  have hX := BE.new x w
  have hN1 := hN.below ba
  have n1 := hN1.c1
  have n3 := hN1.c3
  have x0 := hX.c0
  have x1 := hX.c1
  cases h1 : (x.q == Q) <;> cases h2 : (x.n == F)
  all_goals
    go_enter Tryz.func145, Tryz.ntmps145
    go_wp2_with fail
    go_ret
    exact ⟨rfl, ba⟩
set_option maxRecDepth 100000 in
set_option maxHeartbeats 400000 in
theorem acked2_any {g : Nat} {K F T Q O : Int} {v : Value} (hN : Bn g K F T Q O v w) (x : Wch) : Calls Tryz.prog 147 (#[.agg (cellsW x)] ++ #[.pointer (some ⟨g, 0, none⟩)]) w fun e w' => e = .returned (.bool (x.q == Q && x.n == O)) ∧ Below w.heap.size w w' := by
  have ba := below_alloc w (.cells (cellsW x) 133)
  have hX := BW.new x w
  have hN1 := hN.below ba
  have n3 := hN1.c3
  have n4 := hN1.c4
  have x0 := hX.c0
  have x1 := hX.c1
  cases h1 : (x.q == Q) <;> cases h2 : (x.n == O)
  all_goals
    go_enter Tryz.func147, Tryz.ntmps147
    go_wp2_with fail
    go_ret
    exact ⟨rfl, ba⟩
end
theorem grown_of {g : Nat} {w w' : World} (h : Ro.But w.heap.size g w w') : w.grownBy w' (some g) := ⟨h.os, h.tape, h.output, h.size, fun k hk hn => h.block k hk (fun e => hn (by rw [e]))⟩
theorem grown_below {w w' : World} {r : Option Nat} (h : Below w.heap.size w w') : w.grownBy w' r := ⟨h.os, h.tape, h.output, h.size, fun k hk _ => h.block k hk⟩
section
variable {w : World}
theorem indexE_any (J : World → Prop) (hJb : ∀ w w', J w → Below w.heap.size w w' → J w') (F : FuncId) (caps : Array Value) (f : Ern → Bool) {v : Value} {l : List Ern} (hs : l.length ≤ 1000000) (hO : OwE encE 112 0 v l w) (hF : ∀ args w', (callFunc F args).run Tryz.prog w' = .ok (.enter F args) w')
    (hcl : ∀ x ∈ l, ∀ w', J w' → Calls Tryz.prog F (#[.agg (cellsE x)] ++ caps) w' fun e w'' => e = .returned (.bool (f x)) ∧ Below w'.heap.size w' w'') (hJ : J w) :
    Calls Tryz.prog 78 #[v, .func (.func F) #[] caps] w fun e w' => ((∃ n : Nat, e = .returned (.int .i64 n) ∧ ∃ h : n < l.length, f l[n] = true ∧ ∀ x ∈ l.take n, f x = false) ∨ (e = .returned (.int .i64 (-1)) ∧ ∀ x ∈ l, f x = false)) ∧ Below w.heap.size w w' := by
  rcases id hO.2 with ⟨rfl, h0⟩ | ⟨g, cap, cur, rfl, _⟩
  · obtain rfl : l = [] := List.length_eq_zero_iff.1 h0
    refine (indexfE_nil F caps).mono ?_
    rintro e w' ⟨rfl, rfl⟩
    exact ⟨.inr ⟨rfl, by simp⟩, Below.refl _ _⟩
  · exact indexfE_any J hJb F caps f hs hO hF hcl hJ
theorem deletesE_any (J : World → Prop) (hJb : ∀ w w', J w → Below w.heap.size w w' → J w') (F : FuncId) (caps : Array Value) (f : Ern → Bool) {v : Value} {l : List Ern} (hJs : ∀ g, v.ownBlock = some g → ∀ w j u, J w → J (w.setCell ⟨g, j, none⟩ u)) (hs : l.length ≤ 1000000) (hO : OwE encE 112 0 v l w) (hF : ∀ args w', (callFunc F args).run Tryz.prog w' = .ok (.enter F args) w')
    (hcl : ∀ x ∈ l, ∀ w', J w' → Calls Tryz.prog F (#[.agg (cellsE x)] ++ caps) w' fun e w'' => e = .returned (.bool (f x)) ∧ Below w'.heap.size w' w'') (hJ : J w) :
    Calls Tryz.prog 40 #[v, .func (.func F) #[] caps] w fun e w' => ∃ a L c, e = .returned (.slice a L c) ∧ OwE encE 112 0 (.slice a L c) (l.filter (fun x => !f x)) w' ∧ (Value.slice a L c).ownBlock = v.ownBlock ∧ w.grownBy w' v.ownBlock ∧ J w' := by
  rcases id hO.2 with ⟨rfl, h0⟩ | ⟨g, cap, cur, rfl, _⟩
  · obtain rfl : l = [] := List.length_eq_zero_iff.1 h0
    refine (deleteE_nil F caps).mono ?_
    rintro e w' ⟨rfl, rfl⟩
    exact ⟨none, 0, 0, rfl, hO, rfl, grown_below (Below.refl _ _), hJ⟩
  · refine (deleteE_any J hJb (hJs g rfl) F caps f hs hO hF hcl hJ).mono ?_
    rintro e w' ⟨⟨rfl, hO'⟩, hJ', hB⟩
    exact ⟨_, _, cap, rfl, hO', rfl, grown_of hB, hJ'⟩
theorem deletesW_any (J : World → Prop) (hJb : ∀ w w', J w → Below w.heap.size w w' → J w') (F : FuncId) (caps : Array Value) (f : Wch → Bool) {v : Value} {l : List Wch} (hJs : ∀ g, v.ownBlock = some g → ∀ w j u, J w → J (w.setCell ⟨g, j, none⟩ u)) (hs : l.length ≤ 1000000) (hO : OwE encW 133 0 v l w) (hF : ∀ args w', (callFunc F args).run Tryz.prog w' = .ok (.enter F args) w')
    (hcl : ∀ x ∈ l, ∀ w', J w' → Calls Tryz.prog F (#[.agg (cellsW x)] ++ caps) w' fun e w'' => e = .returned (.bool (f x)) ∧ Below w'.heap.size w' w'') (hJ : J w) :
    Calls Tryz.prog 146 #[v, .func (.func F) #[] caps] w fun e w' => ∃ a L c, e = .returned (.slice a L c) ∧ OwE encW 133 0 (.slice a L c) (l.filter (fun x => !f x)) w' ∧ (Value.slice a L c).ownBlock = v.ownBlock ∧ w.grownBy w' v.ownBlock ∧ J w' := by
  rcases id hO.2 with ⟨rfl, h0⟩ | ⟨g, cap, cur, rfl, _⟩
  · obtain rfl : l = [] := List.length_eq_zero_iff.1 h0
    refine (deleteW_nil F caps).mono ?_
    rintro e w' ⟨rfl, rfl⟩
    exact ⟨none, 0, 0, rfl, hO, rfl, grown_below (Below.refl _ _), hJ⟩
  · refine (deleteW_any J hJb (hJs g rfl) F caps f hs hO hF hcl hJ).mono ?_
    rintro e w' ⟨⟨rfl, hO'⟩, hJ', hB⟩
    exact ⟨_, _, cap, rfl, hO', rfl, grown_of hB, hJ'⟩
end
section
variable {k Bp p : Nat} {b : Bl} {d : Det} {l : List Int} {w : World}
set_option maxRecDepth 100000 in
set_option maxHeartbeats 2000000 in
theorem acked_any (h : Sx k Bp p b d l w) (hWl : d.W.length ≤ 1000000) (n : Nte) (na : Option Addr) (nl nc : Nat) :
    Calls Tryz.prog 104 #[.pointer (some ⟨b.q, 0, none⟩), ntV n (.slice na nl nc)] w fun e w' => ∃ v X b', e = .returned v ∧ Sd p b' w v X w' ∧ X.map NtX.n = (d.acked k n).1 ∧ Sx k Bp p b' (d.acked k n).2 l w' ∧ Stp p b w b' w' := by
  obtain ⟨K, F, T, Q, O, U⟩ := n
  have ba := below_alloc w (.cells (ntC K F T Q O (.slice na nl nc)) 37)
  have hN := Bn.new K F T Q O (.slice na nl nc) w
  have h1 := h.below ba
  have hA := h.away (w' := w.alloc (.cells (ntC K F T Q O (.slice na nl nc)) 37)) (Nat.le_refl _) hN.lt
  obtain ⟨w1, HW1⟩ : ∃ w1, Hid (w1 = w.alloc (.cells (ntC K F T Q O (.slice na nl nc)) 37)) := ⟨_, rfl⟩
  rw [← HW1.out] at ba hN h1 hA
  have c5 := h1.dt.c5
  have hel := h.dt.ok.el
  have hidx := indexE_any (w := w1) (Bn w.heap.size K F T Q O (.slice na nl nc)) (fun w w' hJ hb => hJ.below hb) 145 #[.pointer (some ⟨w.heap.size, 0, none⟩)] (ackE ⟨K, F, T, Q, O, U⟩) (by omega) h1.dt.es (enter_of Tryz.func145 (by kernel_rfl) rfl) (fun x _ w' hJ => acked1_any hJ x) hN
  obtain ⟨va, hva⟩ := h1.dt.es.len
  obtain ⟨vcap, hve, _⟩ := hva
  obtain ⟨R, HR⟩ : ∃ R, Hid (d.acked k ⟨K, F, T, Q, O, U⟩ = R) := ⟨_, rfl⟩
  rw [HR.out]
  go_enter Tryz.func104, Tryz.ntmps104
  go_upto_region 1 with fail
  rw [← HW1.out]
  rw [hve] at c5 hidx
  go_wp2_with fail
  refine hidx.mono ?_
  rintro e w2 ⟨(⟨i, rfl, hi, hb, hx⟩ | ⟨rfl, hx⟩), hb2⟩
  · have h2 := h1.below hb2
    have hN2 := hN.below hb2
    have hA2 := hA.stp (Stp.of hb2)
    obtain ⟨hf1, hf2⟩ := find_at _ d.E i hi hb hx
    have hyes : Hid (R = ([⟨2, k, d.E[i].f, d.E[i].t, F, d.news k d.E[i].f⟩], ({ d with E := d.E.eraseIdx i } : Det).told k d.E[i].f)) := by
      show _ = _
      rw [← HR.out]
      unfold Det.acked
      rw [hf1, hf2]
    obtain ⟨ge, rfl⟩ : ∃ ge, va = some ⟨ge, 0, none⟩ := by
      rcases h2.dt.es.2 with ⟨e, h0⟩ | ⟨g, cap, cur, e, _⟩
      · omega
      · rw [hve] at e; cases e; exact ⟨g, rfl⟩
    have hE2 := h2.dt.es
    rw [hve] at hE2
    obtain ⟨x0, x1, x2, x3, x4⟩ := hE2.atE rfl i hi
    have hmem := fun x (hx : x ∈ d.E.eraseIdx i) => h.dt.ok.E x (List.mem_of_mem_eraseIdx hx)
    have hlen : (d.E.eraseIdx i).length ≤ 32 := Nat.le_trans (List.length_eraseIdx_le _ _) hel
    clear hf1 hf2 hb hx hidx c5
    have hi0 : (0 : Int) ≤ (i : Int) := by omega
    have hi1 : (i : Int) < d.E.length := by omega
    have hdl := fun w' hO => delete1_any ge vcap d.E i hi (by omega) w' hO
    generalize d.E[i] = y at *
    have by_ := below_alloc w2 (.cells (cellsE y) 112)
    have hY := BE.new y w2
    have h3 := h2.below by_
    have hN3 := hN2.below by_
    have hA3 := hA2.stp (Stp.of by_)
    have hAY := h2.away (w' := w2.alloc (.cells (cellsE y) 112)) (Nat.le_refl _) hY.lt
    have S3 : Stp p b w b (w2.alloc (.cells (cellsE y) 112)) := ((Stp.of ba).then hb2).then by_
    have c5 := h2.dt.c5
    rw [hve] at c5
    obtain ⟨w3, HW3⟩ : ∃ w3, Hid (w3 = w2.alloc (.cells (cellsE y) 112)) := ⟨_, rfl⟩
    rw [← HW3.out] at hY h3 hN3 hA3 hAY S3
    clear hN2 hA2 by_
    go_upto_region 6 with fail
    rw [← HW3.out]
    clear c5
    have c5 := h3.dt.c5
    have hE3 := h3.dt.es
    rw [hve] at c5 hE3
    go_wp2_with fail
    refine (hdl w3 hE3).mono ?_
    rintro e w4 ⟨⟨rfl, hO4⟩, hB4⟩
    have hq4 : w4.heap[b.q]? = w3.heap[b.q]? := hB4.block b.q h3.dt.qlt (fun e => by have := h3.dt.sep.one 0 6 b.q rfl (by show b.ve.ownBlock = _; rw [hve, e]; rfl); omega)
    have c5' := (World.cell?_of_block (w := w3) (a := ⟨b.q, 5, none⟩) hq4).trans h3.dt.c5
    have f5' := (World.frozen?_of_block (w := w3) (a := ⟨b.q, 5, none⟩) hq4).trans (h3.dt.free 5)
    obtain ⟨h5, s5⟩ := h3.setE hO4 (by rw [hve]; exact grown_of hB4) (.inl (by rw [hve]; rfl)) hmem hlen
    obtain ⟨M, HM⟩ : ∃ M, Hid ((d.E.eraseIdx i).length = M) := ⟨_, rfl⟩
    rw [HM.out] at h5 s5 ⊢
    obtain ⟨w5, HW5⟩ : ∃ w5, Hid (w5 = w4.setCell ⟨b.q, 5, none⟩ (.slice (some ⟨ge, 0, none⟩) M vcap)) := ⟨_, rfl⟩
    rw [← HW5.out] at h5 s5
    have hN5 := hN3.stp hA3 s5
    have hY5 := hY.keep (s5.keep hAY)
    clear x0 x1 x2 x3 x4 c5
    have y3 := hY5.c3
    have y4 := hY5.c4
    have n1 := hN5.c1
    have hsay := say_any h5 2 0 y.f y.t F
    go_upto_region 7 with fail
    rw [← HW5.out]
    go_wp2_with fail
    refine hsay.mono ?_
    rintro e w6 ⟨v6, rfl, hO6, h6, s6⟩
    obtain ⟨a6, L6, c6, rfl⟩ : ∃ a L c, v6 = .slice a L c := (by obtain ⟨a, cap, e, _⟩ := hO6.ru; exact ⟨a, _, cap, e⟩)
    have S5 := S3.trans s5
    have S6 := S5.trans s6
    have b6 := below_alloc w6 (.cells (ntC 2 k y.f y.t F (.slice a6 L6 c6)) 37)
    have hsd := Sd.one (w0 := w) (n := ⟨2, k, y.f, y.t, F, d.news k y.f⟩) h6 S6.size (Ro.Own.mono hO6 S5.size) (news_away h5 hO6)
    go_wp2_with fail
    go_ret
    rw [hyes.out]
    exact ⟨_, _, _, rfl, hsd, rfl, h6.below b6, S6.then b6⟩
  · have h2 := h1.below hb2
    have hN2 := hN.below hb2
    have hA2 := hA.stp (Stp.of hb2)
    have hno : Hid (R = ([], { d with W := d.W.filter (fun x => !ackW ⟨K, F, T, Q, O, U⟩ x) })) := by
      show _ = _
      rw [← HR.out]
      unfold Det.acked
      rw [List.find?_eq_none.2 (fun x hm => by rw [hx x hm]; decide)]
    clear hx hidx c5 hve
    have c4 := h2.dt.c4
    have hdel := deletesW_any (w := w2) (Bn w.heap.size K F T Q O (.slice na nl nc)) (fun w w' hJ hb => hJ.below hb) 147 #[.pointer (some ⟨w.heap.size, 0, none⟩)] (ackW ⟨K, F, T, Q, O, U⟩) (fun g hg w' j u hJ => hJ.other (a := ⟨g, j, none⟩) (show w.heap.size ≠ g from fun e => hA2.own 5 (e ▸ hg)) u) hWl h2.dt.ws (enter_of Tryz.func147 (by kernel_rfl) rfl) (fun x _ w' hJ => acked2_any hJ x) hN2
    obtain ⟨ua, ucap, hvw, _⟩ := h2.dt.ws.len
    rw [hvw] at c4
    have hdel' := hdel
    rw [hvw] at hdel'
    clear hdel
    go_wp2_with fail
    refine hdel'.mono ?_
    rintro e w3 ⟨a3, L3, c3, rfl, hO3, hown3, hg3, _⟩
    have hq3 : w3.heap[b.q]? = w2.heap[b.q]? := hg3.block b.q h2.dt.qlt (fun e => by have := h2.dt.sep.one 0 5 b.q rfl (by show b.vw.ownBlock = _; rw [hvw]; exact e.symm); omega)
    have c4' := (World.cell?_of_block (w := w2) (a := ⟨b.q, 4, none⟩) hq3).trans h2.dt.c4
    have f4' := (World.frozen?_of_block (w := w2) (a := ⟨b.q, 4, none⟩) hq3).trans (h2.dt.free 4)
    have hmem : ∀ x ∈ d.W.filter (fun x => !ackW ⟨K, F, T, Q, O, U⟩ x), WchOk x := fun x hx => h.dt.ok.W x (List.mem_filter.1 hx).1
    obtain ⟨h4, s4⟩ := h2.setW hO3 (by rw [hvw]; exact hg3) (.inl (by rw [hown3, hvw])) hmem
    clear c4
    go_wp2_with fail
    go_ret
    rw [hno.out]
    exact ⟨_, [], _, rfl, Sd.nil _ _ _ _, rfl, h4, ((Stp.of ba).then hb2).trans s4⟩
end
section
variable {k Bp p : Nat} {b : Bl} {d : Det} {l : List Int} {w : World}
structure Jn (k Bp p : Nat) (b : Bl) (d : Det) (l : List Int) (g : Nat) (K F T Q O : Int) (v : Value) (w0 w : World) : Prop where
  st : Sx k Bp p b d l w
  box : Bn g K F T Q O v w
  below : Below w0.heap.size w0 w
section
variable {g : Nat} {K F T Q O : Int} {v : Value} {w0 w' : World}
theorem Jn.later (h : Jn k Bp p b d l g K F T Q O v w0 w) (hb : Below w.heap.size w w') : Jn k Bp p b d l g K F T Q O v w0 w' := ⟨h.st.below hb, h.box.below hb, bT h.below hb⟩
theorem Jn.drew (h : Jn k Bp p b d l g K F T Q O v w0 w) : Jn k Bp p b d l g K F T Q O v w0 w.drew := ⟨h.st.drew, h.box.drew, bD h.below⟩
theorem Jn.on {x : Kept (Jn k Bp p b d l g K F T Q O v w0)} (hb : Below x.at_.heap.size x.at_ w') : ∃ y : Kept (Jn k Bp p b d l g K F T Q O v w0), w' = y.at_ := ⟨⟨w', x.is.later hb⟩, rfl⟩
theorem Jn.st' {x : Kept (Jn k Bp p b d l g K F T Q O v w0)} : Sx k Bp p b d l x.at_ := x.is.st
end
set_option maxRecDepth 100000 in
set_option maxHeartbeats 4000000 in
theorem fault_any (h : Sx k Bp p b d l w) (n : Nte) (na : Option Addr) (nl nc : Nat) :
    Calls Tryz.prog 52 #[.pointer (some ⟨b.q, 0, none⟩), ntV n (.slice na nl nc)] w fun e w' => e = .returned (.int .i64 (d.fault k n)) ∧ Below w.heap.size w w' := by
  obtain ⟨K, F, T, Q, O, U⟩ := n
  have ba := below_alloc w (.cells (ntC K F T Q O (.slice na nl nc)) 37)
  have hN := Bn.new K F T Q O (.slice na nl nc) w
  have h1 := h.below ba
  obtain ⟨w1, HW1⟩ : ∃ w1, Hid (w1 = w.alloc (.cells (ntC K F T Q O (.slice na nl nc)) 37)) := ⟨_, rfl⟩
  rw [← HW1.out] at ba hN h1
  obtain ⟨R, HR⟩ : ∃ R, Hid (d.fault k ⟨K, F, T, Q, O, U⟩ = R) := ⟨_, rfl⟩
  rw [HR.out]
  have HR' : Hid (R = if d.le = true then 5 else if T ≠ (k : Int) ∨ F = (k : Int) ∨ nodeB F = false ∨ nodeB O = false then 1 else if K < 1 ∨ 3 < K then 150 else 0) := HR.out.symm
  clear HR
  have c8 := h1.dt.c8
  cases hle : d.le
  case true =>
    rw [hle] at c8
    rw [if_pos hle] at HR'
    go_enter Tryz.func52, Tryz.ntmps52
    go_upto_region 1 with fail
    rw [← HW1.out]
    go_wp2_with fail
    go_ret
    rw [HR'.out]
    exact ⟨rfl, ba⟩
  case false =>
  rw [hle] at c8
  rw [if_neg (by rw [hle]; decide)] at HR'
  clear hle
  have hJ : Jn k Bp p b d l w.heap.size K F T Q O (.slice na nl nc) w w1 := ⟨h1, hN, ba⟩
  have hne : Nonempty (Kept (Jn k Bp p b d l w.heap.size K F T Q O (.slice na nl nc) w)) := ⟨⟨_, hJ⟩⟩
  have k1 : ∀ x : Kept (Jn k Bp p b d l w.heap.size K F T Q O (.slice na nl nc) w), x.at_.cell? ⟨w.heap.size, 1, none⟩ = some (.int .i64 F) := fun x => x.is.box.c1
  have k2 : ∀ x : Kept (Jn k Bp p b d l w.heap.size K F T Q O (.slice na nl nc) w), x.at_.cell? ⟨w.heap.size, 2, none⟩ = some (.int .i64 T) := fun x => x.is.box.c2
  have k4 : ∀ x : Kept (Jn k Bp p b d l w.heap.size K F T Q O (.slice na nl nc) w), x.at_.cell? ⟨w.heap.size, 4, none⟩ = some (.int .i64 O) := fun x => x.is.box.c4
  have hnF := fun w' => isnode_any F w'
  have hnO := fun w' => isnode_any O w'
  cases hT : (T != (k : Int))
  case true =>
    have e : T ≠ (k : Int) := by simpa using hT
    rw [if_pos (Or.inl e)] at HR'
    clear e
    go_enter Tryz.func52, Tryz.ntmps52
    go_upto_region 1 with fail
    rw [← HW1.out]
    go_wp2_with fail
    refine wp_region_kept (Jn k Bp p b d l w.heap.size K F T Q O (.slice na nl nc) w) (by kernel_rfl) (by kernel_rfl) hJ.drew ?_
    repeat (go_big_quiet_step (first
      | (refine (me_any Jn.st').mono ?_; rintro e w4 ⟨rfl, hb4⟩; exact ⟨rfl, Jn.on hb4⟩)
      | (refine (hnF _).mono ?_; rintro e w4 ⟨rfl, hw4⟩; exact ⟨rfl, _, hw4⟩)
      | (refine (hnO _).mono ?_; rintro e w4 ⟨rfl, hw4⟩; exact ⟨rfl, _, hw4⟩)))
    refine wpQuiet_nil ?_
    intro w5 h5
    go_wp2_with fail
    go_ret
    rw [HR'.out]
    exact ⟨rfl, h5.below⟩
  case false =>
  have eT : Hid (¬ T ≠ (k : Int)) := by show ¬ _; simpa using hT
  cases hF : (F == (k : Int))
  case true =>
    have e : F = (k : Int) := by simpa using hF
    rw [if_pos (Or.inr (Or.inl e))] at HR'
    clear e
    go_enter Tryz.func52, Tryz.ntmps52
    go_upto_region 1 with fail
    rw [← HW1.out]
    go_wp2_with fail
    refine wp_region_kept (Jn k Bp p b d l w.heap.size K F T Q O (.slice na nl nc) w) (by kernel_rfl) (by kernel_rfl) hJ.drew ?_
    repeat (go_big_quiet_step (first
      | (refine (me_any Jn.st').mono ?_; rintro e w4 ⟨rfl, hb4⟩; exact ⟨rfl, Jn.on hb4⟩)
      | (refine (hnF _).mono ?_; rintro e w4 ⟨rfl, hw4⟩; exact ⟨rfl, _, hw4⟩)
      | (refine (hnO _).mono ?_; rintro e w4 ⟨rfl, hw4⟩; exact ⟨rfl, _, hw4⟩)))
    refine wpQuiet_nil ?_
    intro w5 h5
    go_wp2_with fail
    go_ret
    rw [HR'.out]
    exact ⟨rfl, h5.below⟩
  case false =>
  have eF : Hid (¬ F = (k : Int)) := by show ¬ _; simpa using hF
  cases hb1 : nodeB F
  case false =>
    rw [if_pos (Or.inr (Or.inr (Or.inl hb1)))] at HR'
    rw [hb1] at hnF
    go_enter Tryz.func52, Tryz.ntmps52
    go_upto_region 1 with fail
    rw [← HW1.out]
    go_wp2_with fail
    refine wp_region_kept (Jn k Bp p b d l w.heap.size K F T Q O (.slice na nl nc) w) (by kernel_rfl) (by kernel_rfl) hJ.drew ?_
    repeat (go_big_quiet_step (first
      | (refine (me_any Jn.st').mono ?_; rintro e w4 ⟨rfl, hb4⟩; exact ⟨rfl, Jn.on hb4⟩)
      | (refine (hnF _).mono ?_; rintro e w4 ⟨rfl, hw4⟩; exact ⟨rfl, _, hw4⟩)
      | (refine (hnO _).mono ?_; rintro e w4 ⟨rfl, hw4⟩; exact ⟨rfl, _, hw4⟩)))
    refine wpQuiet_nil ?_
    intro w5 h5
    go_wp2_with fail
    go_ret
    rw [HR'.out]
    exact ⟨rfl, h5.below⟩
  case true =>
  rw [hb1] at hnF
  cases hb2 : nodeB O
  case false =>
    rw [if_pos (Or.inr (Or.inr (Or.inr hb2)))] at HR'
    rw [hb2] at hnO
    go_enter Tryz.func52, Tryz.ntmps52
    go_upto_region 1 with fail
    rw [← HW1.out]
    go_wp2_with fail
    refine wp_region_kept (Jn k Bp p b d l w.heap.size K F T Q O (.slice na nl nc) w) (by kernel_rfl) (by kernel_rfl) hJ.drew ?_
    repeat (go_big_quiet_step (first
      | (refine (me_any Jn.st').mono ?_; rintro e w4 ⟨rfl, hb4⟩; exact ⟨rfl, Jn.on hb4⟩)
      | (refine (hnF _).mono ?_; rintro e w4 ⟨rfl, hw4⟩; exact ⟨rfl, _, hw4⟩)
      | (refine (hnO _).mono ?_; rintro e w4 ⟨rfl, hw4⟩; exact ⟨rfl, _, hw4⟩)))
    refine wpQuiet_nil ?_
    intro w5 h5
    go_wp2_with fail
    go_ret
    rw [HR'.out]
    exact ⟨rfl, h5.below⟩
  case true =>
  rw [hb2] at hnO
  rw [if_neg (by rw [hb1, hb2]; rintro (e | e | e | e); exact eT.out e; exact eF.out e; cases e; cases e)] at HR'
  clear hb1 hb2
  by_cases hK1 : K < 1
  · rw [if_pos (Or.inl hK1)] at HR'
    go_enter Tryz.func52, Tryz.ntmps52
    go_upto_region 1 with fail
    rw [← HW1.out]
    go_wp2_with fail
    refine wp_region_kept (Jn k Bp p b d l w.heap.size K F T Q O (.slice na nl nc) w) (by kernel_rfl) (by kernel_rfl) hJ.drew ?_
    repeat (go_big_quiet_step (first
      | (refine (me_any Jn.st').mono ?_; rintro e w4 ⟨rfl, hb4⟩; exact ⟨rfl, Jn.on hb4⟩)
      | (refine (hnF _).mono ?_; rintro e w4 ⟨rfl, hw4⟩; exact ⟨rfl, _, hw4⟩)
      | (refine (hnO _).mono ?_; rintro e w4 ⟨rfl, hw4⟩; exact ⟨rfl, _, hw4⟩)))
    refine wpQuiet_nil ?_
    intro w5 h5
    have x0 := h5.box.c0
    go_wp2_with fail
    go_ret
    rw [HR'.out]
    exact ⟨rfl, h5.below⟩
  · by_cases hK3 : 3 < K
    · rw [if_pos (Or.inr hK3)] at HR'
      go_enter Tryz.func52, Tryz.ntmps52
      go_upto_region 1 with fail
      rw [← HW1.out]
      go_wp2_with fail
      refine wp_region_kept (Jn k Bp p b d l w.heap.size K F T Q O (.slice na nl nc) w) (by kernel_rfl) (by kernel_rfl) hJ.drew ?_
      repeat (go_big_quiet_step (first
        | (refine (me_any Jn.st').mono ?_; rintro e w4 ⟨rfl, hb4⟩; exact ⟨rfl, Jn.on hb4⟩)
        | (refine (hnF _).mono ?_; rintro e w4 ⟨rfl, hw4⟩; exact ⟨rfl, _, hw4⟩)
        | (refine (hnO _).mono ?_; rintro e w4 ⟨rfl, hw4⟩; exact ⟨rfl, _, hw4⟩)))
      refine wpQuiet_nil ?_
      intro w5 h5
      have x0 := h5.box.c0
      go_wp2_with fail
      go_ret
      rw [HR'.out]
      exact ⟨rfl, h5.below⟩
    · rw [if_neg (by omega)] at HR'
      go_enter Tryz.func52, Tryz.ntmps52
      go_upto_region 1 with fail
      rw [← HW1.out]
      go_wp2_with fail
      refine wp_region_kept (Jn k Bp p b d l w.heap.size K F T Q O (.slice na nl nc) w) (by kernel_rfl) (by kernel_rfl) hJ.drew ?_
      repeat (go_big_quiet_step (first
        | (refine (me_any Jn.st').mono ?_; rintro e w4 ⟨rfl, hb4⟩; exact ⟨rfl, Jn.on hb4⟩)
        | (refine (hnF _).mono ?_; rintro e w4 ⟨rfl, hw4⟩; exact ⟨rfl, _, hw4⟩)
        | (refine (hnO _).mono ?_; rintro e w4 ⟨rfl, hw4⟩; exact ⟨rfl, _, hw4⟩)))
      refine wpQuiet_nil ?_
      intro w5 h5
      have x0 := h5.box.c0
      go_wp2_with fail
      go_ret
      rw [HR'.out]
      exact ⟨rfl, h5.below⟩
end
end Go.Proofs.YtpoofjnfaijjjaaGreatDoor
