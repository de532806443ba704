/-
  askFor. lookAfter. lookAfter, the loop. What the watches change of a step: nothing.
-/
import Derived.Test.YtpoofjnfaijjjaaGreatDoorMFlt
namespace Go.Proofs.YtpoofjnfaijjjaaGreatDoor
open Go.RowKit Go.Proofs.YtpoofjnfaijjjaaGreatDoor.Ro
theorem oth_len (k : Nat) (f : Tab) : (othS k f).length ≤ 64 := by
  unfold othS
  rw [Bnd.lst_length]
  exact Bnd.many_le _
section
variable {k Bp p : Nat} {b : Bl} {d : Det} {l : List Int} {w : World}
set_option maxRecDepth 100000 in
set_option maxHeartbeats 2000000 in
theorem ask_any (h : Sx k Bp p b d l w) (x : Wch) :
    Calls Tryz.prog 77 #[.pointer (some ⟨b.q, 0, none⟩), .agg (cellsW x), .pointer (some ⟨p, 0, none⟩)] w fun e w' => ∃ v X, e = .returned v ∧ Sd p b w v X w' ∧ X.map NtX.n = (d.ask k x l).1 ∧ Sx k Bp p b (d.ask k x l).2.1 (d.ask k x l).2.2 w' ∧ Stp p b w b w' := by
  have ba := below_alloc w (.cells (cellsW x) 133)
  have hX := BW.new x w
  have h1 := h.below ba
  obtain ⟨w1, HW1⟩ : ∃ w1, Hid (w1 = w.alloc (.cells (cellsW x) 133)) := ⟨_, rfl⟩
  rw [← HW1.out] at ba hX h1
  have hS1 := And.intro h1.dt.c0 hX.c0
  have hol := oth_len k d.f
  have hoth := fun w' hR hT => others_any b.r k d.f w' hR hT
  have hhel := fun v w' hv hL hok => Rn.help_any Bp p v (othS k d.f) l x.n 2 w' (by omega) (by decide) hv hL hok
  have hhok := Rn.helpS_ok (othS k d.f) x.n 2 h.lok
  obtain ⟨R, HR⟩ : ∃ R, Hid (d.ask k x l = R) := ⟨_, rfl⟩
  rw [HR.out]
  have HR' : Hid (R = ((d.helps k x (Rn.helpS (othS k d.f) x.n 2 l).1).1, (d.helps k x (Rn.helpS (othS k d.f) x.n 2 l).1).2, (Rn.helpS (othS k d.f) x.n 2 l).2)) := HR.out.symm
  clear HR
  have hHl : (Rn.helpS (othS k d.f) x.n 2 l).1.length ≤ 64 := by
    unfold Rn.helpS Rn.someS
    split
    · simp
    · rw [List.length_take, Rn.shufS_length]
      have := List.length_filter_le (fun y => !decide (y = x.n)) (othS k d.f)
      omega
  generalize (Rn.helpS (othS k d.f) x.n 2 l).1 = H at *
  generalize (Rn.helpS (othS k d.f) x.n 2 l).2 = l' at *
  generalize othS k d.f = o at *
  go_enter Tryz.func77, Tryz.ntmps77
  go_upto_region 2 with fail
  rw [← HW1.out]
  go_region_held3 (fun w' => w'.cell? ⟨b.q, 0, none⟩ = some (.pointer (some ⟨b.r, 0, none⟩)) ∧ w'.cell? ⟨w.heap.size, 0, none⟩ = some (.int .i64 x.n)) (first | exact hS1 | exact hS2 | exact hS3) ((first
    | (go_at_call 88; refine (hoth _ h1.drew.dt.roll h1.drew.dt.tab).mono ?_; rintro e w2 ⟨⟨vo, rfl, hro, hgo⟩, hb2⟩; have h2 := h1.drew.below hb2; have hX2 := hX.drew.below hb2; have hS2 := And.intro h2.dt.c0 hX2.c0)
    | (go_at_call 121; refine (hhel vo w2 hro h2.lots h2.lok).mono ?_; rintro e w3 ⟨⟨v3, rfl, hR3, hg3⟩, hL3, hB3⟩; obtain ⟨a3, L3, c3, HL3, rfl⟩ : ∃ a L c, L = H.length ∧ v3 = .slice a L c := (by obtain ⟨a, cap, e, _⟩ := hR3; exact ⟨a, _, cap, rfl, e⟩); obtain ⟨h3, s3⟩ := h2.setL hL3 hB3 hhok; have hX3 := hX2.keep (hB3.block _ hX2.lt (h.pn (Nat.le_refl _))); have hS3 := And.intro h3.dt.c0 hX3.c0)))
  all_goals
    have S2 : Stp p b w b w2 := (Stp.of ba).drew.then hb2
    have S3 := S2.trans s3
    have hA3 : Away p b w3 w.heap.size := h.away (Nat.le_refl _) hX3.lt
    have hAR : ∀ g, (Value.slice a3 L3 c3).ownBlock = some g → Away p b w3 g ∧ g < w3.heap.size := fun g hg => ⟨h2.away (hg3 g hg).1 (hg3 g hg).2, (hg3 g hg).2⟩
    have hz3 := S3.size
    subst HL3
    clear h1 h2 hX hX2 hS1 hS2 hS3 hb2 hro hgo hL3 hB3 s3 S2 hg3 hoth hhel ba
    go_wp2_with fail
    go_loopg [7, 20] H.length (fun gk t7 t20 wr => ∃ (i : Nat) (X : List NtX) (di : Det), i + gk = H.length ∧ t20 = .int .i64 i ∧ Hid (d.helps k x H = (X.map NtX.n ++ (di.helps k x (H.drop i)).1, (di.helps k x (H.drop i)).2)) ∧ X.length = i ∧ Sd p b w3 t7 X wr ∧ Sx k Bp p b di l' wr ∧ Stp p b w3 b wr ∧ BW w.heap.size x wr ∧ Rn.Rd .i64 (.slice a3 H.length c3) H wr)
    case atStart => exact ⟨0, [], d, by omega, rfl, by show _ = _; simp, rfl, Sd.nil _ _ _ _, h3, Stp.refl _ _ _, hX3, hR3⟩
    case round =>
      obtain ⟨i, X, di, hi, rfl, hrl, hXl, hsd, hdi, hst, hBx, hRd⟩ := hrel
      by_cases hlt : (i : Int) < H.length
      · have i0 : (0 : Int) ≤ i := by omega
        have hil : i < H.length := by omega
        obtain ⟨_, _, e', _, _, _, k1⟩ := id hRd
        cases e'
        rcases k1 with k1 | ⟨g1, o1, rfl, k1⟩
        · omega
        have c1 := k1 i hil
        have hstep : Hid (d.helps k x H = ((X.map NtX.n ++ [⟨3, k, H[i], x.q, x.n, di.news k H[i]⟩]) ++ ((di.told k H[i]).helps k x (H.drop (i + 1))).1, ((di.told k H[i]).helps k x (H.drop (i + 1))).2)) := by
          show _ = _
          rw [hrl.out, List.drop_eq_getElem_cons hil]
          simp [Det.helps]
        clear k1 hrl
        have b0 := hBx.c0
        have b1 := hBx.c1
        generalize H[i] = y at *
        go_wp2_with (first
          | (go_at_call 122; go_must (refine (say_any hdi 3 0 y x.q x.n).mono ?_; rintro e w5 ⟨v5, rfl, hO5, h5, s5⟩; obtain ⟨a5, L5, c5, rfl⟩ : ∃ a L c, v5 = .slice a L c := (by obtain ⟨a, cap, e, _⟩ := hO5.ru; exact ⟨a, _, cap, e⟩); have b6 := below_alloc w5 (.cells (ntC 3 k y x.q x.n (.slice a5 L5 c5)) 37); have h6 := h5.below b6; have hst5 := hst.trans s5; have hone := Sd.one (w0 := w3) (n := ⟨3, k, y, x.q, x.n, di.news k y⟩) h5 hst5.size (Ro.Own.mono hO5 hst.size) (news_away hdi hO5); have hsd6 := (hsd.stp s5).stp (Stp.of b6); have hrow6 := hsd6.row; have hz6 := (hst5.then b6).size; have hrd6 := hone.row.rd))
          | (at_builtin; go_must (refine wpList_appE Tryz.underlying43 Tryz.infoN (by decide) (by decide) _ rfl (.tmp 24) (.tmp 33) rfl w3.heap.size _ X rfl hrow6 hz6 w5.heap.size 0 1 [⟨⟨3, k, y, x.q, x.n, di.news k y⟩, a5, L5, c5⟩] 1 rfl rfl hrd6 (by simp; omega) ?_; intro v7 w7 hO7 hg7 hv7)))
        have hb67 : Below w3.heap.size (w5.alloc (.cells (ntC 3 k y x.q x.n (.slice a5 L5 c5)) 37)) w7 := ⟨hg7.os, hg7.tape, hg7.output, hg7.size, fun g hg => hg7.block g (Nat.lt_of_lt_of_le hg hz6) (fun e => by have := (hrow6.lt g e.symm).1; omega)⟩
        have hsd7 := Sd.app h6 hsd6 hone hO7 hg7 hv7 (fun g hg => (hO7.lt g hg).2)
        have h7 := h3.high h6 hb67
        have hst7 := (hst5.then b6).high hb67
        have hBx7 := ((hBx.keep (s5.keep (hA3.stp hst))).below b6).keep (hb67.block _ hA3.lt)
        have hRd7 : Rn.Rd .i64 (.slice (some ⟨g1, o1, none⟩) H.length c3) H w7 := hRd.keep fun g hg hlt => (hb67.block g (hAR g hg).2).trans ((b6.block g (Nat.lt_of_lt_of_le hlt s5.size)).trans (s5.keep ((hAR g hg).1.stp hst)))
        go_roundg (gk - 1)
        case rel => exact ⟨i + 1, X ++ [⟨⟨3, k, y, x.q, x.n, di.news k y⟩, a5, L5, c5⟩], di.told k y, by omega, by go_num, by show _ = _; rw [hstep.out]; simp, by simp; omega, hsd7, h7, hst7, hBx7, hRd7⟩
        case measure => omega
      · obtain rfl : i = H.length := by omega
        have hrl' : Hid (d.helps k x H = (X.map NtX.n, di)) := by
          show _ = _
          rw [hrl.out]
          simp [Det.helps]
        obtain ⟨a7, L7, c7, e7⟩ : ∃ a L c, u7 = .slice a L c := (by obtain ⟨a, cap, e, _⟩ := hsd.row.len; exact ⟨a, _, cap, e⟩)
        subst e7
        go_wp2_with fail
        go_ret
        rw [HR'.out, hrl'.out]
        exact ⟨_, rfl, X, hsd.up hz3, rfl, hdi, S3.trans hst⟩
end
theorem learn_W (d : Det) (u : Upd) (f : Int) (was : Bool) (l : List Int) : (d.learn u f was l).1.W = d.W ∧ (d.learn u f was l).1.no = d.no ∧ (d.learn u f was l).1.E = d.E := by
  unfold Det.learn
  split
  · exact ⟨rfl, rfl, rfl⟩
  · split <;> exact ⟨rfl, rfl, rfl⟩
theorem take_W (k : Nat) (d : Det) (u : Upd) (f : Int) (l : List Int) : (d.take k u f l).2.1.W = d.W ∧ (d.take k u f l).2.1.no = d.no ∧ (d.take k u f l).2.1.E = d.E := by
  unfold Det.take
  split
  · exact ⟨rfl, rfl, rfl⟩
  · split
    · exact learn_W _ _ _ _ _
    · split
      · exact ⟨rfl, rfl, rfl⟩
      · split <;> exact ⟨rfl, rfl, rfl⟩
theorem miss_W (k : Nat) (d : Det) (x : Int) (l : List Int) : (d.miss k x l).1.W = d.W ∧ (d.miss k x l).1.no = d.no ∧ (d.miss k x l).1.E = d.E := by
  unfold Det.miss
  split
  · exact take_W _ _ _ _ _
  · exact ⟨rfl, rfl, rfl⟩
theorem helps_W (k : Nat) (x : Wch) : ∀ (H : List Int) (d : Det), (d.helps k x H).2.W = d.W ∧ (d.helps k x H).2.no = d.no ∧ (d.helps k x H).2.E = d.E ∧ (d.helps k x H).1.length = H.length
  | [], _ => ⟨rfl, rfl, rfl, rfl⟩
  | h :: r, d => by
    have ih := helps_W k x r (d.told k h)
    exact ⟨ih.1, ih.2.1, ih.2.2.1, by simp [Det.helps, ih.2.2.2]⟩
section
variable {α : Type} {E : Enc α} {T : TypeId} {w : World}
theorem wpList_appE2 {ops : Array Oper} {rest : List Oper} {o : Oper} {a : Act} {Q : Exit → Act → World → Prop} {ST : TypeId} {z : Value} {bytes : Nat} (hST : Tryz.prog.underlying ST = some (.slice T)) (hinfo : (Tryz.prog.info? T).map (fun i => (i.zero, i.size, i.bytes)) = some (some z, E.sz, bytes)) (hz : z.cells.size = E.sz) (hby : bytes ≤ 1000) (w : World) (hgd : o.guard = none) (s x : Operand)
    (ho : o.op = .call { callee := .builtin .append, args := #[s, x], argTypes := #[ST, ST] }) (B C : Nat) (v u : Value) (l r : List α) (hs : a.eval s = v) (hown : OwE E T B v l w) (hB : B ≤ w.heap.size) (hx : a.eval x = u) (hu : OwE E T C u r w) (hl : l.length + r.length ≤ 1000000)
    (h : ∀ v' w', OwE E T B v' (l ++ r) w' → w.grownBy w' v.ownBlock → (v'.ownBlock = v.ownBlock ∨ v'.ownBlock = some w.heap.size) → wpList Tryz.prog ops Q rest (a.put o.dst v') w') : wpList Tryz.prog ops Q (o :: rest) a w := by
  refine wpList_plain hgd fun _ hK => ?_
  rcases id hu.2 with ⟨rfl, h0⟩ | ⟨g, cap, cur, rfl, _⟩
  · obtain rfl : r = [] := List.length_eq_zero_iff.1 h0
    obtain ⟨i0, hi, _, _, _⟩ := info_parts hinfo
    have hr := run_append_owned_none (P := Tryz.prog) w B ST o.type T i0 E.sz hST hi v l.length (E.flat l) hown
    unfold Oper.wp execOp
    simp only [ho, resolve, invoke, builtin, Sem.run_bind, Sem.run_pure, Result.andThen_ok, List.map_toArray, List.map_cons, List.map_nil, hs, hx, hr]
    exact hK _ _ (h v w (by rw [List.append_nil]; exact hown) ⟨rfl, rfl, rfl, Nat.le_refl _, fun _ _ _ => rfl⟩ (.inl rfl))
  · exact wp_appE hST hinfo hz hby w s x ho B v l hs hown hB g 0 cap r r.length rfl hx hu.rd hl fun v' w' h2 h3 h4 => hK _ _ (h v' w' h2 h3 h4)
end
section
variable {k Bp p : Nat} {b b0 : Bl} {d d0 : Det} {l l0 : List Int} {w w0 : World}
theorem Sx.putW (h0 : Sx k Bp p b0 d0 l0 w0) (h : Sx k Bp p b d l w) (S : Stp p b0 w0 b w) {v' : Value} {W' : List Wch} (ho : OwE encW 133 w0.heap.size v' W' w) (hA : ∀ g, v'.ownBlock = some g → Away p b w g) (hW : ∀ x ∈ W', WchOk x) :
    Sx k Bp p { b with vw := v' } { d with W := W' } l (w.setCell ⟨b.q, 4, none⟩ v') ∧ Stp p b0 w0 { b with vw := v' } (w.setCell ⟨b.q, 4, none⟩ v') := by
  have hD := h.dt
  have hs : ∀ i, i ≠ 5 → Bl.own { b with vw := v' } i = b.own i := own_but 5 (fun _ => rfl) (fun _ => rfl) (fun _ => rfl) (fun _ => rfl) (fun _ => rfl) (fun e => absurd rfl e) (fun _ => rfl)
  have h5 : Bl.own { b with vw := v' } 5 = v'.ownBlock := rfl
  have hz : (w.setCell ⟨b.q, 4, none⟩ v').heap.size = w.heap.size := by simp [World.setCell]
  have hb : ∀ g, g ≠ b.q → (w.setCell ⟨b.q, 4, none⟩ v').heap[g]? = w.heap[g]? := fun g h2 => Below.heap_setCell _ _ _ _ h2
  have hk : ∀ i g, i ≠ 0 → b.own i = some g → (w.setCell ⟨b.q, 4, none⟩ v').heap[g]? = w.heap[g]? := fun i g h0 hg => hb g (fun e => h0 (hD.sep.one i 0 g hg (by rw [e]; rfl)))
  have hh : (w.setCell ⟨b.q, 4, none⟩ v').heap[b.q]? = some (.cells (Bl.cells { b with vw := v' } { d with W := W' }) 94 (0, 0)) := by
    simp [World.setCell, Array.getElem?_modify, hD.heap, Bl.cells]
  have hvq : ∀ g, v'.ownBlock = some g → g ≠ b.q := fun g e e' => (hA g e).own 0 (by rw [e']; rfl)
  have hfr : ∀ i g, Bl.own { b with vw := v' } i = some g → (∃ j, b0.own j = some g) ∨ w0.heap.size ≤ g := fun i g hg => by
    by_cases e : i = 5
    · subst e; exact .inr (ho.lt g hg).1
    · rw [hs i e] at hg; exact S.fr i g hg
  have hsep : Sep (Bl.own { b with vw := v' }) (w.setCell ⟨b.q, 4, none⟩ v').heap.size := by
    refine ⟨fun i j g hi hj => ?_, fun i g hi => ?_⟩
    · by_cases ei : i = 5
      · by_cases ej : j = 5
        · omega
        · subst ei
          rw [hs j ej] at hj
          exact absurd hj ((hA g hi).own j)
      · by_cases ej : j = 5
        · subst ej
          rw [hs i ei] at hi
          exact absurd hi ((hA g hj).own i)
        · rw [hs i ei] at hi
          rw [hs j ej] at hj
          exact hD.sep.one i j g hi hj
    · rw [hz]
      by_cases ei : i = 5
      · subst ei
        have := ho.lt g hi
        have := h0.dt.tab.lt
        omega
      · rw [hs i ei] at hi
        exact hD.sep.lt i g hi
  refine ⟨⟨⟨⟨hD.ok.k64, hD.ok.inv, hD.ok.qi, hD.ok.ql, hD.ok.di, hD.ok.s1, hD.ok.s2, hW, hD.ok.E, hD.ok.el, hD.ok.la, hD.ok.no⟩, hh, hD.roll.keep (hk 1 _ (by decide) rfl), hD.row.keep fun g hg _ => hk 4 g (by decide) hg, hD.qn, fun g hg => (hD.qm g hg).keep (hk 2 g (by decide) hg), hD.dn, fun g hg => (hD.dm g hg).keep (hk 3 g (by decide) hg), (ho.mono (Nat.zero_le _)).keep fun g hg _ => hb g (hvq g hg), hD.es.keep fun g hg _ => hk 6 g (by decide) hg,
    hD.tab.keep (hb 1 (fun e => by have := hD.sep.lt 0 _ rfl; omega)), hsep⟩, h.lots.keep fun g h1 h2 => hb g (fun e => by have := h.out 0 _ rfl; omega), h.lok, fun i g hg => ?_, h.low⟩, ⟨S.q, S.r, hfr, S.os, S.tape, S.output, by rw [hz]; exact S.size, fun g hg hp hn => ?_⟩⟩
  · by_cases e : i = 5
    · subst e
      have := (ho.lt g hg).1
      have := h0.lots.lt
      omega
    · rw [hs i e] at hg; exact h.out i g hg
  · rw [hb g (fun e => hn 0 (by rw [e, S.q]; rfl))]
    exact S.block g hg hp hn
end
section
variable {k Bp p : Nat} {b : Bl} {d : Det} {l : List Int} {w : World}
theorem ask_W (k : Nat) (d : Det) (x : Wch) (l : List Int) : (d.ask k x l).2.1.W = d.W ∧ (d.ask k x l).2.1.no = d.no ∧ (d.ask k x l).2.1.E = d.E ∧ (d.ask k x l).1.length ≤ 64 := by
  have h := helps_W k x (Rn.helpS (othS k d.f) x.n 2 l).1 d
  refine ⟨h.1, h.2.1, h.2.2.1, ?_⟩
  unfold Det.ask
  rw [h.2.2.2]
  unfold Rn.helpS Rn.someS
  split
  · simp
  · rw [List.length_take, Rn.shufS_length]
    have := List.length_filter_le (fun y => !decide (y = x.n)) (othS k d.f)
    have := oth_len k d.f
    omega
theorem helps_h (k : Nat) (x : Wch) (c : Bool) : ∀ (H : List Int) (d : Det), d.helps k { x with h := c } H = d.helps k x H
  | [], _ => rfl
  | h :: r, d => by
    show (_ :: ((d.told k h).helps k { x with h := c } r).1, _) = (_ :: ((d.told k h).helps k x r).1, _)
    rw [helps_h k x c r]
theorem ask_h (k : Nat) (d : Det) (x : Wch) (c : Bool) (l : List Int) : d.ask k { x with h := c } l = d.ask k x l := by
  unfold Det.ask
  rw [helps_h]
theorem look_miss (k : Nat) (d : Det) (y : Wch) (r : List Wch) (l : List Int) (h : 4 ≤ u64w (d.no - y.a)) : d.look k (y :: r) l = (d.miss k y.n l).1.look k r (d.miss k y.n l).2 := by
  rw [Det.look, if_pos h]
theorem look_ask (k : Nat) (d : Det) (y : Wch) (r : List Wch) (l : List Int) (h : ¬ 4 ≤ u64w (d.no - y.a)) (h2 : 2 ≤ u64w (d.no - y.a) ∧ y.h = false) :
    d.look k (y :: r) l = ((d.ask k y l).1 ++ ((d.ask k y l).2.1.look k r (d.ask k y l).2.2).1, { y with h := true } :: ((d.ask k y l).2.1.look k r (d.ask k y l).2.2).2.1, ((d.ask k y l).2.1.look k r (d.ask k y l).2.2).2.2) := by
  rw [Det.look, if_neg h, if_pos h2]
theorem look_stay (k : Nat) (d : Det) (y : Wch) (r : List Wch) (l : List Int) (h : ¬ 4 ≤ u64w (d.no - y.a)) (h2 : ¬ (2 ≤ u64w (d.no - y.a) ∧ y.h = false)) :
    d.look k (y :: r) l = ((d.look k r l).1, y :: (d.look k r l).2.1, (d.look k r l).2.2) := by
  rw [Det.look, if_neg h, if_neg h2]
theorem Sx.grown (h : Sx k Bp p b d l w) {w' : World} {r : Option Nat} (hg : w.grownBy w' r) (hA : ∀ g, r = some g → Away p b w g ∧ p < g) : Sx k Bp p b d l w' :=
  ⟨h.dt.keep hg.size (fun i g hi => hg.block g (h.dt.sep.lt i g hi).2 (fun e => (hA g e.symm).1.own i hi)) (hg.block 1 h.dt.tab.lt (fun e => by have := (hA 1 e.symm).2; have := h.low; have := h.lots.le; omega)), h.lots.keep fun g _ h2 => hg.block g (by have := h.lots.lt; omega) (fun e => by have := (hA g e.symm).2; omega), h.lok, h.out, h.low⟩
theorem Sd.grown {w0 w' : World} {v : Value} {X : List NtX} {r : Option Nat} (h : Sd p b w0 v X w) (hg : w.grownBy w' r) (hT : ∀ g, r = some g → ∃ cur, w.heap[g]? = some (.cells cur 133 (0, 0))) : Sd p b w0 v X w' := by
  have hA : ∀ g, Away p b w g → Away p b w' g := fun g a => ⟨Nat.lt_of_lt_of_le a.lt hg.size, a.p, a.own⟩
  refine ⟨h.row.keep fun g e hlt => hg.block g hlt (fun e' => ?_), fun g e => hA g (h.away g e), fun x hx => (h.news x hx).keep fun g e hlt => hg.block g hlt (fun e' => ?_), fun x hx g e => hA g (h.naw x hx g e)⟩
  · obtain ⟨c1, e1⟩ := hT g e'.symm
    obtain ⟨c2, e2⟩ := owe_type h.row e
    rw [e1] at e2; simp at e2
  · obtain ⟨c1, e1⟩ := hT g e'.symm
    obtain ⟨c2, e2⟩ := own_type (h.news x hx) e
    rw [e1] at e2; simp at e2
theorem BW.set3 {g : Nat} {x : Wch} {w : World} (h : BW g x w) (c : Bool) : BW g { x with h := c } (w.setCell ⟨g, 3, none⟩ (.bool c)) := ⟨by simp [World.setCell, Array.getElem?_modify, h.heap]⟩
structure Lk (k Bp p N : Nat) (b : Bl) (d : Det) (l : List Int) (w : World) (i : Nat) (v5 v6 : Value) (wr : World) : Prop where
  ex : ∃ (X : List NtX) (KW : List Wch) (di : Det) (li : List Int) (bi : Bl),
    d.look k d.W l = (X.map NtX.n ++ (di.look k (d.W.drop i) li).1, KW ++ (di.look k (d.W.drop i) li).2.1, (di.look k (d.W.drop i) li).2.2) ∧
    X.length ≤ 64 * i ∧ KW.length ≤ i ∧ Sd p bi w v5 X wr ∧ OwE encW 133 w.heap.size v6 KW wr ∧ (∀ g, v6.ownBlock = some g → Away p bi wr g) ∧ (∀ x ∈ KW, WchOk x) ∧
    Sx k Bp p bi di li wr ∧ Stp p b w bi wr ∧ bi.vw = b.vw ∧ di.W = d.W ∧ di.no = d.no
theorem Lk.app {N : Nat} {di : Det} {li : List Int} {bi : Bl} {X : List NtX} {KW : List Wch} {i : Nat} {y : Wch} {u5 u6 v7 : Value} {w4 w7 : World} (h : Sx k Bp p b d l w)
    (hlk : Hid (d.look k d.W l = (X.map NtX.n ++ (di.look k (d.W.drop (i + 1)) li).1, (KW ++ [y]) ++ (di.look k (d.W.drop (i + 1)) li).2.1, (di.look k (d.W.drop (i + 1)) li).2.2)))
    (hX : X.length ≤ 64 * (i + 1)) (hK : KW.length ≤ i) (hsd : Sd p bi w u5 X w4) (hkw : OwE encW 133 w.heap.size u6 KW w4) (hkA : ∀ g, u6.ownBlock = some g → Away p bi w4 g) (hkO : ∀ x ∈ KW, WchOk x) (hyo : WchOk y)
    (hdi : Sx k Bp p bi di li w4) (hst : Stp p b w bi w4) (hbw : bi.vw = b.vw) (hdw : di.W = d.W) (hdn : di.no = d.no)
    (hO7 : OwE encW 133 w.heap.size v7 (KW ++ [y]) w7) (hg7 : w4.grownBy w7 u6.ownBlock) (hv7 : v7.ownBlock = u6.ownBlock ∨ v7.ownBlock = some w4.heap.size) : Lk k Bp p N b d l w (i + 1) u5 v7 w7 := by
  have hz4 := hst.size
  have hA7 : ∀ g, Away p bi w4 g → Away p bi w7 g := fun g a => ⟨Nat.lt_of_lt_of_le a.lt hg7.size, a.p, a.own⟩
  refine ⟨X, KW ++ [y], di, li, bi, hlk.out, hX, by simp; omega, hsd.grown hg7 fun g e => owe_type hkw e, hO7, fun g hg => ?_, fun x hx => ?_, hdi.grown hg7 fun g e => ⟨hkA g e, by have := (hkw.lt g e).1; have := h.lots.lt; omega⟩, hst.high ⟨hg7.os, hg7.tape, hg7.output, hg7.size, fun g hg => hg7.block g (by omega) (fun e => by have := (hkw.lt g e.symm).1; omega)⟩, hbw, hdw, hdn⟩
  · rcases hv7 with e | e
    · exact hA7 g (hkA g (e.symm.trans hg))
    · rw [e] at hg; cases hg
      exact ⟨(hO7.lt _ e).2, hdi.pn (Nat.le_refl _), fun i => hdi.nn (Nat.le_refl _) i⟩
  · rcases List.mem_append.1 hx with hx | hx
    · exact hkO x hx
    · obtain rfl := List.mem_singleton.1 hx; exact hyo
set_option maxRecDepth 100000 in
set_option maxHeartbeats 4000000 in
theorem look_any (h : Sx k Bp p b d l w) (hWl : d.W.length ≤ 1000) :
    Calls Tryz.prog 39 #[.pointer (some ⟨b.q, 0, none⟩), .pointer (some ⟨p, 0, none⟩)] w fun e w' => ∃ v X b', e = .returned v ∧ Sd p b' w v X w' ∧ X.map NtX.n = (d.lookAfter k l).1 ∧ Sx k Bp p b' (d.lookAfter k l).2.1 (d.lookAfter k l).2.2 w' ∧ Stp p b w b' w' := by
  have hok := h.dt.ok.W
  obtain ⟨va, vcap, hvw, hvc, _⟩ := h.dt.ws.len
  have c4 := h.dt.c4
  rw [hvw] at c4
  obtain ⟨N, HN⟩ : ∃ N, Hid (d.W.length = N) := ⟨_, rfl⟩
  rw [HN.out] at hWl c4 hvw hvc
  go_enter Tryz.func39, Tryz.ntmps39
  go_wp2_with fail
  go_loopg [5, 6, 15] N (fun gk t5 t6 t15 wr => ∃ i : Nat, i + gk = N ∧ t15 = .int .i64 i ∧ Lk k Bp p N b d l w i t5 t6 wr)
  case atStart => exact ⟨0, by omega, rfl, ⟨[], [], d, l, b, by simp, by simp, by simp, Sd.nil _ _ _ _, OwE.nil _ _ _ _, (fun g hg => by cases hg), (fun x hx => by cases hx), h, Stp.refl _ _ _, rfl, rfl, rfl⟩⟩
  case round =>
    obtain ⟨i, hi, rfl, ⟨X, KW, di, li, bi, hlk, hXl, hKl, hsd, hkw, hkA, hkO, hdi, hst, hbw, hdw, hdn⟩⟩ := hrel
    by_cases hlt : (i : Int) < N
    · have i0 : (0 : Int) ≤ i := by omega
      have hil : i < d.W.length := by rw [HN.out]; omega
      obtain ⟨gw, rfl⟩ : ∃ gw, va = some ⟨gw, 0, none⟩ := by
        rcases h.dt.ws.2 with ⟨e, h0⟩ | ⟨g, cap, cur, e, _⟩
        · omega
        · rw [hvw] at e; cases e; exact ⟨g, rfl⟩
      have hWr : OwE encW 133 0 (.slice (some ⟨gw, 0, none⟩) d.W.length vcap) d.W wr := by
        have := hdi.dt.ws
        rw [hdw, hbw, hvw, ← HN.out] at this
        exact this
      obtain ⟨x0, x1, x2, x3⟩ := hWr.atW rfl i hil
      have HLK : Hid _ := hlk
      have hyo := hok d.W[i] (List.getElem_mem hil)
      have hdrop : Hid (d.W.drop i = d.W[i] :: d.W.drop (i + 1)) := List.drop_eq_getElem_cons hil
      clear hlk hWr
      generalize d.W[i] = y at *
      have bY := below_alloc wr (.cells (cellsW y) 133)
      have hY := BW.new y wr
      have h2 := hdi.below bY
      have hAY := hdi.away (w' := wr.alloc (.cells (cellsW y) 133)) (Nat.le_refl _) hY.lt
      have hsd2 := hsd.stp (Stp.of bY)
      have hkw2 := hkw.below bY
      have hkA2 := fun g hg => (hkA g hg).stp (Stp.of bY)
      have hst2 := hst.then bY
      have hq : bi.q = b.q := hst.q
      obtain ⟨w2, HW2⟩ : ∃ w2, Hid (w2 = wr.alloc (.cells (cellsW y) 133)) := ⟨_, rfl⟩
      have S2 : Stp p bi wr bi (wr.alloc (.cells (cellsW y) 133)) := Stp.of bY
      rw [← HW2.out] at hY h2 hAY hsd2 hkw2 hkA2 hst2 S2
      go_upto_region 6 with fail
      rw [← HW2.out]
      clear x0 x1 x2 x3
      have c7 := h2.dt.c7
      rw [hq, hdn] at c7
      have y2 := hY.c2
      obtain ⟨z, HZ⟩ : ∃ z, Hid (u64w (di.no - y.a) = z) := ⟨_, rfl⟩
      have hz1 : IntKind.u64.wrap (d.no - y.a) = z := by rw [← hdn]; exact HZ.out
      have hz2 : (d.no - y.a) % 18446744073709551616 = z := by rw [← IntKind.wrap_u64]; exact hz1
      have hzr : 0 ≤ z ∧ z ≤ 18446744073709551615 := by rw [← HZ.out]; exact u64w_ok _
      go_quiet (fail)
      have bq := Ro.below_drewN w2.heap.size w2 nq
      have hY3 := hY.below bq
      have h3 := h2.below bq
      have hAY3 := hAY.stp (Stp.of bq)
      have hsd3 := hsd2.stp (Stp.of bq)
      have hkw3 := hkw2.below bq
      have hkA3 := fun g hg => (hkA2 g hg).stp (Stp.of bq)
      have hst3 := hst2.then bq
      generalize w2.drewN nq = w3 at *
      have S3 : Stp p bi wr bi w3 := S2.then bq
      clear hY h2 hAY hsd2 hkw2 hkA2 hst2 c7 y2 bq hz1 hz2 HW2 bY
      have hz3 := hst3.size
      have y0 := hY3.c0
      have y1 := hY3.c1
      have y2 := hY3.c2
      have y3 := hY3.c3
      by_cases h4 : 4 ≤ z
      · have hmi := miss_any h3 y.n hyo.n
        rw [hq] at hmi
        have hlk' : Hid (d.look k d.W l = (X.map NtX.n ++ ((di.miss k y.n li).1.look k (d.W.drop (i + 1)) (di.miss k y.n li).2).1, KW ++ ((di.miss k y.n li).1.look k (d.W.drop (i + 1)) (di.miss k y.n li).2).2.1, ((di.miss k y.n li).1.look k (d.W.drop (i + 1)) (di.miss k y.n li).2).2.2)) := by
          show _ = _
          rw [HLK.out, hdrop.out, look_miss k di y _ li (by rw [HZ.out]; exact h4)]
        clear HLK HZ
        go_wp2_with fail
        refine hmi.mono ?_
        rintro e w4 ⟨rfl, b4, h4', s4, u4⟩
        go_wp2_with fail
        go_roundg (gk - 1)
        case rel => exact ⟨i + 1, by omega, by go_num, ⟨X, KW, _, _, b4, hlk'.out, by omega, by omega, hsd3.stp s4, hkw3.keep fun g hg _ => s4.keep (hkA3 g hg), fun g hg => (hkA3 g hg).stp s4, hkO, h4', hst3.trans s4, u4.trans hbw, (miss_W _ _ _ _).1.trans hdw, (miss_W _ _ _ _).2.1.trans hdn⟩⟩
        case measure => omega
      · by_cases hask : 2 ≤ z ∧ y.h = false
        · obtain ⟨h2z, hyh⟩ := hask
          have hak := ask_W k di y li
          have hlk' : Hid (∀ Y : List NtX, Y.map NtX.n = (di.ask k y li).1 → d.look k d.W l = ((X ++ Y).map NtX.n ++ ((di.ask k y li).2.1.look k (d.W.drop (i + 1)) (di.ask k y li).2.2).1, (KW ++ [{ y with h := true }]) ++ ((di.ask k y li).2.1.look k (d.W.drop (i + 1)) (di.ask k y li).2.2).2.1, ((di.ask k y li).2.1.look k (d.W.drop (i + 1)) (di.ask k y li).2.2).2.2)) := by
            show ∀ _, _
            intro Y hY
            rw [HLK.out, hdrop.out, look_ask k di y _ li (by rw [HZ.out]; exact h4) (by rw [HZ.out]; exact ⟨h2z, hyh⟩)]
            simp [hY]
          have hb34 : Below wr.heap.size w3 (w3.setCell ⟨wr.heap.size, 3, none⟩ (.bool true)) := ⟨rfl, rfl, rfl, by simp [World.setCell], fun g hg => Below.heap_setCell _ _ _ _ (by show g ≠ wr.heap.size; omega)⟩
          have h4' := hdi.high h3 hb34
          have S4 := S3.high hb34
          have hY4 := hY3.set3 true
          have hAY4 : Away p bi (w3.setCell ⟨wr.heap.size, 3, none⟩ (.bool true)) wr.heap.size := ⟨by simpa [World.setCell] using hAY3.lt, hAY3.p, hAY3.own⟩
          have f3 := hY3.free 3
          rw [hyh] at y3
          clear HLK HZ hsd3 hkw3 hkA3 hst3 hz3 h3
          obtain ⟨w4, HW4⟩ : ∃ w4, Hid (w4 = w3.setCell ⟨wr.heap.size, 3, none⟩ (.bool true)) := ⟨_, rfl⟩
          rw [← HW4.out] at h4' S4 hY4 hAY4
          have hsd4 := hsd.stp S4
          have hkw4 := hkw.keep fun g hg _ => S4.keep (hkA g hg)
          have hkA4 := fun g hg => (hkA g hg).stp S4
          have hst4 := hst.trans S4
          have hz4 := hst4.size
          have hask := ask_any h4' { y with h := true }
          rw [ask_h, hq] at hask
          clear hsd hkw hkA hst hdi S3 S4 hb34
          go_upto_region 11 with fail
          rw [← HW4.out]
          clear y0 y1 y2 y3 f3
          have y0 := hY4.c0
          have y1 := hY4.c1
          have y2 := hY4.c2
          have y3 := hY4.c3
          go_upto_region 12 with (first
            | (go_at_call 77; go_must (refine hask.mono ?_; rintro e w5 ⟨v5, Y, rfl, hsdY, hYn, h5, s5⟩; have hsd5 := hsd4.stp s5; have hrow5 := hsd5.row; have hsdY5 := hsdY.up hz4; have hrowY := hsdY5.row; have hz5 := (hst4.trans s5).size; have hYl : Y.length ≤ 64 := (by have q1 := congrArg List.length hYn; rw [List.length_map] at q1; have q2 := hak.2.2.2; omega)))
            | (at_builtin; go_must (refine wpList_appE2 Tryz.underlying43 Tryz.infoN (by decide) (by decide) w5 rfl (.tmp 41) (.tmp 45) rfl w.heap.size w.heap.size u5 v5 X Y rfl hrow5 hz5 rfl hrowY (by omega) ?_; intro v6 w6 hO6 hg6 hv6)))
          have hst5 := hst4.trans s5
          have hkw5 := hkw4.keep fun g hg _ => s5.keep (hkA4 g hg)
          have hkA5 := fun g hg => (hkA4 g hg).stp s5
          have hY5 := hY4.keep (s5.keep hAY4)
          have hAY5 := hAY4.stp s5
          have hne : ∀ g cur, w5.heap[g]? = some (.cells cur 133 (0, 0)) → u5.ownBlock ≠ some g := fun g cur e e' => by
            obtain ⟨c, hc⟩ := owe_type hrow5 e'
            rw [hc] at e; simp at e
          have hY6 := hY5.keep (hg6.block _ hY5.lt (fun e => hne _ _ hY5.heap e.symm))
          have hkw6 := hkw5.keep fun g hg hlt => hg6.block g hlt (fun e => by obtain ⟨c, hc⟩ := owe_type hkw5 hg; exact hne _ _ hc e.symm)
          have hkA6 : ∀ g, u6.ownBlock = some g → Away p bi w6 g := fun g hg => ⟨Nat.lt_of_lt_of_le (hkA5 g hg).lt hg6.size, (hkA5 g hg).p, (hkA5 g hg).own⟩
          have h6 := h5.grown hg6 fun g e => ⟨hsd5.away g e, by have := (hrow5.lt g e).1; have := h.lots.lt; omega⟩
          have hst6 := hst5.high ⟨hg6.os, hg6.tape, hg6.output, hg6.size, fun g hg => hg6.block g (by omega) (fun e => by have := (hrow5.lt g e.symm).1; omega)⟩
          have hsd6 := Sd.app h5 hsd5 hsdY5 hO6 hg6 hv6 (fun g hg => (hO6.lt g hg).2)
          have hXY : (X ++ Y).length ≤ 64 * (i + 1) := by simp; omega
          clear hsd4 hkw4 hkA4 hst4 hsd5 hkw5 hkA5 hst5 h5 h4' hY4 hY5 hAY4 y0 y1 y2 y3 s5
          have y0 := hY6.c0
          have y1 := hY6.c1
          have y2 := hY6.c2
          have y3 := hY6.c3
          have hOne := (BW.new { y with h := true } w6).rd
          have b7 := below_alloc w6 (.cells (cellsW { y with h := true }) 133)
          have hkw7 := hkw6.below b7
          have hz7 := (hst6.then b7).size
          have h7 := h6.below b7
          have hsd7 := hsd6.stp (Stp.of b7)
          have hkA7 := fun g hg => (hkA6 g hg).stp (Stp.of b7)
          have hst7 := hst6.then b7
          obtain ⟨w7, HW7⟩ : ∃ w7, Hid (w7 = w6.alloc (.cells (cellsW { y with h := true }) 133)) := ⟨_, rfl⟩
          rw [← HW7.out] at hOne hkw7 hz7 h7 hsd7 hkA7 hst7
          have hlkY := hlk'.out Y hYn
          have hlkY' : Hid _ := hlkY
          clear hlkY hlk'
          go_wp2_with (at_builtin; go_must (rw [← HW7.out]; refine wpList_appE Tryz.underlying91 Tryz.infoW (by decide) (by decide) w7 rfl (.tmp 47) (.tmp 49) rfl w.heap.size u6 KW rfl hkw7 hz7 w6.heap.size 0 1 [{ y with h := true }] 1 rfl rfl hOne (by simp; omega) ?_; intro v8 w8 hO8 hg8 hv8))
          go_roundg (gk - 1)
          case rel => exact ⟨i + 1, by omega, by go_num, Lk.app h hlkY' hXY hKl hsd7 hkw7 hkA7 hkO ⟨hyo.n, hyo.q, hyo.a⟩ h7 hst7 hbw (hak.1.trans hdw) (hak.2.1.trans hdn) hO8 hg8 hv8⟩
          case measure => omega
        · have hlk' : Hid (d.look k d.W l = (X.map NtX.n ++ (di.look k (d.W.drop (i + 1)) li).1, (KW ++ [y]) ++ (di.look k (d.W.drop (i + 1)) li).2.1, (di.look k (d.W.drop (i + 1)) li).2.2)) := by
            show _ = _
            rw [HLK.out, hdrop.out, look_stay k di y _ li (by rw [HZ.out]; exact h4) (by rw [HZ.out]; exact hask)]
            simp
          have hask' : Hid (¬ (2 ≤ z ∧ y.h = false)) := hask
          clear HLK HZ hask
          have hOne := (BW.new y w3).rd
          have b4 := below_alloc w3 (.cells (cellsW y) 133)
          have hkw4 := hkw3.below b4
          have hz4 := (hst3.then b4).size
          have h4' := h3.below b4
          have hsd4 := hsd3.stp (Stp.of b4)
          have hkA4 := fun g hg => (hkA3 g hg).stp (Stp.of b4)
          have hst4 := hst3.then b4
          obtain ⟨w4, HW4⟩ : ∃ w4, Hid (w4 = w3.alloc (.cells (cellsW y) 133)) := ⟨_, rfl⟩
          rw [← HW4.out] at hOne hkw4 hz4 h4' hsd4 hkA4 hst4
          cases hyh : y.h
          all_goals
            rw [hyh] at y3
            by_cases h2z : 2 ≤ z
            all_goals
              first
                | (exfalso; exact hask'.out ⟨h2z, hyh⟩)
                | (go_wp2_with (at_builtin; go_must (rw [← hyh, ← HW4.out]; refine wpList_appE Tryz.underlying91 Tryz.infoW (by decide) (by decide) w4 rfl (.tmp 47) (.tmp 49) rfl w.heap.size u6 KW rfl hkw4 hz4 w3.heap.size 0 1 [y] 1 rfl rfl hOne (by simp; omega) ?_; intro v7 w7 hO7 hg7 hv7))
                   go_roundg (gk - 1)
                   case rel => exact ⟨i + 1, by omega, by go_num, Lk.app h hlk' (by omega) hKl hsd4 hkw4 hkA4 hkO hyo h4' hst4 hbw hdw hdn hO7 hg7 hv7⟩
                   case measure => omega)
    · obtain rfl : i = N := by omega
      have hlk' : Hid (d.look k d.W l = (X.map NtX.n, KW, di, li)) := by
        show _ = _
        rw [hlk, List.drop_of_length_le (by rw [HN.out]; exact Nat.le_refl _)]
        simp [Det.look]
      obtain ⟨a5, L5, c5, e5⟩ : ∃ a L c, u5 = .slice a L c := (by obtain ⟨a, cap, e, _⟩ := hsd.row.len; exact ⟨a, _, cap, e⟩)
      obtain ⟨a6, L6, c6, e6⟩ : ∃ a L c, u6 = .slice a L c := (by obtain ⟨a, cap, e, _⟩ := hkw.len; exact ⟨a, _, cap, e⟩)
      subst e5 e6
      obtain ⟨h8, s8⟩ := h.putW hdi hst hkw hkA hkO
      have hq : bi.q = b.q := hst.q
      have e4 : (⟨bi.q, 4, none⟩ : Addr) = ⟨b.q, 4, none⟩ := by rw [hq]
      rw [e4] at h8 s8
      have c4' := hdi.dt.c4
      have f4' := hdi.dt.free 4
      rw [hq] at c4' f4'
      have hqn : ∀ g, Away p bi wr g → g ≠ b.q := fun g a e => a.own 0 (by rw [e, ← hq]; rfl)
      have hsd8 : Sd p { bi with vw := .slice a6 L6 c6 } w (.slice a5 L5 c5) X (wr.setCell ⟨b.q, 4, none⟩ (.slice a6 L6 c6)) := by
        have hb : ∀ g, Away p bi wr g → (wr.setCell ⟨b.q, 4, none⟩ (.slice a6 L6 c6)).heap[g]? = wr.heap[g]? := fun g a => Below.heap_setCell _ _ _ _ (hqn g a)
        have hA : ∀ g, Away p bi wr g → (∀ cur, wr.heap[g]? ≠ some (.cells cur 133 (0, 0))) → Away p { bi with vw := .slice a6 L6 c6 } (wr.setCell ⟨b.q, 4, none⟩ (.slice a6 L6 c6)) g := fun g a ht => ⟨by simpa [World.setCell] using a.lt, a.p, fun j e => by
          by_cases ej : j = 5
          · subst ej
            obtain ⟨cur, hc⟩ := owe_type hkw e
            exact ht cur hc
          · exact a.own j ((own_but (b := bi) (b' := { bi with vw := .slice a6 L6 c6 }) 5 (fun _ => rfl) (fun _ => rfl) (fun _ => rfl) (fun _ => rfl) (fun _ => rfl) (fun e => absurd rfl e) (fun _ => rfl) j ej).symm.trans e)⟩
        refine ⟨hsd.row.keep fun g hg _ => hb g (hsd.away g hg), fun g hg => hA g (hsd.away g hg) fun cur e => ?_, fun x hx => (hsd.news x hx).keep fun g hg _ => hb g (hsd.naw x hx g hg), fun x hx g hg => hA g (hsd.naw x hx g hg) fun cur e => ?_⟩
        · obtain ⟨c, hc⟩ := owe_type hsd.row hg
          rw [hc] at e; simp at e
        · obtain ⟨c, hc⟩ := own_type (hsd.news x hx) hg
          rw [hc] at e; simp at e
      clear c4
      go_wp2_with fail
      go_ret
      unfold Det.lookAfter
      rw [hlk'.out]
      exact ⟨_, rfl, X, _, hsd8, rfl, h8, s8⟩
end
def Det.setw (d : Det) (X : List Wch) : Det := { d with W := X }
theorem learn_setw (d : Det) (u : Upd) (f : Int) (was : Bool) (l : List Int) (X : List Wch) : (d.setw X).learn u f was l = ((d.learn u f was l).1.setw X, (d.learn u f was l).2) := by
  unfold Det.learn
  by_cases h1 : u.s = 1
  · simp only [if_pos h1]; rfl
  · by_cases h2 : u.s = 0 ∧ was = false
    · simp only [if_neg h1, if_pos h2]; rfl
    · simp only [if_neg h1, if_neg h2]; rfl
theorem take_setw (k : Nat) (d : Det) (u : Upd) (f : Int) (l : List Int) (X : List Wch) : (d.setw X).take k u f l = ((d.take k u f l).1, (d.take k u f l).2.1.setw X, (d.take k u f l).2.2) := by
  have e1 : (d.setw X).f = d.f := rfl
  have e2 : (d.setw X).live = d.live := rfl
  unfold Det.take
  rw [e1, e2]
  have e3 : ({ d.setw X with f := (hearS k d.f u).2 } : Det) = ({ d with f := (hearS k d.f u).2 } : Det).setw X := rfl
  rw [e3, learn_setw]
  have e4 : (({ d with f := (hearS k d.f u).2 } : Det).setw X).knows u = ({ d with f := (hearS k d.f u).2 } : Det).knows u := rfl
  rw [e4]
  split
  · rfl
  · split
    · rfl
    · split
      · rfl
      · split <;> rfl
end Go.Proofs.YtpoofjnfaijjjaaGreatDoor
