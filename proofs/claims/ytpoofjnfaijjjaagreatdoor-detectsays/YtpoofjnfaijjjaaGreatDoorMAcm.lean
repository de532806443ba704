/-
  pinged; fault. askFor. lookAfter. acked: its closures, and it. acked.
-/
import Derived.Test.YtpoofjnfaijjjaaGreatDoorMEru
import Derived.Test.YtpoofjnfaijjjaaGreatDoorMClu
namespace Go.Proofs.YtpoofjnfaijjjaaGreatDoor
open Go.RowKit Go.Proofs.YtpoofjnfaijjjaaGreatDoor.Ro
section
variable {k Bp p : Nat} {b : Bl} {d : Det} {l : List Int} {w : World}
theorem news_away (h : Sx k Bp p b d l w) {w' : World} {v : Value} {N : List Upd} (hO : Ro.Own w.heap.size v N w') : ∀ g, v.ownBlock = some g → Away p b w' g := fun g hg => h.away (hO.lt g hg).1 (hO.lt g hg).2
theorem Bn.stp {g : Nat} {K F T Q O : Int} {v : Value} {b' : Bl} {w' : World} (h : Bn g K F T Q O v w) (hA : Away p b w g) (s : Stp p b w b' w') : Bn g K F T Q O v w' := h.keep (s.keep hA)

set_option maxRecDepth 100000 in
set_option maxHeartbeats 1000000 in
theorem pinged_any (h : Sx k Bp p b d l w) (K F T Q O : Int) (na : Option Addr) (nl nc : Nat) :
    Calls Tryz.prog 103 #[.pointer (some ⟨b.q, 0, none⟩), .agg (ntC K F T Q O (.slice na nl nc))] w fun e w' => ∃ v X, e = .returned v ∧ Sd p b w v X w' ∧ X.map NtX.n = [⟨2, k, F, Q, k, d.news k F⟩] ∧ Sx k Bp p b (d.told k F) l w' ∧ Stp p b w b w' := by
  have ba := below_alloc w (.cells (ntC K F T Q O (.slice na nl nc)) 37)
  have hN := Bn.new K F T Q O (.slice na nl nc) w
  have h1 := h.below ba
  have hA := h.away (w' := w.alloc (.cells (ntC K F T Q O (.slice na nl nc)) 37)) (Nat.le_refl _) hN.lt
  obtain ⟨w1, HW1⟩ : ∃ w1, Hid (w1 = w.alloc (.cells (ntC K F T Q O (.slice na nl nc)) 37)) := ⟨_, rfl⟩
  rw [← HW1.out] at ba hN h1 hA
  have hS1 := And.intro hN.c1 hN.c3
  go_enter Tryz.func103, Tryz.ntmps103
  go_upto_region 1 with fail
  rw [← HW1.out]
  go_region_held3 (fun w' => w'.cell? ⟨w.heap.size, 1, none⟩ = some (.int .i64 F) ∧ w'.cell? ⟨w.heap.size, 3, none⟩ = some (.int .u64 Q)) (first | exact hS1 | exact hS2 | exact hS3 | exact And.intro (hN3.below (below_alloc _ _)).c1 (hN3.below (below_alloc _ _)).c3) ((first
    | (go_at_call 44; refine (me_any h1.drew).mono ?_; rintro e w2 ⟨rfl, hb2⟩; have h2 := h1.drew.below hb2; have hN2 := hN.drew.below hb2; have hA2 := hA.drew.stp (Stp.of hb2); have hS2 := And.intro hN2.c1 hN2.c3)
    | (go_at_call 122; refine (say_any h2 2 0 F Q k).mono ?_; rintro e w3 ⟨v3, rfl, hO3, h3, s3⟩; obtain ⟨a3, L3, c3, rfl⟩ : ∃ a L c, v3 = .slice a L c := (by obtain ⟨a, cap, e, _⟩ := hO3.ru; exact ⟨a, _, cap, e⟩); have hN3 := hN2.stp hA2 s3; have hS3 := And.intro hN3.c1 hN3.c3)))
  all_goals
    go_wp2_with fail
    go_ret
    have S3 : Stp p b w b w3 := ((Stp.of ba).drew.then hb2).trans s3
    have hz : w.heap.size ≤ w2.heap.size := ((Stp.of (p := p) (b := b) ba).drew.then hb2).size
    have b3 := below_alloc w3 (.cells (ntC 2 k F Q k (.slice a3 L3 c3)) 37)
    have hsd := Sd.one (w0 := w) (n := ⟨2, k, F, Q, k, d.news k F⟩) h3 S3.size (Ro.Own.mono hO3 hz) (news_away h2 hO3)
    exact ⟨_, _, rfl, hsd, rfl, h3.below b3, S3.then b3⟩
end
end Go.Proofs.YtpoofjnfaijjjaaGreatDoor
namespace Go.Proofs.YtpoofjnfaijjjaaGreatDoor
open Go.RowKit Go.Proofs.YtpoofjnfaijjjaaGreatDoor.Ro
theorem oth_len (k : Nat) (f : Tab) : (othS k f).length ≤ 64 := by
  unfold othS
  rw [Bnd.lst_length]
  exact Bnd.many_le _
section
variable {k Bp p : Nat} {b : Bl} {d : Det} {l : List Int} {w : World}

set_option maxRecDepth 100000 in
set_option maxHeartbeats 2000000 in
theorem ask_any (h : Sx k Bp p b d l w) (x : Wch) :
    Calls Tryz.prog 77 #[.pointer (some ⟨b.q, 0, none⟩), .agg (cellsW x), .pointer (some ⟨p, 0, none⟩)] w fun e w' => ∃ v X, e = .returned v ∧ Sd p b w v X w' ∧ X.map NtX.n = (d.ask k x l).1 ∧ Sx k Bp p b (d.ask k x l).2.1 (d.ask k x l).2.2 w' ∧ Stp p b w b w' := by
  have ba := below_alloc w (.cells (cellsW x) 133)
  have hX := BW.new x w
  have h1 := h.below ba
  obtain ⟨w1, HW1⟩ : ∃ w1, Hid (w1 = w.alloc (.cells (cellsW x) 133)) := ⟨_, rfl⟩
  rw [← HW1.out] at ba hX h1
  have hS1 := And.intro h1.dt.c0 hX.c0
  have hol := oth_len k d.f
  have hoth := fun w' hR hT => others_any b.r k d.f w' hR hT
  have hhel := fun v w' hv hL hok => Rn.help_any Bp p v (othS k d.f) l x.n 2 w' (by omega) (by decide) hv hL hok
  have hhok := Rn.helpS_ok (othS k d.f) x.n 2 h.lok
  obtain ⟨R, HR⟩ : ∃ R, Hid (d.ask k x l = R) := ⟨_, rfl⟩
  rw [HR.out]
  have HR' : Hid (R = ((d.helps k x (Rn.helpS (othS k d.f) x.n 2 l).1).1, (d.helps k x (Rn.helpS (othS k d.f) x.n 2 l).1).2, (Rn.helpS (othS k d.f) x.n 2 l).2)) := HR.out.symm
  clear HR
  have hHl : (Rn.helpS (othS k d.f) x.n 2 l).1.length ≤ 64 := by
    unfold Rn.helpS Rn.someS
    split
    · simp
    · rw [List.length_take, Rn.shufS_length]
      have := List.length_filter_le (fun y => !decide (y = x.n)) (othS k d.f)
      omega
  generalize (Rn.helpS (othS k d.f) x.n 2 l).1 = H at *
  generalize (Rn.helpS (othS k d.f) x.n 2 l).2 = l' at *
  generalize othS k d.f = o at *
  go_enter Tryz.func77, Tryz.ntmps77
  go_upto_region 2 with fail
  rw [← HW1.out]
  go_region_held3 (fun w' => w'.cell? ⟨b.q, 0, none⟩ = some (.pointer (some ⟨b.r, 0, none⟩)) ∧ w'.cell? ⟨w.heap.size, 0, none⟩ = some (.int .i64 x.n)) (first | exact hS1 | exact hS2 | exact hS3) ((first
    | (go_at_call 88; refine (hoth _ h1.drew.dt.roll h1.drew.dt.tab).mono ?_; rintro e w2 ⟨⟨vo, rfl, hro, hgo⟩, hb2⟩; have h2 := h1.drew.below hb2; have hX2 := hX.drew.below hb2; have hS2 := And.intro h2.dt.c0 hX2.c0)
    | (go_at_call 121; refine (hhel vo w2 hro h2.lots h2.lok).mono ?_; rintro e w3 ⟨⟨v3, rfl, hR3, hg3⟩, hL3, hB3⟩; obtain ⟨a3, L3, c3, HL3, rfl⟩ : ∃ a L c, L = H.length ∧ v3 = .slice a L c := (by obtain ⟨a, cap, e, _⟩ := hR3; exact ⟨a, _, cap, rfl, e⟩); obtain ⟨h3, s3⟩ := h2.setL hL3 hB3 hhok; have hX3 := hX2.keep (hB3.block _ hX2.lt (h.pn (Nat.le_refl _))); have hS3 := And.intro h3.dt.c0 hX3.c0)))
  all_goals
    have S2 : Stp p b w b w2 := (Stp.of ba).drew.then hb2
    have S3 := S2.trans s3
    have hA3 : Away p b w3 w.heap.size := h.away (Nat.le_refl _) hX3.lt
    have hAR : ∀ g, (Value.slice a3 L3 c3).ownBlock = some g → Away p b w3 g ∧ g < w3.heap.size := fun g hg => ⟨h2.away (hg3 g hg).1 (hg3 g hg).2, (hg3 g hg).2⟩
    have hz3 := S3.size
    subst HL3
    clear h1 h2 hX hX2 hS1 hS2 hS3 hb2 hro hgo hL3 hB3 s3 S2 hg3 hoth hhel ba
    go_wp2_with fail
    go_loopg [7, 20] H.length (fun gk t7 t20 wr => ∃ (i : Nat) (X : List NtX) (di : Det), i + gk = H.length ∧ t20 = .int .i64 i ∧ Hid (d.helps k x H = (X.map NtX.n ++ (di.helps k x (H.drop i)).1, (di.helps k x (H.drop i)).2)) ∧ X.length = i ∧ Sd p b w3 t7 X wr ∧ Sx k Bp p b di l' wr ∧ Stp p b w3 b wr ∧ BW w.heap.size x wr ∧ Rn.Rd .i64 (.slice a3 H.length c3) H wr)
    case atStart => exact ⟨0, [], d, by omega, rfl, by show _ = _; simp, rfl, Sd.nil _ _ _ _, h3, Stp.refl _ _ _, hX3, hR3⟩
    case round =>
      obtain ⟨i, X, di, hi, rfl, hrl, hXl, hsd, hdi, hst, hBx, hRd⟩ := hrel
      by_cases hlt : (i : Int) < H.length
      · have i0 : (0 : Int) ≤ i := by omega
        have hil : i < H.length := by omega
        obtain ⟨_, _, e', _, _, _, k1⟩ := id hRd
        cases e'
        rcases k1 with k1 | ⟨g1, o1, rfl, k1⟩
        · omega
        have c1 := k1 i hil
        have hstep : Hid (d.helps k x H = ((X.map NtX.n ++ [⟨3, k, H[i], x.q, x.n, di.news k H[i]⟩]) ++ ((di.told k H[i]).helps k x (H.drop (i + 1))).1, ((di.told k H[i]).helps k x (H.drop (i + 1))).2)) := by
          show _ = _
          rw [hrl.out, List.drop_eq_getElem_cons hil]
          simp [Det.helps]
        clear k1 hrl
        have b0 := hBx.c0
        have b1 := hBx.c1
        generalize H[i] = y at *
        go_wp2_with (first
          | (go_at_call 122; go_must (refine (say_any hdi 3 0 y x.q x.n).mono ?_; rintro e w5 ⟨v5, rfl, hO5, h5, s5⟩; obtain ⟨a5, L5, c5, rfl⟩ : ∃ a L c, v5 = .slice a L c := (by obtain ⟨a, cap, e, _⟩ := hO5.ru; exact ⟨a, _, cap, e⟩); have b6 := below_alloc w5 (.cells (ntC 3 k y x.q x.n (.slice a5 L5 c5)) 37); have h6 := h5.below b6; have hst5 := hst.trans s5; have hone := Sd.one (w0 := w3) (n := ⟨3, k, y, x.q, x.n, di.news k y⟩) h5 hst5.size (Ro.Own.mono hO5 hst.size) (news_away hdi hO5); have hsd6 := (hsd.stp s5).stp (Stp.of b6); have hrow6 := hsd6.row; have hz6 := (hst5.then b6).size; have hrd6 := hone.row.rd))
          | (at_builtin; go_must (refine wpList_appE Tryz.underlying43 Tryz.infoN (by decide) (by decide) _ rfl (.tmp 24) (.tmp 33) rfl w3.heap.size _ X rfl hrow6 hz6 w5.heap.size 0 1 [⟨⟨3, k, y, x.q, x.n, di.news k y⟩, a5, L5, c5⟩] 1 rfl rfl hrd6 (by simp; omega) ?_; intro v7 w7 hO7 hg7 hv7)))
        have hb67 : Below w3.heap.size (w5.alloc (.cells (ntC 3 k y x.q x.n (.slice a5 L5 c5)) 37)) w7 := ⟨hg7.os, hg7.tape, hg7.output, hg7.size, fun g hg => hg7.block g (Nat.lt_of_lt_of_le hg hz6) (fun e => by have := (hrow6.lt g e.symm).1; omega)⟩
        have hsd7 := Sd.app h6 hsd6 hone hO7 hg7 hv7 (fun g hg => (hO7.lt g hg).2)
        have h7 := h3.high h6 hb67
        have hst7 := (hst5.then b6).high hb67
        have hBx7 := ((hBx.keep (s5.keep (hA3.stp hst))).below b6).keep (hb67.block _ hA3.lt)
        have hRd7 : Rn.Rd .i64 (.slice (some ⟨g1, o1, none⟩) H.length c3) H w7 := hRd.keep fun g hg hlt => (hb67.block g (hAR g hg).2).trans ((b6.block g (Nat.lt_of_lt_of_le hlt s5.size)).trans (s5.keep ((hAR g hg).1.stp hst)))
        go_roundg (gk - 1)
        case rel => exact ⟨i + 1, X ++ [⟨⟨3, k, y, x.q, x.n, di.news k y⟩, a5, L5, c5⟩], di.told k y, by omega, by go_num, by show _ = _; rw [hstep.out]; simp, by simp; omega, hsd7, h7, hst7, hBx7, hRd7⟩
        case measure => omega
      · obtain rfl : i = H.length := by omega
        have hrl' : Hid (d.helps k x H = (X.map NtX.n, di)) := by
          show _ = _
          rw [hrl.out]
          simp [Det.helps]
        obtain ⟨a7, L7, c7, e7⟩ : ∃ a L c, u7 = .slice a L c := (by obtain ⟨a, cap, e, _⟩ := hsd.row.len; exact ⟨a, _, cap, e⟩)
        subst e7
        go_wp2_with fail
        go_ret
        rw [HR'.out, hrl'.out]
        exact ⟨_, rfl, X, hsd.up hz3, rfl, hdi, S3.trans hst⟩
end
end Go.Proofs.YtpoofjnfaijjjaaGreatDoor
namespace Go.Proofs.YtpoofjnfaijjjaaGreatDoor
open Go.RowKit Go.Proofs.YtpoofjnfaijjjaaGreatDoor.Ro

/-! ## What stays -/
theorem susp_W (d : Det) (u : Upd) (f : Int) : (d.susp u f).W = d.W ∧ (d.susp u f).no = d.no ∧ (d.susp u f).E = d.E := ⟨rfl, rfl, rfl⟩
theorem learn_W (d : Det) (u : Upd) (f : Int) (was : Bool) (l : List Int) : (d.learn u f was l).1.W = d.W ∧ (d.learn u f was l).1.no = d.no ∧ (d.learn u f was l).1.E = d.E := by
  unfold Det.learn
  split
  · exact ⟨rfl, rfl, rfl⟩
  · split <;> exact ⟨rfl, rfl, rfl⟩
theorem take_W (k : Nat) (d : Det) (u : Upd) (f : Int) (l : List Int) : (d.take k u f l).2.1.W = d.W ∧ (d.take k u f l).2.1.no = d.no ∧ (d.take k u f l).2.1.E = d.E := by
  unfold Det.take
  split
  · exact ⟨rfl, rfl, rfl⟩
  · split
    · exact learn_W _ _ _ _ _
    · split
      · exact ⟨rfl, rfl, rfl⟩
      · split <;> exact ⟨rfl, rfl, rfl⟩
theorem miss_W (k : Nat) (d : Det) (x : Int) (l : List Int) : (d.miss k x l).1.W = d.W ∧ (d.miss k x l).1.no = d.no ∧ (d.miss k x l).1.E = d.E := by
  unfold Det.miss
  split
  · exact take_W _ _ _ _ _
  · exact ⟨rfl, rfl, rfl⟩
theorem helps_W (k : Nat) (x : Wch) : ∀ (H : List Int) (d : Det), (d.helps k x H).2.W = d.W ∧ (d.helps k x H).2.no = d.no ∧ (d.helps k x H).2.E = d.E ∧ (d.helps k x H).1.length = H.length
  | [], _ => ⟨rfl, rfl, rfl, rfl⟩
  | h :: r, d => by
    have ih := helps_W k x r (d.told k h)
    exact ⟨ih.1, ih.2.1, ih.2.2.1, by simp [Det.helps, ih.2.2.2]⟩
section
variable {α : Type} {E : Enc α} {T : TypeId} {w : World}
/-- What an append of a row to a row does, be it none. -/
theorem wpList_appE2 {ops : Array Oper} {rest : List Oper} {o : Oper} {a : Act} {Q : Exit → Act → World → Prop} {ST : TypeId} {z : Value} {bytes : Nat} (hST : Tryz.prog.underlying ST = some (.slice T)) (hinfo : (Tryz.prog.info? T).map (fun i => (i.zero, i.size, i.bytes)) = some (some z, E.sz, bytes)) (hz : z.cells.size = E.sz) (hby : bytes ≤ 1000) (w : World) (hgd : o.guard = none) (s x : Operand)
    (ho : o.op = .call { callee := .builtin .append, args := #[s, x], argTypes := #[ST, ST] }) (B C : Nat) (v u : Value) (l r : List α) (hs : a.eval s = v) (hown : OwE E T B v l w) (hB : B ≤ w.heap.size) (hx : a.eval x = u) (hu : OwE E T C u r w) (hl : l.length + r.length ≤ 1000000)
    (h : ∀ v' w', OwE E T B v' (l ++ r) w' → w.grownBy w' v.ownBlock → (v'.ownBlock = v.ownBlock ∨ v'.ownBlock = some w.heap.size) → wpList Tryz.prog ops Q rest (a.put o.dst v') w') : wpList Tryz.prog ops Q (o :: rest) a w := by
  refine wpList_plain hgd fun _ hK => ?_
  rcases id hu.2 with ⟨rfl, h0⟩ | ⟨g, cap, cur, rfl, _⟩
  · obtain rfl : r = [] := List.length_eq_zero_iff.1 h0
    obtain ⟨i0, hi, _, _, _⟩ := info_parts hinfo
    have hr := run_append_owned_none (P := Tryz.prog) w B ST o.type T i0 E.sz hST hi v l.length (E.flat l) hown
    unfold Oper.wp execOp
    simp only [ho, resolve, invoke, builtin, Sem.run_bind, Sem.run_pure, Result.andThen_ok, List.map_toArray, List.map_cons, List.map_nil, hs, hx, hr]
    exact hK _ _ (h v w (by rw [List.append_nil]; exact hown) ⟨rfl, rfl, rfl, Nat.le_refl _, fun _ _ _ => rfl⟩ (.inl rfl))
  · exact wp_appE hST hinfo hz hby w s x ho B v l hs hown hB g 0 cap r r.length rfl hx hu.rd hl fun v' w' h2 h3 h4 => hK _ _ (h v' w' h2 h3 h4)
end
section
variable {k Bp p : Nat} {b b0 : Bl} {d d0 : Det} {l l0 : List Int} {w w0 : World}
/-- A row of watches that was made since is stored. -/
theorem Sx.putW (h0 : Sx k Bp p b0 d0 l0 w0) (h : Sx k Bp p b d l w) (S : Stp p b0 w0 b w) {v' : Value} {W' : List Wch} (ho : OwE encW 133 w0.heap.size v' W' w) (hA : ∀ g, v'.ownBlock = some g → Away p b w g) (hW : ∀ x ∈ W', WchOk x) :
    Sx k Bp p { b with vw := v' } { d with W := W' } l (w.setCell ⟨b.q, 4, none⟩ v') ∧ Stp p b0 w0 { b with vw := v' } (w.setCell ⟨b.q, 4, none⟩ v') := by
  have hD := h.dt
  have hs : ∀ i, i ≠ 5 → Bl.own { b with vw := v' } i = b.own i := own_but 5 (fun _ => rfl) (fun _ => rfl) (fun _ => rfl) (fun _ => rfl) (fun _ => rfl) (fun e => absurd rfl e) (fun _ => rfl)
  have h5 : Bl.own { b with vw := v' } 5 = v'.ownBlock := rfl
  have hz : (w.setCell ⟨b.q, 4, none⟩ v').heap.size = w.heap.size := by simp [World.setCell]
  have hb : ∀ g, g ≠ b.q → (w.setCell ⟨b.q, 4, none⟩ v').heap[g]? = w.heap[g]? := fun g h2 => Below.heap_setCell _ _ _ _ h2
  have hk : ∀ i g, i ≠ 0 → b.own i = some g → (w.setCell ⟨b.q, 4, none⟩ v').heap[g]? = w.heap[g]? := fun i g h0 hg => hb g (fun e => h0 (hD.sep.one i 0 g hg (by rw [e]; rfl)))
  have hh : (w.setCell ⟨b.q, 4, none⟩ v').heap[b.q]? = some (.cells (Bl.cells { b with vw := v' } { d with W := W' }) 94 (0, 0)) := by
    simp [World.setCell, Array.getElem?_modify, hD.heap, Bl.cells]
  have hvq : ∀ g, v'.ownBlock = some g → g ≠ b.q := fun g e e' => (hA g e).own 0 (by rw [e']; rfl)
  have hfr : ∀ i g, Bl.own { b with vw := v' } i = some g → (∃ j, b0.own j = some g) ∨ w0.heap.size ≤ g := fun i g hg => by
    by_cases e : i = 5
    · subst e; exact .inr (ho.lt g hg).1
    · rw [hs i e] at hg; exact S.fr i g hg
  have hsep : Sep (Bl.own { b with vw := v' }) (w.setCell ⟨b.q, 4, none⟩ v').heap.size := by
    refine ⟨fun i j g hi hj => ?_, fun i g hi => ?_⟩
    · by_cases ei : i = 5
      · by_cases ej : j = 5
        · omega
        · subst ei
          rw [hs j ej] at hj
          exact absurd hj ((hA g hi).own j)
      · by_cases ej : j = 5
        · subst ej
          rw [hs i ei] at hi
          exact absurd hi ((hA g hj).own i)
        · rw [hs i ei] at hi
          rw [hs j ej] at hj
          exact hD.sep.one i j g hi hj
    · rw [hz]
      by_cases ei : i = 5
      · subst ei
        have := ho.lt g hi
        have := h0.dt.tab.lt
        omega
      · rw [hs i ei] at hi
        exact hD.sep.lt i g hi
  refine ⟨⟨⟨⟨hD.ok.k64, hD.ok.inv, hD.ok.qi, hD.ok.ql, hD.ok.di, hD.ok.s1, hD.ok.s2, hW, hD.ok.E, hD.ok.el, hD.ok.la, hD.ok.no⟩, hh, hD.roll.keep (hk 1 _ (by decide) rfl), hD.row.keep fun g hg _ => hk 4 g (by decide) hg, hD.qn, fun g hg => (hD.qm g hg).keep (hk 2 g (by decide) hg), hD.dn, fun g hg => (hD.dm g hg).keep (hk 3 g (by decide) hg), (ho.mono (Nat.zero_le _)).keep fun g hg _ => hb g (hvq g hg), hD.es.keep fun g hg _ => hk 6 g (by decide) hg,
    hD.tab.keep (hb 1 (fun e => by have := hD.sep.lt 0 _ rfl; omega)), hsep⟩, h.lots.keep fun g h1 h2 => hb g (fun e => by have := h.out 0 _ rfl; omega), h.lok, fun i g hg => ?_, h.low⟩, ⟨S.q, S.r, hfr, S.os, S.tape, S.output, by rw [hz]; exact S.size, fun g hg hp hn => ?_⟩⟩
  · by_cases e : i = 5
    · subst e
      have := (ho.lt g hg).1
      have := h0.lots.lt
      omega
    · rw [hs i e] at hg; exact h.out i g hg
  · rw [hb g (fun e => hn 0 (by rw [e, S.q]; rfl))]
    exact S.block g hg hp hn
end
end Go.Proofs.YtpoofjnfaijjjaaGreatDoor
namespace Go.Proofs.YtpoofjnfaijjjaaGreatDoor
open Go.RowKit Go.Proofs.YtpoofjnfaijjjaaGreatDoor.Ro

theorem find_at {α : Type} (f : α → Bool) : ∀ (l : List α) (i : Nat) (h : i < l.length), f l[i] = true → (∀ x ∈ l.take i, f x = false) → l.find? f = some l[i] ∧ l.eraseP f = l.eraseIdx i
  | x :: r, 0, _, h1, _ => by
    have h1 : f x = true := h1
    simp [h1]
  | x :: r, i + 1, h, h1, h2 => by
    have hx : f x = false := h2 x (by simp)
    have ih := find_at f r i (by simpa using h) h1 fun y hy => h2 y (by simp [hy])
    simp [hx, ih.1, ih.2]
section
variable {w : World}
set_option maxRecDepth 100000 in
set_option maxHeartbeats 400000 in
theorem indexfE_nil (F : FuncId) (caps : Array Value) : Calls Tryz.prog 78 #[.slice none 0 0, .func (.func F) #[] caps] w fun e w' => e = .returned (.int .i64 (-1)) ∧ w' = w := by
  go_enter Tryz.func78, Tryz.ntmps78
  go_wp2_with fail
  go_loopg [8] 0 (fun gk t8 wr => t8 = .int .i64 0 ∧ wr = w)
  case atStart => exact ⟨rfl, rfl⟩
  case round =>
    obtain ⟨rfl, rfl⟩ := hrel
    go_wp2_with fail
    go_ret
    exact ⟨rfl, rfl⟩
set_option maxRecDepth 100000 in
set_option maxHeartbeats 400000 in
theorem indexfW_nil (F : FuncId) (caps : Array Value) : Calls Tryz.prog 176 #[.slice none 0 0, .func (.func F) #[] caps] w fun e w' => e = .returned (.int .i64 (-1)) ∧ w' = w := by
  go_enter Tryz.func176, Tryz.ntmps176
  go_wp2_with fail
  go_loopg [8] 0 (fun gk t8 wr => t8 = .int .i64 0 ∧ wr = w)
  case atStart => exact ⟨rfl, rfl⟩
  case round =>
    obtain ⟨rfl, rfl⟩ := hrel
    go_wp2_with fail
    go_ret
    exact ⟨rfl, rfl⟩
set_option maxRecDepth 100000 in
set_option maxHeartbeats 400000 in
theorem deleteE_nil (F : FuncId) (caps : Array Value) : Calls Tryz.prog 40 #[.slice none 0 0, .func (.func F) #[] caps] w fun e w' => e = .returned (.slice none 0 0) ∧ w' = w := by
  go_enter Tryz.func40, Tryz.ntmps40
  go_wp2_with fail
  refine (indexfE_nil F caps).mono ?_
  rintro e w1 ⟨rfl, rfl⟩
  go_wp2_with fail
  go_ret
  exact ⟨rfl, rfl⟩
set_option maxRecDepth 100000 in
set_option maxHeartbeats 400000 in
theorem deleteW_nil (F : FuncId) (caps : Array Value) : Calls Tryz.prog 146 #[.slice none 0 0, .func (.func F) #[] caps] w fun e w' => e = .returned (.slice none 0 0) ∧ w' = w := by
  go_enter Tryz.func146, Tryz.ntmps146
  go_wp2_with fail
  refine (indexfW_nil F caps).mono ?_
  rintro e w1 ⟨rfl, rfl⟩
  go_wp2_with fail
  go_ret
  exact ⟨rfl, rfl⟩

set_option maxRecDepth 100000 in
set_option maxHeartbeats 400000 in
theorem acked1_any {g : Nat} {K F T Q O : Int} {v : Value} (hN : Bn g K F T Q O v w) (x : Ern) : Calls Tryz.prog 145 (#[.agg (cellsE x)] ++ #[.pointer (some ⟨g, 0, none⟩)]) w fun e w' => e = .returned (.bool (x.q == Q && x.n == F)) ∧ Below w.heap.size w w' := by
  have ba := below_alloc w (.cells (cellsE x) 112)
  have hX := BE.new x w
  have hN1 := hN.below ba
  have n1 := hN1.c1
  have n3 := hN1.c3
  have x0 := hX.c0
  have x1 := hX.c1
  cases h1 : (x.q == Q) <;> cases h2 : (x.n == F)
  all_goals
    go_enter Tryz.func145, Tryz.ntmps145
    go_wp2_with fail
    go_ret
    exact ⟨rfl, ba⟩
set_option maxRecDepth 100000 in
set_option maxHeartbeats 400000 in
theorem acked2_any {g : Nat} {K F T Q O : Int} {v : Value} (hN : Bn g K F T Q O v w) (x : Wch) : Calls Tryz.prog 147 (#[.agg (cellsW x)] ++ #[.pointer (some ⟨g, 0, none⟩)]) w fun e w' => e = .returned (.bool (x.q == Q && x.n == O)) ∧ Below w.heap.size w w' := by
  have ba := below_alloc w (.cells (cellsW x) 133)
  have hX := BW.new x w
  have hN1 := hN.below ba
  have n3 := hN1.c3
  have n4 := hN1.c4
  have x0 := hX.c0
  have x1 := hX.c1
  cases h1 : (x.q == Q) <;> cases h2 : (x.n == O)
  all_goals
    go_enter Tryz.func147, Tryz.ntmps147
    go_wp2_with fail
    go_ret
    exact ⟨rfl, ba⟩
end
end Go.Proofs.YtpoofjnfaijjjaaGreatDoor
namespace Go.Proofs.YtpoofjnfaijjjaaGreatDoor
open Go.RowKit Go.Proofs.YtpoofjnfaijjjaaGreatDoor.Ro

theorem grown_of {g : Nat} {w w' : World} (h : Ro.But w.heap.size g w w') : w.grownBy w' (some g) := ⟨h.os, h.tape, h.output, h.size, fun k hk hn => h.block k hk (fun e => hn (by rw [e]))⟩
theorem grown_below {w w' : World} {r : Option Nat} (h : Below w.heap.size w w') : w.grownBy w' r := ⟨h.os, h.tape, h.output, h.size, fun k hk _ => h.block k hk⟩
section
variable {w : World}
theorem indexE_any (J : World → Prop) (hJb : ∀ w w', J w → Below w.heap.size w w' → J w') (F : FuncId) (caps : Array Value) (f : Ern → Bool) {v : Value} {l : List Ern} (hs : l.length ≤ 1000000) (hO : OwE encE 112 0 v l w) (hF : ∀ args w', (callFunc F args).run Tryz.prog w' = .ok (.enter F args) w')
    (hcl : ∀ x ∈ l, ∀ w', J w' → Calls Tryz.prog F (#[.agg (cellsE x)] ++ caps) w' fun e w'' => e = .returned (.bool (f x)) ∧ Below w'.heap.size w' w'') (hJ : J w) :
    Calls Tryz.prog 78 #[v, .func (.func F) #[] caps] w fun e w' => ((∃ n : Nat, e = .returned (.int .i64 n) ∧ ∃ h : n < l.length, f l[n] = true ∧ ∀ x ∈ l.take n, f x = false) ∨ (e = .returned (.int .i64 (-1)) ∧ ∀ x ∈ l, f x = false)) ∧ Below w.heap.size w w' := by
  rcases id hO.2 with ⟨rfl, h0⟩ | ⟨g, cap, cur, rfl, _⟩
  · obtain rfl : l = [] := List.length_eq_zero_iff.1 h0
    refine (indexfE_nil F caps).mono ?_
    rintro e w' ⟨rfl, rfl⟩
    exact ⟨.inr ⟨rfl, by simp⟩, Below.refl _ _⟩
  · exact indexfE_any J hJb F caps f hs hO hF hcl hJ
theorem deletesE_any (J : World → Prop) (hJb : ∀ w w', J w → Below w.heap.size w w' → J w') (F : FuncId) (caps : Array Value) (f : Ern → Bool) {v : Value} {l : List Ern} (hJs : ∀ g, v.ownBlock = some g → ∀ w j u, J w → J (w.setCell ⟨g, j, none⟩ u)) (hs : l.length ≤ 1000000) (hO : OwE encE 112 0 v l w) (hF : ∀ args w', (callFunc F args).run Tryz.prog w' = .ok (.enter F args) w')
    (hcl : ∀ x ∈ l, ∀ w', J w' → Calls Tryz.prog F (#[.agg (cellsE x)] ++ caps) w' fun e w'' => e = .returned (.bool (f x)) ∧ Below w'.heap.size w' w'') (hJ : J w) :
    Calls Tryz.prog 40 #[v, .func (.func F) #[] caps] w fun e w' => ∃ a L c, e = .returned (.slice a L c) ∧ OwE encE 112 0 (.slice a L c) (l.filter (fun x => !f x)) w' ∧ (Value.slice a L c).ownBlock = v.ownBlock ∧ w.grownBy w' v.ownBlock ∧ J w' := by
  rcases id hO.2 with ⟨rfl, h0⟩ | ⟨g, cap, cur, rfl, _⟩
  · obtain rfl : l = [] := List.length_eq_zero_iff.1 h0
    refine (deleteE_nil F caps).mono ?_
    rintro e w' ⟨rfl, rfl⟩
    exact ⟨none, 0, 0, rfl, hO, rfl, grown_below (Below.refl _ _), hJ⟩
  · refine (deleteE_any J hJb (hJs g rfl) F caps f hs hO hF hcl hJ).mono ?_
    rintro e w' ⟨⟨rfl, hO'⟩, hJ', hB⟩
    exact ⟨_, _, cap, rfl, hO', rfl, grown_of hB, hJ'⟩
theorem deletesW_any (J : World → Prop) (hJb : ∀ w w', J w → Below w.heap.size w w' → J w') (F : FuncId) (caps : Array Value) (f : Wch → Bool) {v : Value} {l : List Wch} (hJs : ∀ g, v.ownBlock = some g → ∀ w j u, J w → J (w.setCell ⟨g, j, none⟩ u)) (hs : l.length ≤ 1000000) (hO : OwE encW 133 0 v l w) (hF : ∀ args w', (callFunc F args).run Tryz.prog w' = .ok (.enter F args) w')
    (hcl : ∀ x ∈ l, ∀ w', J w' → Calls Tryz.prog F (#[.agg (cellsW x)] ++ caps) w' fun e w'' => e = .returned (.bool (f x)) ∧ Below w'.heap.size w' w'') (hJ : J w) :
    Calls Tryz.prog 146 #[v, .func (.func F) #[] caps] w fun e w' => ∃ a L c, e = .returned (.slice a L c) ∧ OwE encW 133 0 (.slice a L c) (l.filter (fun x => !f x)) w' ∧ (Value.slice a L c).ownBlock = v.ownBlock ∧ w.grownBy w' v.ownBlock ∧ J w' := by
  rcases id hO.2 with ⟨rfl, h0⟩ | ⟨g, cap, cur, rfl, _⟩
  · obtain rfl : l = [] := List.length_eq_zero_iff.1 h0
    refine (deleteW_nil F caps).mono ?_
    rintro e w' ⟨rfl, rfl⟩
    exact ⟨none, 0, 0, rfl, hO, rfl, grown_below (Below.refl _ _), hJ⟩
  · refine (deleteW_any J hJb (hJs g rfl) F caps f hs hO hF hcl hJ).mono ?_
    rintro e w' ⟨⟨rfl, hO'⟩, hJ', hB⟩
    exact ⟨_, _, cap, rfl, hO', rfl, grown_of hB, hJ'⟩
end
section
variable {k Bp p : Nat} {b : Bl} {d : Det} {l : List Int} {w : World}

set_option maxRecDepth 100000 in
set_option maxHeartbeats 2000000 in
theorem acked_any (h : Sx k Bp p b d l w) (hWl : d.W.length ≤ 1000000) (n : Nte) (na : Option Addr) (nl nc : Nat) :
    Calls Tryz.prog 104 #[.pointer (some ⟨b.q, 0, none⟩), ntV n (.slice na nl nc)] w fun e w' => ∃ v X b', e = .returned v ∧ Sd p b' w v X w' ∧ X.map NtX.n = (d.acked k n).1 ∧ Sx k Bp p b' (d.acked k n).2 l w' ∧ Stp p b w b' w' := by
  obtain ⟨K, F, T, Q, O, U⟩ := n
  have ba := below_alloc w (.cells (ntC K F T Q O (.slice na nl nc)) 37)
  have hN := Bn.new K F T Q O (.slice na nl nc) w
  have h1 := h.below ba
  have hA := h.away (w' := w.alloc (.cells (ntC K F T Q O (.slice na nl nc)) 37)) (Nat.le_refl _) hN.lt
  obtain ⟨w1, HW1⟩ : ∃ w1, Hid (w1 = w.alloc (.cells (ntC K F T Q O (.slice na nl nc)) 37)) := ⟨_, rfl⟩
  rw [← HW1.out] at ba hN h1 hA
  have c5 := h1.dt.c5
  have hel := h.dt.ok.el
  have hidx := indexE_any (w := w1) (Bn w.heap.size K F T Q O (.slice na nl nc)) (fun w w' hJ hb => hJ.below hb) 145 #[.pointer (some ⟨w.heap.size, 0, none⟩)] (ackE ⟨K, F, T, Q, O, U⟩) (by omega) h1.dt.es (enter_of Tryz.func145 (by kernel_rfl) rfl) (fun x _ w' hJ => acked1_any hJ x) hN
  obtain ⟨va, hva⟩ := h1.dt.es.len
  obtain ⟨vcap, hve, _⟩ := hva
  obtain ⟨R, HR⟩ : ∃ R, Hid (d.acked k ⟨K, F, T, Q, O, U⟩ = R) := ⟨_, rfl⟩
  rw [HR.out]
  go_enter Tryz.func104, Tryz.ntmps104
  go_upto_region 1 with fail
  rw [← HW1.out]
  rw [hve] at c5 hidx
  go_wp2_with fail
  refine hidx.mono ?_
  rintro e w2 ⟨(⟨i, rfl, hi, hb, hx⟩ | ⟨rfl, hx⟩), hb2⟩
  · have h2 := h1.below hb2
    have hN2 := hN.below hb2
    have hA2 := hA.stp (Stp.of hb2)
    obtain ⟨hf1, hf2⟩ := find_at _ d.E i hi hb hx
    have hyes : Hid (R = ([⟨2, k, d.E[i].f, d.E[i].t, F, d.news k d.E[i].f⟩], ({ d with E := d.E.eraseIdx i } : Det).told k d.E[i].f)) := by
      show _ = _
      rw [← HR.out]
      unfold Det.acked
      rw [hf1, hf2]
    obtain ⟨ge, rfl⟩ : ∃ ge, va = some ⟨ge, 0, none⟩ := by
      rcases h2.dt.es.2 with ⟨e, h0⟩ | ⟨g, cap, cur, e, _⟩
      · omega
      · rw [hve] at e; cases e; exact ⟨g, rfl⟩
    have hE2 := h2.dt.es
    rw [hve] at hE2
    obtain ⟨x0, x1, x2, x3, x4⟩ := hE2.atE rfl i hi
    have hmem := fun x (hx : x ∈ d.E.eraseIdx i) => h.dt.ok.E x (List.mem_of_mem_eraseIdx hx)
    have hlen : (d.E.eraseIdx i).length ≤ 32 := Nat.le_trans (List.length_eraseIdx_le _ _) hel
    clear hf1 hf2 hb hx hidx c5
    have hi0 : (0 : Int) ≤ (i : Int) := by omega
    have hi1 : (i : Int) < d.E.length := by omega
    have hdl := fun w' hO => delete1_any ge vcap d.E i hi (by omega) w' hO
    generalize d.E[i] = y at *
    have by_ := below_alloc w2 (.cells (cellsE y) 112)
    have hY := BE.new y w2
    have h3 := h2.below by_
    have hN3 := hN2.below by_
    have hA3 := hA2.stp (Stp.of by_)
    have hAY := h2.away (w' := w2.alloc (.cells (cellsE y) 112)) (Nat.le_refl _) hY.lt
    have S3 : Stp p b w b (w2.alloc (.cells (cellsE y) 112)) := ((Stp.of ba).then hb2).then by_
    have c5 := h2.dt.c5
    rw [hve] at c5
    obtain ⟨w3, HW3⟩ : ∃ w3, Hid (w3 = w2.alloc (.cells (cellsE y) 112)) := ⟨_, rfl⟩
    rw [← HW3.out] at hY h3 hN3 hA3 hAY S3
    clear hN2 hA2 by_
    go_upto_region 6 with fail
    rw [← HW3.out]
    clear c5
    have c5 := h3.dt.c5
    have hE3 := h3.dt.es
    rw [hve] at c5 hE3
    go_wp2_with fail
    refine (hdl w3 hE3).mono ?_
    rintro e w4 ⟨⟨rfl, hO4⟩, hB4⟩
    have hq4 : w4.heap[b.q]? = w3.heap[b.q]? := hB4.block b.q h3.dt.qlt (fun e => by have := h3.dt.sep.one 0 6 b.q rfl (by show b.ve.ownBlock = _; rw [hve, e]; rfl); omega)
    have c5' := (World.cell?_of_block (w := w3) (a := ⟨b.q, 5, none⟩) hq4).trans h3.dt.c5
    have f5' := (World.frozen?_of_block (w := w3) (a := ⟨b.q, 5, none⟩) hq4).trans (h3.dt.free 5)
    obtain ⟨h5, s5⟩ := h3.setE hO4 (by rw [hve]; exact grown_of hB4) (.inl (by rw [hve]; rfl)) hmem hlen
    obtain ⟨M, HM⟩ : ∃ M, Hid ((d.E.eraseIdx i).length = M) := ⟨_, rfl⟩
    rw [HM.out] at h5 s5 ⊢
    obtain ⟨w5, HW5⟩ : ∃ w5, Hid (w5 = w4.setCell ⟨b.q, 5, none⟩ (.slice (some ⟨ge, 0, none⟩) M vcap)) := ⟨_, rfl⟩
    rw [← HW5.out] at h5 s5
    have hN5 := hN3.stp hA3 s5
    have hY5 := hY.keep (s5.keep hAY)
    clear x0 x1 x2 x3 x4 c5
    have y3 := hY5.c3
    have y4 := hY5.c4
    have n1 := hN5.c1
    have hsay := say_any h5 2 0 y.f y.t F
    go_upto_region 7 with fail
    rw [← HW5.out]
    go_wp2_with fail
    refine hsay.mono ?_
    rintro e w6 ⟨v6, rfl, hO6, h6, s6⟩
    obtain ⟨a6, L6, c6, rfl⟩ : ∃ a L c, v6 = .slice a L c := (by obtain ⟨a, cap, e, _⟩ := hO6.ru; exact ⟨a, _, cap, e⟩)
    have S5 := S3.trans s5
    have S6 := S5.trans s6
    have b6 := below_alloc w6 (.cells (ntC 2 k y.f y.t F (.slice a6 L6 c6)) 37)
    have hsd := Sd.one (w0 := w) (n := ⟨2, k, y.f, y.t, F, d.news k y.f⟩) h6 S6.size (Ro.Own.mono hO6 S5.size) (news_away h5 hO6)
    go_wp2_with fail
    go_ret
    rw [hyes.out]
    exact ⟨_, _, _, rfl, hsd, rfl, h6.below b6, S6.then b6⟩
  · have h2 := h1.below hb2
    have hN2 := hN.below hb2
    have hA2 := hA.stp (Stp.of hb2)
    have hno : Hid (R = ([], { d with W := d.W.filter (fun x => !ackW ⟨K, F, T, Q, O, U⟩ x) })) := by
      show _ = _
      rw [← HR.out]
      unfold Det.acked
      rw [List.find?_eq_none.2 (fun x hm => by rw [hx x hm]; decide)]
    clear hx hidx c5 hve
    have c4 := h2.dt.c4
    have hdel := deletesW_any (w := w2) (Bn w.heap.size K F T Q O (.slice na nl nc)) (fun w w' hJ hb => hJ.below hb) 147 #[.pointer (some ⟨w.heap.size, 0, none⟩)] (ackW ⟨K, F, T, Q, O, U⟩) (fun g hg w' j u hJ => hJ.other (a := ⟨g, j, none⟩) (show w.heap.size ≠ g from fun e => hA2.own 5 (e ▸ hg)) u) hWl h2.dt.ws (enter_of Tryz.func147 (by kernel_rfl) rfl) (fun x _ w' hJ => acked2_any hJ x) hN2
    obtain ⟨ua, ucap, hvw, _⟩ := h2.dt.ws.len
    rw [hvw] at c4
    have hdel' := hdel
    rw [hvw] at hdel'
    clear hdel
    go_wp2_with fail
    refine hdel'.mono ?_
    rintro e w3 ⟨a3, L3, c3, rfl, hO3, hown3, hg3, _⟩
    have hq3 : w3.heap[b.q]? = w2.heap[b.q]? := hg3.block b.q h2.dt.qlt (fun e => by have := h2.dt.sep.one 0 5 b.q rfl (by show b.vw.ownBlock = _; rw [hvw]; exact e.symm); omega)
    have c4' := (World.cell?_of_block (w := w2) (a := ⟨b.q, 4, none⟩) hq3).trans h2.dt.c4
    have f4' := (World.frozen?_of_block (w := w2) (a := ⟨b.q, 4, none⟩) hq3).trans (h2.dt.free 4)
    have hmem : ∀ x ∈ d.W.filter (fun x => !ackW ⟨K, F, T, Q, O, U⟩ x), WchOk x := fun x hx => h.dt.ok.W x (List.mem_filter.1 hx).1
    obtain ⟨h4, s4⟩ := h2.setW hO3 (by rw [hvw]; exact hg3) (.inl (by rw [hown3, hvw])) hmem
    clear c4
    go_wp2_with fail
    go_ret
    rw [hno.out]
    exact ⟨_, [], _, rfl, Sd.nil _ _ _ _, rfl, h4, ((Stp.of ba).then hb2).trans s4⟩
end
end Go.Proofs.YtpoofjnfaijjjaaGreatDoor
