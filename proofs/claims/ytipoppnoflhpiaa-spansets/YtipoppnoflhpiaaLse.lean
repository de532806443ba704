/-
  SpanSets, walked.
-/
import Derived.Test.YtipoppnoflhpiaaLmt
import Derived.Test.YtipoppnoflhpiaaDmn
namespace Go.Proofs.Ytipoppnoflhpiaa
open Go.RowKit

theorem infoB : (Try.prog.info? 5).map (fun i => (i.zero, i.size, i.bytes)) = some (some (.int .u8 0), 1, 1) := by kernel_rfl
/-- The row v of bytes, of a block from B on. -/
def Ob (B : Nat) (v : Value) (l : List Int) (w : World) : Prop := w.ownsRow B 5 1 v l.length (l.map (Value.int .u8))
theorem Ob.rn {B : Nat} {v : Value} {l : List Int} {w : World} (h : Ob B v l w) : Rn v l w := by
  rcases h.2 with ⟨rfl, h0⟩ | ⟨g, cap, cur, rfl, hb, hg, h1, h2, h3, h4⟩
  · exact ⟨none, 0, by rw [h0], Or.inl h0⟩
  · refine ⟨_, cap, rfl, Or.inr ⟨g, 0, rfl, fun j hj => ?_⟩⟩
    have := World.ownsRow.cells h (g := g) rfl j (.int .u8 l[j]) (by simp [List.getElem?_eq_getElem hj])
    rw [← this]
    unfold Addr.add; split <;> simp_all
theorem Ob.keep {B : Nat} {v : Value} {l : List Int} {w w' : World} (h : Ob B v l w) (e : ∀ g, v.ownBlock = some g → g < w.heap.size → w'.heap[g]? = w.heap[g]?) : Ob B v l w' := by
  refine ⟨h.1, ?_⟩
  rcases h.2 with hn | ⟨g, cap, cur, rfl, hb, hg, rest⟩
  · exact Or.inl hn
  · exact Or.inr ⟨g, cap, cur, rfl, hb, (e g rfl (Array.getElem?_eq_some_iff.1 hg).1).trans hg, rest⟩
theorem Ob.below {B : Nat} {v : Value} {l : List Int} {w w' : World} (h : Ob B v l w) (b : Below w.heap.size w w') : Ob B v l w' := h.keep fun g _ hg => b.block g hg
theorem Ob.lt {B : Nat} {v : Value} {l : List Int} {w : World} (h : Ob B v l w) : ∀ g, v.ownBlock = some g → B ≤ g ∧ g < w.heap.size := World.ownsRow.lt h
theorem Ob.place {B : Nat} {v : Value} {l : List Int} {w : World} (h : Ob B v l w) {n : Nat} (hn : l.length = n) (h0 : 0 < n) : ∃ g c, v = .slice (some ⟨g, 0, none⟩) n c := by
  subst hn
  rcases h.2 with ⟨_, e⟩ | ⟨g, cap, cur, rfl, _⟩
  · omega
  · exact ⟨g, cap, rfl⟩
theorem belowB_grown {B : Nat} {w0 w w' : World} {v : Value} {l : List Int} (h : Below B w0 w) (hO : Ob B v l w) (hg : w.grownBy w' v.ownBlock) (hB : B ≤ w.heap.size) : Below B w0 w' :=
  h.trans ⟨hg.os, hg.tape, hg.output, hg.size, fun q hq => hg.block q (by omega) (fun e => by have := (hO.lt q e.symm).1; omega)⟩
/-- A byte is appended to such a row. -/
theorem wpList_appB {ops : Array Oper} {rest : List Oper} {o : Oper} {a : Go.Act} {Q : Exit → Go.Act → World → Prop} {w : World} (hgd : o.guard = none) (s x : Operand)
    (ho : o.op = .call { callee := .builtin .append, args := #[s, x], argTypes := #[35, 35] }) (v : Value) (B : Nat) (r : List Int) (hs : a.eval s = v) (hown : Ob B v r w) (hB : B ≤ w.heap.size)
    (g : Nat) (y : Int) (hx : a.eval x = .slice (some ⟨g, 0, none⟩) 1 1) (hu : w.cell? ⟨g, 0, none⟩ = some (.int .u8 y)) (hl : r.length ≤ 1000000)
    (h : ∀ v' w', Ob B v' (r ++ [y]) w' → w.grownBy w' v.ownBlock → wpList Try.prog ops Q rest (a.put o.dst v') w') :
    wpList Try.prog ops Q (o :: rest) a w := by
  obtain ⟨i0, hi, hz0, hz1, hz2⟩ := info_parts infoB
  refine wpList_append_own w hgd s x 35 ho B 5 i0 (.int .u8 0) 1 1 Try.underlying35 hi hz0 hz1 hz2 rfl (by decide) v r.length _ hs hown ⟨g, 0, none⟩ 1 1 [.int .u8 y] hx rfl ?_ ?_ (by unfold maxLen; omega) (by omega) hB ?_
  · intro j u hj
    cases j with
    | zero => simp at hj; subst hj; exact hu
    | succ j => simp at hj
  · intro u hu'; rw [List.mem_singleton] at hu'; subst hu'; rfl
  intro v' w' hown' hgr _
  refine h v' w' ?_ hgr
  unfold Ob
  rw [List.map_append, List.length_append]
  exact hown'

theorem rev_take {a : List Int} {j p : Nat} (h : a.length = p + 1 + j) : a.reverse.take (j + 1) = a.reverse.take j ++ [a[p]'(by omega)] := by
  have hj : j < a.reverse.length := by rw [List.length_reverse]; omega
  rw [List.take_add_one, List.getElem?_eq_getElem hj, Option.toList_some, List.getElem_reverse]
  congr 2
  simp only [show a.length - 1 - j = p from by omega]

/-- Four lists and two rows of bytes, in a world that has grown. -/
structure Se (w0 : World) (a b x y j m k : Value) (A B : List Int) (X Y J M : List Sn) (K : List Int) (w : World) : Prop where
  be : Below w0.heap.size w0 w
  ra : Rn a A w
  rb : Rn b B w
  x : Rs x X w
  y : Rs y Y w
  j : Rs j J w
  m : Rs m M w
  k : Rn k K w
theorem Se.below {w0 : World} {a b x y j m k : Value} {A B : List Int} {X Y J M : List Sn} {K : List Int} {w w' : World} (h : Se w0 a b x y j m k A B X Y J M K w) (hb : Below w.heap.size w w') : Se w0 a b x y j m k A B X Y J M K w' :=
  ⟨h.be.trans (hb.mono h.be.size), h.ra.below hb, h.rb.below hb, h.x.below hb, h.y.below hb, h.j.below hb, h.m.below hb, h.k.below hb⟩

theorem cnt_bound (p : Int → Bool) (N : Nat) : 0 ≤ cnt p N ∧ cnt p N ≤ N := by
  induction N with
  | zero => exact ⟨Int.le_refl _, Int.le_refl _⟩
  | succ N ih => simp only [cnt]; split <;> omega

set_option maxRecDepth 100000 in
set_option maxHeartbeats 8000000 in
theorem sets_core (va vb : Value) (a b : List Int) (w : World) (hA : Rn va a w) (hB : Rn vb b w) (yA : Bytes a) (yB : Bytes b) :
    Calls Try.prog 4 #[va, vb] w fun e w' => e = .returned (.bool true) ∧ Below w.heap.size w w' := by
  obtain ⟨aa, acap, rfl, a3⟩ := id hA
  obtain ⟨ba, bcap, rfl, b3⟩ := id hB
  clear b3
  by_cases hla : 100 < a.length
  · have z1 : decide ((100 : Int) < (a.length : Int)) = true := decide_eq_true (by omega)
    have z1N : decide (100 < a.length) = true := decide_eq_true hla
    go_enter Try.func4, Try.ntmps4
    go_wp2_with fail
    refine (shown_any _).mono ?_
    rintro e w1 ⟨rfl, hb⟩
    go_wp2_with fail
    go_ret
    exact ⟨rfl, hb⟩
  · have z1 : decide ((100 : Int) < (a.length : Int)) = false := decide_eq_false (by omega)
    have z1N : decide (100 < a.length) = false := decide_eq_false hla
    by_cases hlb : 100 < b.length
    · have z2 : decide ((100 : Int) < (b.length : Int)) = true := decide_eq_true (by omega)
      have z2N : decide (100 < b.length) = true := decide_eq_true hlb
      go_enter Try.func4, Try.ntmps4
      go_wp2_with fail
      refine (shown_any _).mono ?_
      rintro e w1 ⟨rfl, hb⟩
      go_wp2_with fail
      go_ret
      exact ⟨rfl, hb⟩
    · have z2 : decide ((100 : Int) < (b.length : Int)) = false := decide_eq_false (by omega)
      have z2N : decide (100 < b.length) = false := decide_eq_false hlb
      have hla' : a.length ≤ 100 := by omega
      have hlb' : b.length ≤ 100 := by omega
      have hlaI : (a.length : Int) ≤ 100 := by omega
      obtain ⟨u1, u2, u3⟩ := madeS_spec a yA
      obtain ⟨v1, v2, v3⟩ := madeS_spec b yB
      have mA := fun w' h => made_any (.slice aa a.length acap) a w' h yA (by omega)
      have mB := fun w' h => made_any (.slice ba b.length bcap) b w' h yB (by omega)
      have mK := fun v w' h => made_any v a.reverse w' h (fun x hx => yA x (List.mem_reverse.1 hx)) (by rw [List.length_reverse]; omega)
      rw [made_rev a yA] at mK
      have iA := fun x w' h => in_any (.slice aa a.length acap) a x w' h yA (by omega)
      have iB := fun x w' h => in_any (.slice ba b.length bcap) b x w' h yB (by omega)
      have hJ := joinS_up u1 v1
      have hM := minusS_up u1 v1
      have hJm : mayS (joinS (madeS a) (madeS b)) = true := mayS_of hJ
      have hMm : mayS (minusS (madeS a) (madeS b)) = true := mayS_of hM
      have hXm : mayS (madeS a) = true := mayS_of u1
      have hJh : ∀ n, hasM (joinS (madeS a) (madeS b)) n = (decide (n ∈ a) || decide (n ∈ b)) := fun n => by unfold hasM; rw [hJm, joinS_has u1 v1, u2, v2]; rfl
      have hMh : ∀ n, hasM (minusS (madeS a) (madeS b)) n = (decide (n ∈ a) && !decide (n ∈ b)) := fun n => by unfold hasM; rw [hMm, minusS_has u1 v1, u2, v2]; rfl
      have hmany : manyM (madeS a) = cnt (fun n => decide (n ∈ a)) 256 := by
        unfold manyM
        rw [hXm, if_pos rfl, many_cnt u1 (fun n hn => by
          rw [u2] at hn
          exact (yA n (by simpa using hn)).2)]
        exact cnt_congr 256 fun n _ => u2 n
      have e1 := join_comm v1 u1
      have e2 := minus_join u1 v1
      have lJ := joinS_le (madeS a) (madeS b)
      have lM := minusS_le (madeS a) (madeS b)
      have oJ := joinS_ok (madeS a) (madeS b)
      have oM := minusS_ok (madeS a) (madeS b)
      clear u2 v2 hla hlb u1 v1 hJ hM
      generalize madeS a = X at *
      generalize madeS b = Y at *
      have cj := fun vx vy w' hx hy => join_any vx vy X Y w' hx hy (by omega) (by omega)
      have cm := fun vx vy w' hx hy => minus_any vx vy X Y w' hx hy (by omega) (by omega)
      have cj2 := fun vx vy w' hx hy => join_any vx vy Y X w' hx hy (by omega) (by omega)
      have cj3 := fun vx vy w' hx hy => join_any vx vy (minusS X Y) Y w' hx hy (by omega) (by omega)
      rw [e1] at cj2
      rw [e2] at cj3
      clear e1 e2
      generalize joinS X Y = J at *
      generalize minusS X Y = M at *
      have lX : X.length ≤ 100 := by omega
      have lY : Y.length ≤ 100 := by omega
      have lJ' : J.length ≤ 200 := by omega
      have lM' : M.length ≤ 200 := by omega
      clear u3 v3 lJ lM
      go_enter Try.func4, Try.ntmps4
      go_wp2_with fail
      refine (shown_any _).mono ?_
      rintro e w1 ⟨rfl, hb1⟩
      go_wp2_with fail
      refine (mA _ (hA.below hb1)).mono ?_
      rintro e w2 ⟨⟨x, rfl, x2⟩, hb2⟩
      have hW2 := hb1.trans (hb2.mono hb1.size)
      go_wp2_with fail
      refine (mB _ (hB.below hW2)).mono ?_
      rintro e w3 ⟨⟨y, rfl, y3⟩, hb3⟩
      have hW3 := hW2.trans (hb3.mono hW2.size)
      have x3 := x2.below hb3
      go_wp2_with fail
      refine (cj _ _ _ x3 y3).mono ?_
      rintro e w4 ⟨⟨vj, rfl, oj⟩, hb4⟩
      have hW4 := hW3.trans (hb4.mono hW3.size)
      have x4 := x3.below hb4
      have y4 := y3.below hb4
      have j4 := oj.rs oJ
      go_wp2_with fail
      refine (cm _ _ _ x4 y4).mono ?_
      rintro e w5 ⟨⟨vm, rfl, om⟩, hb5⟩
      have hW5 := hW4.trans (hb5.mono hW4.size)
      have x5 := x4.below hb5
      have y5 := y4.below hb5
      have j5 := j4.below hb5
      have m5 := om.rs oM
      clear x2 x3 x4 y3 y4 j4 oj om hb1 hb2 hb3 hb4 hb5 hW2 hW3 hW4 oJ oM cj cm
      have b6 := below_alloc w5 (.cells #[] 5)
      have k6 : Ob w5.heap.size (.slice (some ⟨w5.heap.size, 0, none⟩) 0 0) [] (w5.alloc (.cells #[] 5)) := World.ownsRow_made w5 #[] 0 (Nat.le_refl _) (Nat.zero_le _) rfl
      go_wp2_with fail
      go_loopg [9, 10] a.length (fun gk t9 t10 wr => ∃ (j : Nat) (z : Int) (g9 c9 : Nat), j + gk = a.length ∧ t10 = .int .i64 z ∧ z = (a.length : Int) - 1 - j ∧ t9 = .slice (some ⟨g9, 0, none⟩) j c9 ∧ Ob w5.heap.size (.slice (some ⟨g9, 0, none⟩) j c9) (a.reverse.take j) wr ∧ Below w5.heap.size w5 wr)
      case atStart => exact ⟨0, (a.length : Int) - 1, _, 0, by omega, by go_num, by omega, rfl, k6, b6⟩
      case round =>
        obtain ⟨j, z, g9, c9, hj, rfl, hz, rfl, hO, hBk⟩ := hrel
        clear k6 b6
        by_cases hlt : j < a.length
        · obtain ⟨p, hp⟩ : ∃ p, a.length = p + 1 + j := ⟨a.length - 1 - j, by omega⟩
          obtain rfl : z = (p : Int) := by omega
          rcases a3 with a3 | ⟨g, off, rfl, a3⟩
          · omega
          have hpa : p < a.length := by omega
          have hAr := hA.below (hW5.trans (hBk.mono hW5.size))
          have c0 := hAr.at hpa
          have p0 : (0 : Int) ≤ p := by omega
          have p1 : (p : Int) < a.length := by omega
          have zp : decide ((0 : Int) ≤ (p : Int)) = true := decide_eq_true p0
          have hrt := rev_take hp
          have hrl : (a.reverse.take j).length ≤ 1000 := by rw [List.length_take, List.length_reverse]; omega
          have b7 := below_alloc wr (.cells #[.int .u8 a[p]] 5)
          have d7 : (wr.alloc (.cells #[.int .u8 a[p]] 5)).cell? ⟨wr.heap.size, 0, none⟩ = some (.int .u8 a[p]) := by unfold World.cell?; rw [heap_alloc_new]; rfl
          have hO7 := hO.below b7
          have hB7 := hBk.trans (b7.mono hBk.size)
          have hz7 := hB7.size
          have hPl : (a.reverse.take j).length = j := by rw [List.length_take, List.length_reverse]; omega
          generalize a[p] = y at *
          have hp1 : a.length ≤ p + 1 + j := by omega
          have hp2 : p + 1 + j ≤ a.length := by omega
          have hrt : Hid (a.reverse.take (j + 1) = a.reverse.take j ++ [y]) := hrt
          generalize a.reverse.take j = P at *
          clear a3 hAr hO hz hp
          go_wp2_with (at_builtin; refine wpList_appB rfl (.tmp 44) (.tmp 49) rfl _ w5.heap.size P rfl hO7 hz7 wr.heap.size y rfl d7 (by omega) ?_; intro v8 w8 hO8 hg8; obtain ⟨g8, c8, rfl⟩ : ∃ g8 c8, v8 = .slice (some ⟨g8, 0, none⟩) (j + 1) c8 := hO8.place (by rw [List.length_append, hPl]; rfl) (Nat.succ_pos j))
          go_roundg (gk - 1)
          case rel => exact ⟨j + 1, (p : Int) - 1, g8, c8, by omega, by go_num, by omega, rfl, by rw [hrt.out]; exact hO8, belowB_grown hB7 hO7 hg8 hz7⟩
          case measure => omega
        · obtain rfl : z = -1 := by omega
          have hfull : a.reverse.take j = a.reverse := List.take_of_length_le (by rw [List.length_reverse]; omega)
          rw [hfull] at hO
          have hW6 := hW5.trans (hBk.mono hW5.size)
          have hS6 : Se w (.slice aa a.length acap) (.slice ba b.length bcap) x y vj vm (.slice (some ⟨g9, 0, none⟩) j c9) a b X Y J M a.reverse wr := ⟨hW6, hA.below hW6, hB.below hW6, x5.below hBk, y5.below hBk, j5.below hBk, m5.below hBk, hO.rn⟩
          clear hfull hO hW6 hBk a3 hlt hz hj x5 y5 j5 m5 hW5
          go_wp2_with fail
          obtain ⟨gz, hgz⟩ : ∃ gz, gz = gk - 1 := ⟨_, rfl⟩
          obtain ⟨wo, rfl⟩ : ∃ wo, wo = wr := ⟨_, rfl⟩
          go_loopg [11, 12] 256 (fun gk t11 t12 wz => ∃ n : Nat, n + gk = 256 ∧ t12 = .int .i64 n ∧ t11 = .int .u64 (cnt (fun m => decide (m ∈ a)) n) ∧ Se w (.slice aa a.length acap) (.slice ba b.length bcap) x y vj vm (.slice (some ⟨g9, 0, none⟩) j c9) a b X Y J M a.reverse wz)
          case atStart => exact ⟨0, by omega, rfl, rfl, hS6⟩
          case round =>
            obtain ⟨n, hn, rfl, rfl, hq0⟩ := hrel
            clear hS6
            have n0 : (0 : Int) ≤ n := by omega
            by_cases hlt : (n : Int) < 256
            · have hj := hJh n
              have hm := hMh n
              have hcs : Hid (cnt (fun m => decide (m ∈ a)) (n + 1) = cnt (fun m => decide (m ∈ a)) n + if decide ((n : Int) ∈ a) then 1 else 0) := rfl
              obtain ⟨c0, c1⟩ := cnt_bound (fun m => decide (m ∈ a)) n
              have c2 : cnt (fun m => decide (m ∈ a)) n ≤ 256 := by omega
              generalize cnt (fun m => decide (m ∈ a)) n = C at *
              clear hJh hMh hmany mK cj2 cj3 c1
              cases hAv : decide ((n : Int) ∈ a)
              case false =>
                rw [hAv] at hj hm hcs
                have hcz : Hid (cnt (fun m => decide (m ∈ a)) (n + 1) = C) := hcs.out.trans (by simp)
                clear hcs
                cases hBv : decide ((n : Int) ∈ b)
                case false =>
                  rw [hBv] at hj hm
                  rw [show (false || false) = false from rfl] at hj
                  rw [show (false && !false) = false from rfl] at hm
                  go_wp2_with fail
                  refine (has_any _ J n _ hq0.j (by omega)).mono ?_
                  rw [hj]
                  rintro e v1 ⟨rfl, hb1⟩
                  have hq1 := hq0.below hb1
                  go_wp2_with fail
                  refine (iA _ _ hq1.ra).mono ?_
                  rw [hAv]
                  rintro e v2 ⟨rfl, rfl⟩
                  have hq2 := hq1
                  go_wp2_with fail
                  refine (iB _ _ hq2.rb).mono ?_
                  rw [hBv]
                  rintro e v3 ⟨rfl, rfl⟩
                  have hq3 := hq2
                  go_wp2_with fail
                  refine (has_any _ M n _ hq3.m (by omega)).mono ?_
                  rw [hm]
                  rintro e v4 ⟨rfl, hb4⟩
                  have hq4 := hq3.below hb4
                  go_wp2_with fail
                  refine (iA _ _ hq4.ra).mono ?_
                  rw [hAv]
                  rintro e v5 ⟨rfl, rfl⟩
                  have hq5 := hq4
                  go_wp2_with fail
                  refine (iA _ _ hq5.ra).mono ?_
                  rw [hAv]
                  rintro e v6 ⟨rfl, rfl⟩
                  have hq6 := hq5
                  go_wp2_with fail
                  go_roundg (gk - 1)
                  case rel => exact ⟨n + 1, by omega, by go_num, by rw [hcz.out], hq6⟩
                  case measure => omega
                case true =>
                  rw [hBv] at hj hm
                  rw [show (false || true) = true from rfl] at hj
                  rw [show (false && !true) = false from rfl] at hm
                  go_wp2_with fail
                  refine (has_any _ J n _ hq0.j (by omega)).mono ?_
                  rw [hj]
                  rintro e v1 ⟨rfl, hb1⟩
                  have hq1 := hq0.below hb1
                  go_wp2_with fail
                  refine (iA _ _ hq1.ra).mono ?_
                  rw [hAv]
                  rintro e v2 ⟨rfl, rfl⟩
                  have hq2 := hq1
                  go_wp2_with fail
                  refine (iB _ _ hq2.rb).mono ?_
                  rw [hBv]
                  rintro e v3 ⟨rfl, rfl⟩
                  have hq3 := hq2
                  go_wp2_with fail
                  refine (has_any _ M n _ hq3.m (by omega)).mono ?_
                  rw [hm]
                  rintro e v4 ⟨rfl, hb4⟩
                  have hq4 := hq3.below hb4
                  go_wp2_with fail
                  refine (iA _ _ hq4.ra).mono ?_
                  rw [hAv]
                  rintro e v5 ⟨rfl, rfl⟩
                  have hq5 := hq4
                  go_wp2_with fail
                  refine (iA _ _ hq5.ra).mono ?_
                  rw [hAv]
                  rintro e v6 ⟨rfl, rfl⟩
                  have hq6 := hq5
                  go_wp2_with fail
                  go_roundg (gk - 1)
                  case rel => exact ⟨n + 1, by omega, by go_num, by rw [hcz.out], hq6⟩
                  case measure => omega
              case true =>
                rw [hAv] at hj hm hcs
                have hcz : Hid (cnt (fun m => decide (m ∈ a)) (n + 1) = C + 1) := hcs.out.trans (by simp)
                clear hcs
                cases hBv : decide ((n : Int) ∈ b)
                case false =>
                  rw [hBv] at hj hm
                  rw [show (true || false) = true from rfl] at hj
                  rw [show (true && !false) = true from rfl] at hm
                  go_wp2_with fail
                  refine (has_any _ J n _ hq0.j (by omega)).mono ?_
                  rw [hj]
                  rintro e v1 ⟨rfl, hb1⟩
                  have hq1 := hq0.below hb1
                  go_wp2_with fail
                  refine (iA _ _ hq1.ra).mono ?_
                  rw [hAv]
                  rintro e v2 ⟨rfl, rfl⟩
                  have hq2 := hq1
                  go_wp2_with fail
                  refine (has_any _ M n _ hq2.m (by omega)).mono ?_
                  rw [hm]
                  rintro e v3 ⟨rfl, hb3⟩
                  have hq3 := hq2.below hb3
                  go_wp2_with fail
                  refine (iA _ _ hq3.ra).mono ?_
                  rw [hAv]
                  rintro e v4 ⟨rfl, rfl⟩
                  have hq4 := hq3
                  go_wp2_with fail
                  refine (iB _ _ hq4.rb).mono ?_
                  rw [hBv]
                  rintro e v5 ⟨rfl, rfl⟩
                  have hq5 := hq4
                  go_wp2_with fail
                  refine (iA _ _ hq5.ra).mono ?_
                  rw [hAv]
                  rintro e v6 ⟨rfl, rfl⟩
                  have hq6 := hq5
                  go_wp2_with fail
                  go_roundg (gk - 1)
                  case rel => exact ⟨n + 1, by omega, by go_num, by rw [hcz.out], hq6⟩
                  case measure => omega
                case true =>
                  rw [hBv] at hj hm
                  rw [show (true || true) = true from rfl] at hj
                  rw [show (true && !true) = false from rfl] at hm
                  go_wp2_with fail
                  refine (has_any _ J n _ hq0.j (by omega)).mono ?_
                  rw [hj]
                  rintro e v1 ⟨rfl, hb1⟩
                  have hq1 := hq0.below hb1
                  go_wp2_with fail
                  refine (iA _ _ hq1.ra).mono ?_
                  rw [hAv]
                  rintro e v2 ⟨rfl, rfl⟩
                  have hq2 := hq1
                  go_wp2_with fail
                  refine (has_any _ M n _ hq2.m (by omega)).mono ?_
                  rw [hm]
                  rintro e v3 ⟨rfl, hb3⟩
                  have hq3 := hq2.below hb3
                  go_wp2_with fail
                  refine (iA _ _ hq3.ra).mono ?_
                  rw [hAv]
                  rintro e v4 ⟨rfl, rfl⟩
                  have hq4 := hq3
                  go_wp2_with fail
                  refine (iB _ _ hq4.rb).mono ?_
                  rw [hBv]
                  rintro e v5 ⟨rfl, rfl⟩
                  have hq5 := hq4
                  go_wp2_with fail
                  refine (iA _ _ hq5.ra).mono ?_
                  rw [hAv]
                  rintro e v6 ⟨rfl, rfl⟩
                  have hq6 := hq5
                  go_wp2_with fail
                  go_roundg (gk - 1)
                  case rel => exact ⟨n + 1, by omega, by go_num, by rw [hcz.out], hq6⟩
                  case measure => omega
            · obtain rfl : n = 256 := by omega
              clear hJh hMh iA iB
              generalize cnt (fun m => decide (m ∈ a)) 256 = C at *
              go_wp2_with fail
              refine (may_any _ X _ hq0.x (by omega)).mono ?_
              rw [hXm]
              rintro e v1 ⟨rfl, hb1⟩
              have hq1 := hq0.below hb1
              go_wp2_with fail
              refine (may_any _ J _ hq1.j (by omega)).mono ?_
              rw [hJm]
              rintro e v2 ⟨rfl, hb2⟩
              have hq2 := hq1.below hb2
              go_wp2_with fail
              refine (may_any _ M _ hq2.m (by omega)).mono ?_
              rw [hMm]
              rintro e v3 ⟨rfl, hb3⟩
              have hq3 := hq2.below hb3
              go_wp2_with fail
              refine (many_any _ X _ hq3.x (by omega)).mono ?_
              rw [hmany]
              rintro e v4 ⟨rfl, hb4⟩
              have hq4 := hq3.below hb4
              go_wp2_with fail
              refine (mK _ _ hq4.k).mono ?_
              rintro e v5 ⟨⟨u5, rfl, r5⟩, hb5⟩
              have hq5 := hq4.below hb5
              go_wp2_with fail
              refine (same_any _ _ X _ (by omega) hq5.x r5).mono ?_
              rintro e v6 ⟨rfl, hb6⟩
              have hq6 := hq5.below hb6
              go_wp2_with fail
              refine (cj2 _ _ _ hq6.y hq6.x).mono ?_
              rintro e v7 ⟨⟨u7, rfl, o7⟩, hb7⟩
              have hq7 := hq6.below hb7
              have r7 := o7.rs hq7.j.2
              go_wp2_with fail
              refine (same_any _ _ J _ (by omega) hq7.j r7).mono ?_
              rintro e v8 ⟨rfl, hb8⟩
              have hq8 := hq7.below hb8
              go_wp2_with fail
              refine (cj3 _ _ _ hq8.m hq8.y).mono ?_
              rintro e v9 ⟨⟨u9, rfl, o9⟩, hb9⟩
              have hq9 := hq8.below hb9
              have r9 := o9.rs hq9.j.2
              go_wp2_with fail
              refine (same_any _ _ J _ (by omega) r9 hq9.j).mono ?_
              rintro e v10 ⟨rfl, hb10⟩
              have hq10 := hq9.below hb10
              go_wp2_with fail
              go_ret
              exact ⟨rfl, hq10.be⟩

theorem spanSets_walk (a0 : Option Addr) (len0 cap0 : Nat) (x0 : List Int) (a1 : Option Addr) (len1 cap1 : Nat) (x1 : List Int) (w : World) (w0 : IsBytes w a0 len0 cap0 x0) (w1 : IsBytes w a1 len1 cap1 x1) :
    Calls Try.prog 4 #[.slice a0 len0 cap0, .slice a1 len1 cap1] w fun e w' => e = .returned (.bool true) ∧ Below w.heap.size w w' :=
  sets_core _ _ x0 x1 w w0.2.1 w1.2.1 w0.2.2 w1.2.2
end Go.Proofs.Ytipoppnoflhpiaa
