/-
  All, Live, New. refute, Hear. Plain mathematics of what a roll knows: what is heard grows, what was heard is old, the order does not matter, merges of all that another one knows.
-/
import Derived.Test.YtpoofjnfaijjjaaGreatDoorMClr
import Derived.Test.YtpoofjnfaijjjaaGreatDoorMDBbn
import Derived.Test.YtpoofjnfaijjjaaGreatDoorMRKpt
namespace Go.Proofs.YtpoofjnfaijjjaaGreatDoor.Ro
open Go.RowKit
theorem Own.mono {B C : Nat} {v : Value} {l : List Upd} {w : World} (h : Own C v l w) (hB : B ≤ C) : Own B v l w := by
  refine ⟨h.1, ?_⟩
  rcases h.2 with hn | ⟨g, cap, cur, e, hb, rest⟩
  · exact Or.inl hn
  · exact Or.inr ⟨g, cap, cur, e, Nat.le_trans hB hb, rest⟩
theorem enter_of {P : Program} {f : FuncId} {fn : Func} {c : Code} (hf : P.funcs[f]? = some fn) (hn : (fn.name == "runtime.NumGoroutine") = false) (hb : fn.body = some c) (args : Array Value) (w : World) :
    (callFunc f args).run P w = .ok (.enter f args) w := by
  have : fn.name ≠ "runtime.NumGoroutine" := by simpa using hn
  simp [callFunc, hf, this, hb]
def allS (f : Tab) : List Upd := pickN f (fun j => (f j).isSome) 64
theorem allS_length (f : Tab) : (allS f).length ≤ 64 := pickN_length f _ 64
set_option maxHeartbeats 1000000 in
theorem all_any (p : Nat) (me : Int) (f : Tab) (w : World) (hR : Rl p me f w) :
    Calls Tryz.prog 65 #[.pointer (some ⟨p, 0, none⟩)] w fun e w' => (∃ v, e = .returned v ∧ Own w.heap.size v (allS f) w') ∧ Below w.heap.size w w' := by
  have hP := Pt.new p w
  have ba := below_alloc w (.cells #[.pointer (some ⟨p, 0, none⟩)] 80)
  have hR1 := hR.below ba
  have hL := list_any p me f 113 #[.pointer (some ⟨w.heap.size, 0, none⟩)] (fun j => (f j).isSome) _ hR1 (enter_of Tryz.func113 (by kernel_rfl) rfl)
    (fun j w' hj hb => (known_any w.heap.size p me f j hj w' (hP.below hb) (hR1.below hb)).mono fun e w'' h => ⟨h.1, by rw [h.2]; exact Below.refl _ _⟩)
  go_enter Tryz.func65, Tryz.ntmps65
  go_wp2_with fail
  refine hL.mono ?_
  rintro e w1 ⟨⟨v, rfl, hO⟩, hB⟩
  go_wp2_with fail
  go_ret
  exact ⟨⟨v, rfl, hO.mono ba.size⟩, ba.trans (hB.mono ba.size)⟩
def bandS (l : List Upd) : Nat := l.foldl (fun b u => if liveS u.s then Bnd.withS b u.n else b) 0
theorem bandS_lt (l : List Upd) : bandS l < Bnd.lim := by
  unfold bandS
  suffices ∀ b, b < Bnd.lim → l.foldl (fun b u => if liveS u.s then Bnd.withS b u.n else b) b < Bnd.lim from this 0 (by decide)
  induction l with
  | nil => intro b h; exact h
  | cons x r ih => intro b h; refine ih _ ?_; dsimp only; split; exact Bnd.withS_lt h _; exact h
theorem bandS_take (l : List Upd) (k : Nat) (hk : k < l.length) : bandS (l.take (k + 1)) = if liveS l[k].s then Bnd.withS (bandS (l.take k)) l[k].n else bandS (l.take k) := by
  unfold bandS
  rw [List.take_add_one, List.getElem?_eq_getElem hk, List.foldl_append]
  rfl
set_option maxRecDepth 100000 in
set_option maxHeartbeats 1000000 in
theorem rlive_any (p : Nat) (me : Int) (f : Tab) (w : World) (hR : Rl p me f w) :
    Calls Tryz.prog 64 #[.pointer (some ⟨p, 0, none⟩)] w fun e w' => e = .returned (.int .u64 (bandS (allS f))) ∧ Below w.heap.size w w' := by
  have hA := all_any p me f w hR
  have hl := allS_length f
  generalize allS f = l at *
  go_enter Tryz.func64, Tryz.ntmps64
  go_wp2_with fail
  refine hA.mono ?_
  rintro e w1 ⟨⟨v, rfl, hO⟩, hB1⟩
  have hRu := hO.ru
  clear hO hA
  obtain ⟨a, cap, rfl, c1, c2, h3⟩ := id hRu
  go_wp2_with fail
  go_loopg [3, 9] l.length (fun gk t3 t9 wr => ∃ k : Nat, k + gk = l.length ∧ t9 = .int .i64 k ∧ t3 = .int .u64 (bandS (l.take k)) ∧ Below w1.heap.size w1 wr)
  case atStart => exact ⟨0, by omega, rfl, rfl, Below.refl _ _⟩
  case round =>
    obtain ⟨k, hk, rfl, rfl, hB⟩ := hrel
    by_cases hlt : (k : Int) < l.length
    · have hk' : k < l.length := by omega
      have k0 : (0 : Int) ≤ k := by omega
      rcases h3 with h3 | ⟨g, off, rfl, h3⟩
      · omega
      obtain ⟨x0, x1, x2⟩ : wr.cell? ⟨g, off + k * 3, none⟩ = some (.int .i64 l[k].n) ∧ wr.cell? ⟨g, off + k * 3 + 1, none⟩ = some (.int .u64 l[k].i) ∧ wr.cell? ⟨g, off + k * 3 + 2, none⟩ = some (.int .i64 l[k].s) := by
        obtain ⟨_, _, e, _, _, e3⟩ := hRu.below hB
        cases e
        rcases e3 with e3 | ⟨g', off', e, e3⟩
        · omega
        · cases e; exact e3 k hk'
      have hT : Hid _ := bandS_take l k hk'
      have hlt := bandS_lt (l.take k)
      generalize bandS (l.take k) = b at *
      generalize l[k] = u at *
      have hX := Bx.new 39 u.n u.i u.s wr
      have ba := below_alloc wr (.cells #[.int .i64 u.n, .int .u64 u.i, .int .i64 u.s] 39)
      have hB2 := hB.trans (ba.mono hB.size)
      go_wp2_with fail
      refine (live_any _ _ _ _).mono ?_
      cases hv : liveS u.s
      case false =>
        rintro e w2 ⟨rfl, hb2⟩
        rw [hv] at hT
        have hB3 := hB2.trans (hb2.mono hB2.size)
        go_wp2_with fail
        go_roundg (gk - 1)
        case rel => exact ⟨k + 1, by omega, by go_num, by rw [hT.out]; rfl, hB3⟩
        case measure => omega
      case true =>
        rintro e w2 ⟨rfl, hb2⟩
        rw [hv] at hT
        have hB3 := hB2.trans (hb2.mono hB2.size)
        have hX2 := hX.below hb2
        have y0 := hX2.c0
        go_wp2_with fail
        refine (Bnd.with_any b hlt _ _).mono ?_
        rintro e w3 ⟨rfl, rfl⟩
        go_wp2_with fail
        go_roundg (gk - 1)
        case rel => exact ⟨k + 1, by omega, by go_num, by rw [hT.out]; rfl, hB3⟩
        case measure => omega
    · obtain rfl : k = l.length := by omega
      rw [List.take_length]
      go_wp2_with fail
      go_ret
      exact ⟨rfl, hB1.trans (hB.mono hB1.size)⟩
def newS (k : Nat) : Tab := Tab.set (fun _ => none) k ⟨k, 0, 0⟩
theorem zero_roll : ((Tryz.prog.info? 141).bind (·.zero)) = some (.agg (rollC 0 fun _ => none).toArray) := by kernel_rfl
theorem run_zero_roll (w : World) : (zeroValue 141).run Tryz.prog w = .ok (.agg (rollC 0 fun _ => none).toArray) w := by
  have h := zero_roll
  generalize Value.agg (rollC 0 fun _ => none).toArray = v at *
  cases hi : Tryz.prog.info? 141 with
  | none => simp [hi] at h
  | some i =>
    rw [hi] at h
    have hz : i.zero = some v := h
    simp [zeroValue, typeInfo, hi, hz]
theorem roll_zero_set (me : Int) : (rollC 0 fun _ => none).toArray.setIfInBounds 0 (.int .i64 me) = (rollC me fun _ => none).toArray := by simp [rollC]
theorem roll_zero_ne : ((rollC 0 fun _ => none).toArray = #[]) = False := by simp [rollC]
set_option maxHeartbeats 1000000 in
theorem new_any (me : Int) (w : World) : Calls Tryz.prog 31 #[.int .i64 me] w fun e w' =>
    (∀ k : Nat, me = k → k < 64 → ∃ p, e = .returned (.pointer (some ⟨p, 0, none⟩)) ∧ w.heap.size ≤ p ∧ Rl p k (newS k) w') ∧ (¬ (0 ≤ me ∧ me < 64) → e = .returned (.pointer none)) ∧ Below w.heap.size w w' := by
  have hX := Bx.new 39 me 0 0 w
  have ba := below_alloc w (.cells #[.int .i64 me, .int .u64 0, .int .i64 0] 39)
  have hM : mayS me 0 = decide (0 ≤ me ∧ me < 64) := by simp [mayS]
  go_enter Tryz.func31, Tryz.ntmps31
  go_wp2_with fail
  refine (may_any _ _ _ _).mono ?_
  rw [hM]
  by_cases h : 0 ≤ me ∧ me < 64
  · obtain ⟨k, rfl⟩ : ∃ k : Nat, me = k := ⟨me.toNat, by omega⟩
    have hk : k < 64 := by omega
    rw [decide_eq_true h]
    rintro e w1 ⟨rfl, hb1⟩
    have hB1 := ba.trans (hb1.mono ba.size)
    have hX1 := hX.below hb1
    clear hX ba hb1 hM
    have x0 := hX1.c0
    have x1 := hX1.c1
    have x2 := hX1.c2
    have hz := run_zero_roll
    have hs := roll_zero_set k
    have hn := roll_zero_ne
    generalize (rollC 0 fun _ => none).toArray = A at *
    generalize hC : (rollC k fun _ => none).toArray = C at *
    have bc := below_alloc w1 (.cells C 141)
    have hR : Rl w1.heap.size k (fun _ => none) (w1.alloc (.cells C 141)) := ⟨by rw [hC]; exact heap_alloc_new _ _⟩
    have hX2 := hX1.below bc
    clear x0 x1 x2 hX1 hC
    have x0 := hX2.c0
    have x1 := hX2.c1
    have x2 := hX2.c2
    go_wp2_with fail
    refine (keep_any _ k _ k ⟨k, 0, 0⟩ rfl hk _ hR).mono ?_
    rintro e w2 ⟨rfl, hR2, hb2⟩
    go_wp2_with fail
    go_ret
    refine ⟨fun k' e' _ => ?_, fun hh => absurd h hh, ?_⟩
    · obtain rfl : k = k' := by omega
      exact ⟨_, rfl, hB1.size, hR2⟩
    · exact (hB1.trans (bc.mono hB1.size)).trans (((hb2.mono (B := w1.heap.size) (by simp)).to (Nat.le_refl _)).mono hB1.size)
  · rw [decide_eq_false h]
    rintro e w1 ⟨rfl, hb1⟩
    go_wp2_with fail
    go_ret
    exact ⟨fun k e hk => absurd (show 0 ≤ me ∧ me < 64 by omega) h, fun _ => rfl, ba.trans (hb1.mono ba.size)⟩
def mayU (u : Upd) : Bool := mayS u.n u.s
def newerU (u v : Upd) : Bool := newerS u.i u.s v.i v.s
def refuteS (k : Nat) (f : Tab) (u : Upd) : Int × Tab :=
  if denS k (ud (f k)).i u.n u.i u.s then (if u.i == 18446744073709551615 then (60, f) else (0, f.set k ⟨k, u.i + 1, 0⟩)) else (70, f)
def hearS (k : Nat) (f : Tab) (u : Upd) : (Bool × Int) × Tab :=
  if mayU u then
    if u.n == k then ((false, (refuteS k f u).1), (refuteS k f u).2)
    else if (f u.n.toNat).isSome && !newerU u (ud (f u.n.toNat)) then ((false, 70), f) else ((true, 0), f.set u.n.toNat u)
  else ((false, 1), f)
theorem run_inc (n i s : Int) (w : World) : (Instr.field 39 (.agg #[.int .i64 n, .int .u64 i, .int .i64 s]) 1).run Tryz.prog w = .ok (.int .u64 i) w := by simp [Instr.field, go_sem, asAgg]
structure Rj (p k : Nat) (f : Tab) (g : Nat) (u : Upd) (w0 w : World) : Prop where
  roll : Rl p k f w
  box : Bx 39 g u.n u.i u.s w
  below : Below w0.heap.size w0 w
section
variable {p k : Nat} {f : Tab} {g : Nat} {u : Upd} {w0 w w' : World}
theorem Rj.later (h : Rj p k f g u w0 w) (b : Below w.heap.size w w') : Rj p k f g u w0 w' := ⟨h.roll.below b, h.box.below b, h.below.trans (b.mono h.below.size)⟩
theorem Rj.drew (h : Rj p k f g u w0 w) : Rj p k f g u w0 w.drew := ⟨h.roll.drew, h.box.drew, Below.drew' h.below⟩
theorem Rj.on {x : Kept (Rj p k f g u w0)} (b : Below x.at_.heap.size x.at_ w') : ∃ y : Kept (Rj p k f g u w0), w' = y.at_ := ⟨⟨w', x.is.later b⟩, rfl⟩
theorem Rj.roll' {x : Kept (Rj p k f g u w0)} : Rl p k f x.at_ := x.is.roll
end
set_option maxRecDepth 100000 in
set_option maxHeartbeats 1000000 in
theorem refute_roll (p k : Nat) (f : Tab) (u : Upd) (hk : k < 64) (h0 : 0 ≤ u.i) (h1 : u.i ≤ 18446744073709551615) (w : World) (hR : Rl p k f w) :
    Calls Tryz.prog 126 #[.pointer (some ⟨p, 0, none⟩), .agg #[.int .i64 u.n, .int .u64 u.i, .int .i64 u.s]] w fun e w' => e = .returned (.int .i64 (refuteS k f u).1) ∧ Rl p k (refuteS k f u).2 w' ∧ But w.heap.size p w w' := by
  have ba := below_alloc w (.cells #[.int .i64 u.n, .int .u64 u.i, .int .i64 u.s] 39)
  have hJ : Rj p k f w.heap.size u w (w.alloc (.cells #[.int .i64 u.n, .int .u64 u.i, .int .i64 u.s] 39)) := ⟨hR.below ba, Bx.new _ _ _ _ _, ba⟩
  have hne : Nonempty (Kept (Rj p k f w.heap.size u w)) := ⟨⟨_, hJ⟩⟩
  have c : ∀ x : Kept (Rj p k f w.heap.size u w), x.at_.cell? ⟨p, 0, none⟩ = some (.int .i64 k) := fun x => x.is.roll.cme
  have c0 : ∀ x : Kept (Rj p k f w.heap.size u w), x.at_.cell? ⟨w.heap.size, 0, none⟩ = some (.int .i64 u.n) := fun x => x.is.box.c0
  have c1 : ∀ x : Kept (Rj p k f w.heap.size u w), x.at_.cell? ⟨w.heap.size, 1, none⟩ = some (.int .u64 u.i) := fun x => x.is.box.c1
  have c2 : ∀ x : Kept (Rj p k f w.heap.size u w), x.at_.cell? ⟨w.heap.size, 2, none⟩ = some (.int .i64 u.s) := fun x => x.is.box.c2
  have hfd := run_inc (ud (f k)).n (ud (f k)).i (ud (f k)).s
  obtain ⟨r, HR⟩ : ∃ r, Hid (refuteS k f u = r) := ⟨_, rfl⟩
  rw [HR.out]
  cases hd : denS k (ud (f k)).i u.n u.i u.s
  case false =>
    obtain rfl : r = (70, f) := by rw [← HR.out]; simp [refuteS, hd]
    have hv : refS k (ud (f k)).i u.n u.i u.s = .tuple #[.int .u64 (ud (f k)).i, .bool false, .int .i64 0] := by simp [refS, hd]
    go_enter Tryz.func126, Tryz.ntmps126
    go_wp2_with fail
    refine wp_region_kept (Rj p k f w.heap.size u w) (by kernel_rfl) (by kernel_rfl) hJ.drew ?_
    repeat (go_big_quiet_step (first
      | (refine (mine_any p k f hk _ Rj.roll').mono ?_; rintro e w4 ⟨rfl, hb4⟩; exact ⟨rfl, Rj.on hb4⟩)
      | (refine (refute_any _ _ _ _ _ h0 h1 _).mono ?_; rw [hv]; rintro e w4 ⟨rfl, hb4⟩; exact ⟨rfl, Rj.on hb4⟩)))
    refine wpQuiet_nil ?_
    intro w5 h5
    go_wp2_with fail
    go_ret
    exact ⟨rfl, h5.roll, But.of h5.below⟩
  case true =>
    cases hi : (u.i == 18446744073709551615)
    case true =>
      obtain rfl : r = (60, f) := by rw [← HR.out]; simp [refuteS, hd, hi]
      have hv : refS k (ud (f k)).i u.n u.i u.s = .tuple #[.int .u64 (ud (f k)).i, .bool false, .int .i64 60] := by simp [refS, hd, hi]
      go_enter Tryz.func126, Tryz.ntmps126
      go_wp2_with fail
      refine wp_region_kept (Rj p k f w.heap.size u w) (by kernel_rfl) (by kernel_rfl) hJ.drew ?_
      repeat (go_big_quiet_step (first
        | (refine (mine_any p k f hk _ Rj.roll').mono ?_; rintro e w4 ⟨rfl, hb4⟩; exact ⟨rfl, Rj.on hb4⟩)
        | (refine (refute_any _ _ _ _ _ h0 h1 _).mono ?_; rw [hv]; rintro e w4 ⟨rfl, hb4⟩; exact ⟨rfl, Rj.on hb4⟩)))
      refine wpQuiet_nil ?_
      intro w5 h5
      go_wp2_with fail
      go_ret
      exact ⟨rfl, h5.roll, But.of h5.below⟩
    case false =>
      obtain rfl : r = (0, f.set k ⟨k, u.i + 1, 0⟩) := by rw [← HR.out]; simp [refuteS, hd, hi]
      have hv : refS k (ud (f k)).i u.n u.i u.s = .tuple #[.int .u64 (u.i + 1), .bool true, .int .i64 0] := by simp [refS, hd, hi]
      go_enter Tryz.func126, Tryz.ntmps126
      go_wp2_with fail
      refine wp_region_kept (Rj p k f w.heap.size u w) (by kernel_rfl) (by kernel_rfl) hJ.drew ?_
      repeat (go_big_quiet_step (first
        | (refine (mine_any p k f hk _ Rj.roll').mono ?_; rintro e w4 ⟨rfl, hb4⟩; exact ⟨rfl, Rj.on hb4⟩)
        | (refine (refute_any _ _ _ _ _ h0 h1 _).mono ?_; rw [hv]; rintro e w4 ⟨rfl, hb4⟩; exact ⟨rfl, Rj.on hb4⟩)))
      refine wpQuiet_nil ?_
      intro w5 h5
      have hc := h5.roll.cme
      go_wp2_with fail
      refine (keep_any p k f k ⟨k, u.i + 1, 0⟩ rfl hk _ h5.roll).mono ?_
      rintro e w6 ⟨rfl, hR6, hb6⟩
      go_wp2_with fail
      go_ret
      exact ⟨rfl, hR6, (But.of h5.below).trans (hb6.mono h5.below.size)⟩
set_option maxRecDepth 100000 in
set_option maxHeartbeats 1000000 in
theorem hear_any (p k : Nat) (f : Tab) (u : Upd) (hk : k < 64) (h0 : 0 ≤ u.i) (h1 : u.i ≤ 18446744073709551615) (w : World) (hR : Rl p k f w) :
    Calls Tryz.prog 83 #[.pointer (some ⟨p, 0, none⟩), .agg #[.int .i64 u.n, .int .u64 u.i, .int .i64 u.s]] w fun e w' =>
      e = .returned (.tuple #[.bool (hearS k f u).1.1, .int .i64 (hearS k f u).1.2]) ∧ Rl p k (hearS k f u).2 w' ∧ But w.heap.size p w w' := by
  have ba := below_alloc w (.cells #[.int .i64 u.n, .int .u64 u.i, .int .i64 u.s] 39)
  have hX := Bx.new 39 u.n u.i u.s w
  have hR1 := hR.below ba
  obtain ⟨r, HR⟩ : ∃ r, Hid (hearS k f u = r) := ⟨_, rfl⟩
  rw [HR.out]
  go_enter Tryz.func83, Tryz.ntmps83
  go_wp2_with fail
  refine (may_any _ _ _ _).mono ?_
  cases hm : mayS u.n u.s
  case false =>
    obtain rfl : r = ((false, 1), f) := by rw [← HR.out]; simp [hearS, mayU, hm]
    rintro e w1 ⟨rfl, hb1⟩
    go_wp2_with fail
    go_ret2
    exact ⟨rfl, hR1.below hb1, But.of (ba.trans (hb1.mono ba.size))⟩
  case true =>
    rintro e w1 ⟨rfl, hb1⟩
    have hn : 0 ≤ u.n ∧ u.n < 64 := by simp [mayS] at hm; omega
    have hB1 := ba.trans (hb1.mono ba.size)
    have hX1 := hX.below hb1
    have hR2 := hR1.below hb1
    clear hX hR1 hb1 ba
    have x0 := hX1.c0
    have x1 := hX1.c1
    have x2 := hX1.c2
    have x := hR2.cme
    cases hq : (u.n == (k : Int))
    case true =>
      obtain rfl : r = ((false, (refuteS k f u).1), (refuteS k f u).2) := by rw [← HR.out]; simp [hearS, mayU, hm, hq]
      go_wp2_with fail
      go_quiet (fail)
      have hR3 : Rl p k f (w1.drewN nq) := ⟨hR2.heap⟩
      have hX3 : Bx 39 w.heap.size u.n u.i u.s (w1.drewN nq) := ⟨hX1.heap⟩
      have hB3 : Below w.heap.size w (w1.drewN nq) := hB1.trans (below_drewN _ _ _)
      generalize w1.drewN nq = w2 at *
      clear x0 x1 x2 x hX1 hR2 hB1
      have x0 := hX3.c0
      have x1 := hX3.c1
      have x2 := hX3.c2
      go_wp2_with fail
      refine (refute_roll p k f u hk h0 h1 _ hR3).mono ?_
      rintro e w3 ⟨rfl, hR4, hb4⟩
      go_wp2_with fail
      go_ret2
      exact ⟨rfl, hR4, (But.of hB3).trans (hb4.mono hB3.size)⟩
    case false =>
      go_wp2_with fail
      go_quiet (fail)
      have hR3 : Rl p k f (w1.drewN nq) := ⟨hR2.heap⟩
      have hX3 : Bx 39 w.heap.size u.n u.i u.s (w1.drewN nq) := ⟨hX1.heap⟩
      have hB3 : Below w.heap.size w (w1.drewN nq) := hB1.trans (below_drewN _ _ _)
      generalize w1.drewN nq = w2 at *
      clear x0 x1 x2 x hX1 hR2 hB1
      have x0 := hX3.c0
      have x1 := hX3.c1
      have x2 := hX3.c2
      have hg : getS f u.n = f u.n.toNat := by unfold getS; rw [if_pos hn]
      have hG := get_any p k u.n f w2 hR3
      rw [hg] at hG
      have HR' : Hid (r = if (f u.n.toNat).isSome && !newerU u (ud (f u.n.toNat)) then ((false, 70), f) else ((true, 0), f.set u.n.toNat u)) := by
        show _ = _
        rw [← HR.out]; simp only [hearS, mayU, hm, hq, if_true]; rfl
      have hj : u.n.toNat < 64 := by omega
      have hjn : Hid (u.n = (u.n.toNat : Nat)) := by show _ = _; omega
      generalize u.n.toNat = j at *
      unfold newerU at HR'
      generalize (f j).isSome = b at *
      generalize ud (f j) = v at *
      clear hg
      go_wp2_with fail
      refine hG.mono ?_
      rintro e w3 ⟨rfl, hb3⟩
      have hB4 := hB3.trans (hb3.mono hB3.size)
      have hX4 := hX3.below hb3
      have hR4 := hR3.below hb3
      have bc := below_alloc w3 (.cells #[.int .i64 v.n, .int .u64 v.i, .int .i64 v.s] 39)
      have hY := Bx.new 39 v.n v.i v.s w3
      have hB5 := hB4.trans (bc.mono hB4.size)
      have hX5 := hX4.below bc
      have hR5 := hR4.below bc
      clear x0 x1 x2 hX3 hR3 hB3 hb3 hX4 hR4 hB4 bc
      cases b
      case false =>
        obtain rfl : r = ((true, 0), f.set j u) := by rw [HR'.out]; rfl
        have x0 := hX5.c0
        have x1 := hX5.c1
        have x2 := hX5.c2
        go_wp2_with fail
        refine (keep_any p k f j u hjn.out hj _ hR5).mono ?_
        rintro e w4 ⟨rfl, hR6, hb6⟩
        go_wp2_with fail
        go_ret2
        exact ⟨rfl, hR6, (But.of hB5).trans (hb6.mono hB5.size)⟩
      case true =>
        have x0 := hX5.c0
        have x1 := hX5.c1
        have x2 := hX5.c2
        have y0 := hY.c0
        have y1 := hY.c1
        have y2 := hY.c2
        go_wp2_with fail
        refine (newer_any _ _ _ _ _ _ _).mono ?_
        cases hN : newerS u.i u.s v.i v.s
        case false =>
          obtain rfl : r = ((false, 70), f) := by rw [HR'.out, hN]; rfl
          rintro e w4 ⟨rfl, hb4⟩
          go_wp2_with fail
          go_ret2
          exact ⟨rfl, hR5.below hb4, But.of (hB5.trans (hb4.mono hB5.size))⟩
        case true =>
          obtain rfl : r = ((true, 0), f.set j u) := by rw [HR'.out, hN]; rfl
          rintro e w4 ⟨rfl, hb4⟩
          have hB6 := hB5.trans (hb4.mono hB5.size)
          have hR6 := hR5.below hb4
          have hX6 := hX5.below hb4
          clear x0 x1 x2 y0 y1 y2 hX5 hR5 hB5 hY hb4
          have x0 := hX6.c0
          have x1 := hX6.c1
          have x2 := hX6.c2
          go_wp2_with fail
          refine (keep_any p k f j u hjn.out hj _ hR6).mono ?_
          rintro e w5 ⟨rfl, hR7, hb7⟩
          go_wp2_with fail
          go_ret2
          exact ⟨rfl, hR7, (But.of hB6).trans (hb7.mono hB6.size)⟩
theorem may_iff (u : Upd) : mayU u = true ↔ (0 ≤ u.n ∧ u.n < 64 ∧ 0 ≤ u.s ∧ u.s ≤ 3) := by simp [mayU, mayS]
theorem ud_some (u : Upd) : ud (some u) = u := rfl
def up (o : Option Upd) (u : Upd) : Option Upd := if o.isSome && !newerU u (ud o) then o else some u
def InOk (u : Upd) : Prop := 0 ≤ u.i ∧ u.i ≤ 18446744073709551615
structure Inv (k : Nat) (f : Tab) : Prop where
  lt : k < 64
  mine : ∃ i, f k = some ⟨k, i, 0⟩
  may : ∀ j u, f j = some u → mayU u = true ∧ u.n = j ∧ InOk u
theorem hear_not (k : Nat) (f : Tab) {u : Upd} (h : mayU u = false) : hearS k f u = ((false, 1), f) := by simp [hearS, h]
theorem hear_own {k : Nat} {f : Tab} {i : Int} (hf : f k = some ⟨k, i, 0⟩) {u : Upd} (h : mayU u = true) (hn : u.n = k) :
    hearS k f u = if newerU u ⟨k, i, 0⟩ then (if u.i == 18446744073709551615 then ((false, 60), f) else ((false, 0), f.set k ⟨k, u.i + 1, 0⟩)) else ((false, 70), f) := by
  have e : denS k (ud (f k)).i u.n u.i u.s = newerU u ⟨k, i, 0⟩ := by
    unfold denS
    rw [hf, ud_some, hn]
    have : mayS (k : Int) u.s = true := by rw [← hn]; exact h
    rw [this]
    simp [newerU]
  have hb : (u.n == (k : Int)) = true := by simpa using hn
  unfold hearS refuteS
  rw [h, hb, e]
  cases newerU u ⟨k, i, 0⟩
  · rfl
  · cases (u.i == 18446744073709551615) <;> rfl
theorem hear_other {k : Nat} {f : Tab} {u : Upd} (h : mayU u = true) (hn : u.n ≠ k) :
    (hearS k f u).1.2 ≠ 60 ∧ ∀ j, (hearS k f u).2 j = if (j : Int) = u.n then up (f j) u else f j := by
  have h0 := (may_iff u).1 h
  have hb : (u.n == (k : Int)) = false := by simpa using hn
  simp only [hearS, h, if_true, hb, Bool.false_eq_true, if_false]
  have hj : ∀ j : Nat, (j : Int) = u.n ↔ j = u.n.toNat := fun j => by omega
  split
  · rename_i h1
    refine ⟨by simp, fun j => ?_⟩
    dsimp only
    split
    · rename_i h2
      rw [(hj j).1 h2]
      unfold up; rw [if_pos h1]
    · rfl
  · rename_i h1
    refine ⟨by simp, fun j => ?_⟩
    dsimp only
    split
    · rename_i h2
      rw [(hj j).1 h2, Tab.set_same]
      unfold up; rw [if_neg h1]
    · rename_i h2
      rw [Tab.set_other _ _ (fun e => h2 ((hj j).2 e))]
theorem hear_inv {k : Nat} {f : Tab} (hI : Inv k f) {u : Upd} (hu : InOk u) : Inv k (hearS k f u).2 := by
  cases hm : mayU u
  · rw [hear_not k f hm]; exact hI
  · have h0 := (may_iff u).1 hm
    by_cases hn : u.n = k
    · obtain ⟨i, hi⟩ := hI.mine
      rw [hear_own hi hm hn]
      split
      · split
        · exact hI
        · rename_i h2
          have h2 : u.i ≠ 18446744073709551615 := by simpa using h2
          refine ⟨hI.lt, ⟨u.i + 1, Tab.set_same _ _ _⟩, fun j v hv => ?_⟩
          dsimp only at hv
          by_cases hj : j = k
          · subst hj
            rw [Tab.set_same] at hv
            cases hv
            refine ⟨(may_iff _).2 ?_, rfl, ?_⟩
            · dsimp only; omega
            · unfold InOk at *; dsimp only; omega
          · rw [Tab.set_other _ _ hj] at hv; exact hI.may j v hv
      · exact hI
    · have hk : ¬ ((k : Int) = u.n) := fun e => hn e.symm
      refine ⟨hI.lt, ?_, fun j v hv => ?_⟩
      · obtain ⟨i, hi⟩ := hI.mine
        exact ⟨i, by rw [(hear_other hm hn).2 k, if_neg hk]; exact hi⟩
      · rw [(hear_other hm hn).2 j] at hv
        split at hv
        · rename_i hj
          unfold up at hv
          split at hv
          · exact hI.may j v hv
          · cases hv; exact ⟨hm, hj.symm, hu⟩
        · exact hI.may j v hv
theorem mem_pick (f : Tab) (b : Nat → Bool) (u : Upd) : ∀ n, u ∈ pickN f b n → ∃ j, j < n ∧ b j = true ∧ u = ud (f j) := by
  intro n
  induction n with
  | zero => intro h; cases h
  | succ n ih =>
    intro h
    simp only [pickN, List.mem_append] at h
    rcases h with h | h
    · obtain ⟨j, h1, h2, h3⟩ := ih h
      exact ⟨j, by omega, h2, h3⟩
    · cases hb : b n
      · rw [hb] at h; simp at h
      · rw [hb] at h
        simp at h
        exact ⟨n, by omega, hb, h⟩
theorem all_mem {f : Tab} {u : Upd} (h : u ∈ allS f) : ∃ j, j < 64 ∧ f j = some u := by
  obtain ⟨j, h1, h2, h3⟩ := mem_pick _ _ _ _ h
  obtain ⟨v, hv⟩ := Option.isSome_iff_exists.1 h2
  rw [hv, ud_some] at h3
  exact ⟨j, h1, by rw [hv, h3]⟩
theorem inv_new {k : Nat} (hk : k < 64) : Inv k (newS k) := ⟨hk, ⟨0, Tab.set_same _ _ _⟩, fun j u h => by
  by_cases e : j = k
  · subst e
    unfold newS at h
    rw [Tab.set_same] at h
    cases h
    refine ⟨(may_iff _).2 ?_, rfl, ?_⟩
    · dsimp only; omega
    · unfold InOk; dsimp only; omega
  · unfold newS at h
    rw [Tab.set_other _ _ e] at h
    cases h⟩
end Go.Proofs.YtpoofjnfaijjjaaGreatDoor.Ro
