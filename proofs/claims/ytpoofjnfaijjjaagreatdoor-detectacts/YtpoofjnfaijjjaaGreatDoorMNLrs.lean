/-
  The reference's Left, Next, Below, Shuffle, Some. slices.Index, slices.Contains; the closures; place; Left. The reference's Shuffle, Some.
-/
import Derived.Test.YtpoofjnfaijjjaaGreatDoorMNRba
import Derived.Laws.AppendOwnNone
namespace Go.Proofs.YtpoofjnfaijjjaaGreatDoor.Rn
open Go.RowKit
theorem Rd.at {k : IntKind} {a : Option Addr} {len cap : Nat} {l : List Int} {w : World} (h : Rd k (.slice a len cap) l w) (i : Nat) (hi : i < l.length) : ∃ g off, a = some ⟨g, off, none⟩ ∧ w.cell? ⟨g, off + i, none⟩ = some (.int k l[i]) := by
  obtain ⟨a', cap', e, _, _, _, h3⟩ := h
  cases e
  rcases h3 with h3 | ⟨g, off, rfl, h3⟩
  · omega
  · exact ⟨g, off, rfl, h3 i hi⟩
structure Lf (w0 : World) (q : Nat) (v : Value) (l m : List Int) (w : World) : Prop where
  ex : ∃ k : Nat, k ≤ l.length ∧ l.drop k = m ∧ w.heap[q]? = some (.cells #[v, .int .i64 k] 33 (0, 0))
  below : Below w0.heap.size w0 w
  le : w0.heap.size ≤ q
theorem Lf.lt {w0 : World} {q : Nat} {v : Value} {l m : List Int} {w : World} (h : Lf w0 q v l m w) : q < w.heap.size := by
  obtain ⟨k, _, _, h1⟩ := h.ex
  exact (Array.getElem?_eq_some_iff.1 h1).1
theorem Lf.keep {w0 : World} {q : Nat} {v : Value} {l m : List Int} {w w' : World} (h : Lf w0 q v l m w) (e : w'.heap[q]? = w.heap[q]?) (hb : Below w0.heap.size w w') : Lf w0 q v l m w' := by
  obtain ⟨⟨k, h1, h2, h3⟩, h4, h5⟩ := h
  exact ⟨⟨k, h1, h2, e.trans h3⟩, h4.trans hb, h5⟩
theorem Lf.later {w0 : World} {q : Nat} {v : Value} {l m : List Int} {w w' : World} (h : Lf w0 q v l m w) (hb : Below w.heap.size w w') : Lf w0 q v l m w' :=
  h.keep (hb.block q h.lt) (hb.mono h.below.size)
set_option maxHeartbeats 400000 in
theorem fleft_any (w0 : World) (q : Nat) (a : Option Addr) (cap : Nat) (l m : List Int) (w : World) (hl : l.length ≤ 1000000) (h : Lf w0 q (.slice a l.length cap) l m w) :
    Calls Tryz.prog 23 #[.pointer (some ⟨q, 0, none⟩)] w fun e w' => e = .returned (.int .i64 m.length) ∧ Below w.heap.size w w' := by
  obtain ⟨⟨k, h1, rfl, h3⟩, h4, h5⟩ := h
  have c0 : w.cell? ⟨q, 0, none⟩ = some (.slice a l.length cap) := by simp [World.cell?, h3]
  have c1 : w.cell? ⟨q, 1, none⟩ = some (.int .i64 k) := by simp [World.cell?, h3]
  have e : ((l.drop k).length : Int) = (l.length : Int) - k := by rw [List.length_drop]; omega
  rw [e]
  clear e
  go_enter Tryz.func23, Tryz.ntmps23
  go_wp2_with fail
  go_quiet (fail)
  go_wp2_with fail
  go_ret
  exact ⟨rfl, ⟨rfl, rfl, rfl, Nat.le_refl _, fun _ _ => rfl⟩⟩
set_option maxHeartbeats 400000 in
theorem fnext_any (w0 : World) (q : Nat) (a : Option Addr) (cap : Nat) (l m : List Int) (w : World) (hl : l.length ≤ 1000000) (hR : Rd .u64 (.slice a l.length cap) l w0) (h : Lf w0 q (.slice a l.length cap) l m w) :
    Calls Tryz.prog 175 #[.pointer (some ⟨q, 0, none⟩)] w fun e w' => e = .returned (.int .u64 (m.headD 0)) ∧ Lf w0 q (.slice a l.length cap) l m.tail w' ∧ But w.heap.size q w w' := by
  cases m with
  | nil =>
    go_enter Tryz.func175, Tryz.ntmps175
    go_wp2_with fail
    refine (fleft_any w0 q a cap l [] _ hl h).mono ?_
    rintro e w1 ⟨rfl, hb⟩
    go_wp2_with fail
    go_ret
    exact ⟨rfl, h.later hb, But.of hb⟩
  | cons x r =>
    have hz := h.lt
    go_enter Tryz.func175, Tryz.ntmps175
    go_wp2_with fail
    refine (fleft_any w0 q a cap l (x :: r) _ hl h).mono ?_
    rintro e w1 ⟨rfl, hb⟩
    have h' := h.later hb
    have hz1 := hb.size
    obtain ⟨⟨k, h1, h2, h3⟩, h4, h5⟩ := h'
    have hkl : k < l.length := by
      rcases Nat.lt_or_ge k l.length with e | e
      · exact e
      · rw [List.drop_eq_nil_of_le e] at h2; cases h2
    rw [List.drop_eq_getElem_cons hkl] at h2
    obtain ⟨hx, hr⟩ := List.cons.inj h2
    clear h2
    obtain ⟨g, off, rfl, hc⟩ := (hR.below h4).at k hkl
    rw [hx] at hc
    clear hx
    have c0 : w1.cell? ⟨q, 0, none⟩ = some (.slice (some ⟨g, off, none⟩) l.length cap) := by simp [World.cell?, h3]
    have c1 : w1.cell? ⟨q, 1, none⟩ = some (.int .i64 k) := by simp [World.cell?, h3]
    have f1 : w1.frozen? ⟨q, 1, none⟩ = false := by simp [World.frozen?, h3]
    have hne : (((x :: r).length : Int) == 0) = false := by rw [beq_eq_false_iff_ne]; simp; omega
    have hgq : g ≠ q := by
      obtain ⟨g', off', e, hc'⟩ := hR.at k hkl
      cases e
      have := World.block_lt_of_cell? _ _ hc'
      simp at this
      omega
    have hcg : (w1.setCell ⟨q, 1, none⟩ (.int .i64 ((k : Int) + 1))).cell? ⟨g, off + k, none⟩ = some (.int .u64 x) := (World.cell?_of_block (w := w1) (Below.heap_setCell _ _ _ _ hgq)).trans hc
    have i0 : (0 : Int) ≤ k := by omega
    have i1 : (k : Int) < l.length := by omega
    generalize (x :: r).length = X at hne
    go_wp2_with fail
    go_quiet (fail)
    go_wp2_with fail
    go_ret
    refine ⟨rfl, ⟨⟨k + 1, by omega, hr, ?_⟩, ?_, h5⟩, ?_⟩
    · show (w1.setCell ⟨q, 1, none⟩ _).heap[q]? = _
      simp [World.setCell, Array.getElem?_modify, h3]
    · have := h4.setCell (p := ⟨q, 1, none⟩) h5 (.int .i64 ((k : Int) + 1))
      exact ⟨this.os, this.tape, this.output, this.size, this.block⟩
    · have := (But.of hb : But w.heap.size q w w1).setCell (q := ⟨q, 1, none⟩) (Or.inl rfl) (.int .i64 ((k : Int) + 1))
      exact ⟨this.os, this.tape, this.output, this.size, this.block⟩
set_option maxHeartbeats 400000 in
theorem fbelow_any (w0 : World) (q : Nat) (a : Option Addr) (cap : Nat) (l m : List Int) (n : Int) (w : World) (hl : l.length ≤ 1000000) (hR : Rd .u64 (.slice a l.length cap) l w0) (h : Lf w0 q (.slice a l.length cap) l m w) (hm : Ok m) (hn : n < 9223372036854775808) :
    Calls Tryz.prog 142 #[.pointer (some ⟨q, 0, none⟩), .int .i64 n] w fun e w' => e = .returned (.int .i64 (belowS m n).1) ∧ Lf w0 q (.slice a l.length cap) l (belowS m n).2 w' ∧ But w.heap.size q w w' := by
  by_cases h2 : n < 2
  · have e : belowS m n = (0, m) := by unfold belowS; rw [if_pos h2]
    rw [e]
    go_enter Tryz.func142, Tryz.ntmps142
    go_wp2_with fail
    go_ret
    exact ⟨rfl, h, But.refl _ _ _⟩
  · have e : belowS m n = (m.headD 0 % n, m.tail) := by unfold belowS; rw [if_neg h2]
    rw [e]
    obtain ⟨hx0, hx1⟩ := hm.head
    have hm0 := Int.emod_nonneg (m.headD 0) (show n ≠ 0 by omega)
    have hm1 := Int.emod_lt_of_pos (m.headD 0) (show 0 < n by omega)
    clear e
    obtain ⟨x, hx⟩ : ∃ x, m.headD 0 = x := ⟨_, rfl⟩
    rw [hx] at hx0 hx1 hm0 hm1 ⊢
    have HX : Hid _ := hx
    clear hx
    go_enter Tryz.func142, Tryz.ntmps142
    go_wp2_with fail
    refine (fnext_any w0 q a cap l m _ hl hR h).mono ?_
    rw [HX.out]
    rintro e w1 ⟨rfl, h1, hb⟩
    go_wp2_with fail
    go_ret
    exact ⟨rfl, h1, hb⟩
variable {X : Value → Array Value} {G : Nat → Prop}
theorem enter_of {P : Program} {f : FuncId} {fn : Func} {c : Code} (hf : P.funcs[f]? = some fn) (hn : (fn.name == "runtime.NumGoroutine") = false) (hb : fn.body = some c) (args : Array Value) (w : World) :
    (callFunc f args).run P w = .ok (.enter f args) w := by
  have : fn.name ≠ "runtime.NumGoroutine" := by simpa using hn
  simp [callFunc, hf, this, hb]
theorem mem_take_succ {l : List Int} {i : Nat} (hi : i < l.length) {x : Int} (h : x ∉ l.take i) (hx : x ≠ l[i]) : x ∉ l.take (i + 1) := by
  rw [List.take_add_one, List.getElem?_eq_getElem hi]
  intro hm
  rcases List.mem_append.1 hm with hm | hm
  · exact h hm
  · exact hx (by simpa using hm)
set_option maxHeartbeats 400000 in
theorem index_any (v : Value) (l : List Int) (x : Int) (w : World) (hl : l.length ≤ 1000000) (h : Rd .i64 v l w) :
    Calls Tryz.prog 169 #[v, .int .i64 x] w fun e w' => ∃ n : Int, e = .returned (.int .i64 n) ∧ decide (0 ≤ n) = decide (x ∈ l) ∧ w' = w := by
  obtain ⟨a, cap, rfl, _, _, _, k1⟩ := h
  go_enter Tryz.func169, Tryz.ntmps169
  go_wp2_with fail
  go_loopg [8] l.length (fun gk t8 wr => ∃ i : Nat, i + gk = l.length ∧ t8 = .int .i64 i ∧ x ∉ l.take i ∧ wr = w)
  case atStart => exact ⟨0, by omega, rfl, by simp, rfl⟩
  case round =>
    obtain ⟨i, hi, rfl, hx, rfl⟩ := hrel
    by_cases hlt : (i : Int) < l.length
    · have i0 : (0 : Int) ≤ i := by omega
      have hil : i < l.length := by omega
      rcases k1 with k1 | ⟨g1, o1, rfl, k1⟩
      · omega
      have c1 := k1 i hil
      have hs := fun e => mem_take_succ hil hx e
      have hm : x = l[i] → x ∈ l := fun e => by rw [e]; exact List.getElem_mem hil
      clear k1
      generalize l[i] = y at c1 hs hm
      by_cases hxy : x = y
      · have he : (x == y) = true := by simp [hxy]
        have hm := hm hxy
        clear hs hxy
        go_wp2_with fail
        go_ret
        exact ⟨_, rfl, by simp [hm], rfl⟩
      · have he : (x == y) = false := by simp [hxy]
        have hs := hs hxy
        clear hm
        go_wp2_with fail
        go_roundg (gk - 1)
        case rel => exact ⟨i + 1, by omega, by go_num, hs, rfl⟩
        case measure => omega
    · obtain rfl : i = l.length := by omega
      rw [List.take_length] at hx
      go_wp2_with fail
      go_ret
      exact ⟨_, rfl, by simp, rfl⟩
set_option maxHeartbeats 400000 in
theorem contains_any (v : Value) (l : List Int) (x : Int) (w : World) (hl : l.length ≤ 1000000) (h : Rd .i64 v l w) :
    Calls Tryz.prog 132 #[v, .int .i64 x] w fun e w' => e = .returned (.bool (decide (x ∈ l))) ∧ w' = w := by
  obtain ⟨z, HZ⟩ : ∃ z, Hid (decide (x ∈ l) = z) := ⟨_, rfl⟩
  rw [HZ.out]
  cases z
  all_goals
    go_enter Tryz.func132, Tryz.ntmps132
    go_wp2_with fail
    refine (index_any v l x w hl h).mono ?_
    rintro e w1 ⟨n, rfl, hn, rfl⟩
    rw [HZ.out] at hn
    go_wp2_with fail
    go_ret
    exact ⟨rfl, rfl⟩
set_option maxHeartbeats 400000 in
theorem among_any (b : Nat) (v : Value) (l : List Int) (x : Int) (w : World) (hl : l.length ≤ 1000000) (h : Rd .i64 v l w) (hb : w.heap[b]? = some (.cells #[v] 82 (0, 0))) :
    Calls Tryz.prog 131 #[.int .i64 x, .pointer (some ⟨b, 0, none⟩)] w fun e w' => e = .returned (.bool (decide (x ∈ l))) ∧ w' = w := by
  have hc : w.cell? ⟨b, 0, none⟩ = some v := by simp [World.cell?, hb]
  have h' := h
  obtain ⟨a, cap, rfl, _⟩ := h'
  go_enter Tryz.func131, Tryz.ntmps131
  go_wp2_with fail
  refine (contains_any _ l x w hl h).mono ?_
  rintro e w1 ⟨rfl, rfl⟩
  go_wp2_with fail
  go_ret
  exact ⟨rfl, rfl⟩
set_option maxHeartbeats 400000 in
theorem alike_any (b : Nat) (x y : Int) (w : World) (hb : w.heap[b]? = some (.cells #[.int .i64 y] 3 (0, 0))) :
    Calls Tryz.prog 161 #[.int .i64 x, .pointer (some ⟨b, 0, none⟩)] w fun e w' => e = .returned (.bool (decide (x = y))) ∧ w' = w := by
  have hc : w.cell? ⟨b, 0, none⟩ = some (.int .i64 y) := by simp [World.cell?, hb]
  have he : decide (x = y) = (x == y) := rfl
  rw [he]
  go_enter Tryz.func161, Tryz.ntmps161
  go_wp2_with fail
  all_goals go_ret
  all_goals exact ⟨rfl, rfl⟩
set_option maxHeartbeats 400000 in
theorem isnot_any (b : Nat) (x y : Int) (w : World) (hb : w.heap[b]? = some (.cells #[.int .i64 y] 3 (0, 0))) :
    Calls Tryz.prog 154 #[.int .i64 x, .pointer (some ⟨b, 0, none⟩)] w fun e w' => e = .returned (.bool (decide (x = y))) ∧ w' = w := by
  have hc : w.cell? ⟨b, 0, none⟩ = some (.int .i64 y) := by simp [World.cell?, hb]
  have he : decide (x = y) = (x == y) := rfl
  rw [he]
  go_enter Tryz.func154, Tryz.ntmps154
  go_wp2_with fail
  all_goals go_ret
  all_goals exact ⟨rfl, rfl⟩
theorem findIdx_at {s : List Int} {b : Int → Bool} {i : Nat} (hi : i < s.length) (h : ∀ x ∈ s.take i, b x = false) (hb : b s[i] = true) : s.findIdx b = i := by
  rw [List.findIdx_eq hi]
  refine ⟨hb, fun j hj => h _ ?_⟩
  rw [List.mem_take_iff_getElem]
  exact ⟨j, by omega, rfl⟩
set_option maxHeartbeats 400000 in
theorem place_any (q : Nat) (s : List Int) (F : FuncId) (caps : Array Value) (b : Int → Bool) (w : World) (hs : s.length ≤ 1000000) (hR : Rn 1 X 94 G q s w) (hF : ∀ args w', (callFunc F args).run Tryz.prog w' = .ok (.enter F args) w')
    (hcl : ∀ x, Calls Tryz.prog F (#[.int .i64 x] ++ caps) w fun e w'' => e = .returned (.bool (b x)) ∧ w'' = w) :
    Calls Tryz.prog 130 #[.pointer (some ⟨q, 1, none⟩), .func (.func F) #[] caps] w fun e w' => e = .returned (.int .i64 (s.findIdx b)) ∧ w' = w := by
  obtain ⟨a, cap, hc, _, hd, _⟩ := hR.cell
  obtain ⟨a', cap', e', _, _, _, k1⟩ := hd
  cases e'
  obtain ⟨m, HM⟩ : ∃ m, Hid (s.findIdx b = m) := ⟨_, rfl⟩
  rw [HM.out]
  go_enter Tryz.func130, Tryz.ntmps130
  go_wp2_with fail
  go_loopg [12] s.length (fun gk t12 wr => ∃ i : Nat, i + gk = s.length ∧ t12 = .int .i64 i ∧ (∀ x ∈ s.take i, b x = false) ∧ wr = w)
  case atStart => exact ⟨0, by omega, rfl, by simp, rfl⟩
  case round =>
    obtain ⟨i, hi, rfl, hx, rfl⟩ := hrel
    by_cases hlt : (i : Int) < s.length
    · have i0 : (0 : Int) ≤ i := by omega
      have hil : i < s.length := by omega
      rcases k1 with k1 | ⟨g1, o1, rfl, k1⟩
      · omega
      have c1 := k1 i hil
      have hb := hcl s[i]
      have hat := fun e => findIdx_at hil hx e
      have hns : b s[i] = false → ∀ x ∈ s.take (i + 1), b x = false := fun e x hm => by
        rw [List.take_add_one, List.getElem?_eq_getElem hil] at hm
        rcases List.mem_append.1 hm with hm | hm
        · exact hx x hm
        · have e' : x = s[i] := by simpa using hm
          rw [e']; exact e
      clear k1 hcl
      generalize s[i] = y at *
      cases hbk : b y
      case false =>
        have hns := hns hbk
        rw [hbk] at hb
        clear hat
        go_wp2_with fail
        refine hb.mono ?_
        rintro e w1 ⟨rfl, rfl⟩
        go_wp2_with fail
        go_roundg (gk - 1)
        case rel => exact ⟨i + 1, by omega, by go_num, hns, rfl⟩
        case measure => omega
      case true =>
        have hat := hat hbk
        rw [hbk] at hb
        rw [HM.out] at hat
        subst hat
        clear hns
        go_wp2_with fail
        refine hb.mono ?_
        rintro e w1 ⟨rfl, rfl⟩
        go_wp2_with fail
        go_ret
        exact ⟨rfl, rfl⟩
    · obtain rfl : i = s.length := by omega
      have hf : s.findIdx b = s.length := by
        rw [List.findIdx_eq_length]
        intro x hm
        exact hx x (by rw [List.take_length]; exact hm)
      rw [HM.out] at hf
      subst hf
      go_wp2_with fail
      go_ret
      exact ⟨rfl, rfl⟩
structure Res (w : World) (v : Value) (l : List Int) (w' : World) : Prop where
  rd : Rd .i64 v l w'
  own : ∀ g, v.ownBlock = some g → w.heap.size ≤ g ∧ g < w'.heap.size
theorem Wn.of' {k : IntKind} {E : TypeId} {B : Nat} {v : Value} {l : List Int} {w : World} (h : w.ownsRow B E 1 v (0 + l.length) ([] ++ l.map (Value.int k))) (hn : v ≠ .slice none 0 0) :
    ∃ g cap, v = .slice (some ⟨g, 0, none⟩) l.length cap ∧ B ≤ g ∧ g < w.heap.size ∧ l.length ≤ cap ∧ cap ≤ maxLen ∧ Wn k g l w := by
  rw [Nat.zero_add, List.nil_append] at h
  rcases Wn.of h with ⟨e, _⟩ | h
  · exact absurd e hn
  · exact h
set_option maxRecDepth 100000 in
set_option maxHeartbeats 1000000 in
theorem fshuffle_any (w0 : World) (q : Nat) (a : Option Addr) (cap : Nat) (l m : List Int) (v : Value) (s : List Int) (w : World) (hl : l.length ≤ 1000000) (hR : Rd .u64 (.slice a l.length cap) l w0) (h : Lf w0 q (.slice a l.length cap) l m w) (hm : Ok m) (hs : s.length ≤ 1000000) (hv : Rd .i64 v s w) :
    Calls Tryz.prog 98 #[.pointer (some ⟨q, 0, none⟩), v] w fun e w' => (∃ v', e = .returned v' ∧ Res w v' (shufS s m).1 w') ∧ Lf w0 q (.slice a l.length cap) l (shufS s m).2 w' ∧ But w.heap.size q w w' := by
  obtain ⟨i0, hi, hz0, hz1, hz2⟩ := info_parts Tryz.infoInt
  have hv' := hv
  obtain ⟨va, vcap, rfl, hv1, hv2, hv3, _⟩ := hv'
  cases va with
  | none =>
    obtain rfl := hv3 rfl
    obtain rfl := List.length_eq_zero_iff.1 (Nat.le_zero.1 hv1)
    go_enter Tryz.func98, Tryz.ntmps98
    go_wp2_with (at_builtin; refine wpList_append_own_none rfl (.tmp 10) (.tmp 11) 82 rfl w.heap.size 3 i0 1 Tryz.underlying82 hi _ 0 [] rfl (World.ownsRow_made w #[] 0 (Nat.le_refl _) (Nat.zero_le _) rfl) rfl ?_)
    go_loopg [6] 0 (fun gk t6 wr => t6 = .int .i64 (-1) ∧ wr = w.alloc (.cells #[] 3))
    case atStart => exact ⟨rfl, rfl⟩
    case round =>
      obtain ⟨rfl, rfl⟩ := hrel
      go_wp2_with fail
      go_ret
      have hb : Below w.heap.size w (w.alloc (.cells #[] 3)) := (Below.refl _ _).alloc (Nat.le_refl _) _
      refine ⟨⟨_, rfl, ⟨_, 0, rfl, Nat.le_refl _, Nat.zero_le _, (fun e => by cases e), Or.inl rfl⟩, fun g hg => ?_⟩, h.later hb, But.of hb⟩
      cases hg
      exact ⟨Nat.le_refl _, by simp⟩
  | some ad =>
    have hc := hv.cells
    have hc2 : ∀ (j : Nat) (u : Value), (s.map (Value.int .i64))[j]? = some u → (w.alloc (.cells #[] 3)).cell? (ad.add j) = some u := fun j u hu => (World.cell?_of_block (w := w) (Below.heap_alloc _ _ _ (World.block_lt_of_cell? _ _ (hc j u hu)))).trans (hc j u hu)
    clear hc hv hv3
    go_enter Tryz.func98, Tryz.ntmps98
    go_wp2_with (at_builtin; refine wpList_append_own _ rfl (.tmp 10) (.tmp 11) 82 rfl w.heap.size 3 i0 (.int .i64 0) 1 8 Tryz.underlying82 hi hz0 hz1 hz2 rfl (by decide) _ 0 [] rfl (World.ownsRow_made w #[] 0 (Nat.le_refl _) (Nat.zero_le _) rfl) ad s.length vcap (s.map (Value.int .i64)) rfl (by simp) hc2 (oneCells .i64 s) (by unfold maxLen; omega) (by omega) (by simp) ?_; intro v w1 hown hgr hnil; obtain ⟨g, gcap, rfl, hg1, hg2, hc1, hc3, hw⟩ := Wn.of' hown (fun e => by have := hnil.1 e; cases this.1))
    have hb : Below w.heap.size w w1 := ((Below.refl _ w).alloc (Nat.le_refl _) _).grown hgr (by simp) (fun k hk => by cases hk; exact Nat.le_refl _)
    have h1 := h.later hb
    have hz := hb.size
    have hpz := h.lt
    clear hown hgr hnil hc2 h
    go_loopg [6] s.length (fun gk t6 wr => ∃ (j : Int) (s' l' : List Int), t6 = .int .i64 j ∧ j ≤ gk ∧ -1 ≤ j ∧ j < s.length ∧ s'.length = s.length ∧ Ok l' ∧ shufGo j.toNat s' l' = shufS s m ∧ Wn .i64 g s' wr ∧ Lf w0 q (.slice a l.length cap) l l' wr ∧ But w.heap.size q w wr ∧ w1.heap.size ≤ wr.heap.size)
    case atStart => exact ⟨(s.length : Int) - 1, s, m, rfl, by omega, by omega, by omega, rfl, hm, by rw [shufS]; congr 1; omega, hw, h1, But.of hb, Nat.le_refl _⟩
    case round =>
      obtain ⟨j, s', l', rfl, hj1, hj2, hj3, hsl, hok, hsh, hW, hL, hB, hZ⟩ := hrel
      by_cases hj : 1 ≤ j
      · obtain ⟨J, rfl⟩ : ∃ J : Nat, j = J := ⟨j.toNat, by omega⟩
        have hst := shufGo_step J (by omega) s' l'
        have hr := belowS_range l' ((J : Int) + 1)
        obtain ⟨k, hk⟩ : ∃ k : Nat, (belowS l' ((J : Int) + 1)).1 = k := ⟨(belowS l' ((J : Int) + 1)).1.toNat, by omega⟩
        rw [hk] at hr hst
        have hkJ : k ≤ J := by have := hr.2 (by omega); omega
        have hkl : k < s'.length := by omega
        have hJl : J < s'.length := by omega
        have HST : Hid _ := hst
        have HK : Hid _ := hk
        clear hst hr hk
        go_wp2_with fail
        refine (fbelow_any w0 q a cap l l' ((J : Int) + 1) _ hl hR hL hok (by omega)).mono ?_
        rw [HK.out]
        rintro e w2 ⟨rfl, hL2, hB2⟩
        have hgp : g ≠ q := by omega
        have hW2 := hW.keep (hB2.block g (by omega) hgp)
        have c1 := hW2.cell J hJl
        have c2 := hW2.cell k hkl
        have f1 := hW2.free J hJl
        have f2 := hW2.free k hkl
        have i0 : (0 : Int) ≤ J := by omega
        have i1 : (J : Int) < s.length := by omega
        have i2 : (0 : Int) ≤ k := by omega
        have i3 : (k : Int) < s.length := by omega
        have hW3 := (hW2.set J hJl s'[k]).set k (by rw [List.length_set]; exact hkl) s'[J]
        rw [sw_eq s' J k hJl hkl] at hW3
        have HW3 : Hid _ := hW3
        clear hW3
        have c3 := (hW2.set J hJl s'[k]).cell k (by rw [List.length_set]; exact hkl)
        generalize (s'.set J s'[k])[k]'(by rw [List.length_set]; exact hkl) = y at c3
        generalize s'[k] = x1 at *
        generalize s'[J] = x2 at *
        go_wp2_with fail
        go_roundg (gk - 1)
        case rel =>
          refine ⟨(J : Int) - 1, sw s' J k, (belowS l' ((J : Int) + 1)).2, by go_num, by omega, by omega, by omega, by rw [sw_length]; exact hsl, hok.below _, ?_, HW3.out, ?_, ?_, ?_⟩
          · rw [show ((J : Int) - 1).toNat = J - 1 by omega, ← hsh]
            exact HST.out.symm
          · exact hL2.keep ((Below.heap_setCell _ _ _ _ (show q ≠ g by omega)).trans (Below.heap_setCell _ _ _ _ (show q ≠ g by omega))) (((Below.refl _ _).setCell (p := ⟨g, J, none⟩) (show w0.heap.size ≤ g by have := hL.le; omega) _).setCell (p := ⟨g, k, none⟩) (show w0.heap.size ≤ g by have := hL.le; omega) _)
          · exact ((hB.trans (hB2.mono hB.size)).setCell (q := ⟨g, J, none⟩) (Or.inr hg1) _).setCell (q := ⟨g, k, none⟩) (Or.inr hg1) _
          · have := hB2.size
            simp [World.setCell]
            omega
        case measure => omega
      · go_wp2_with fail
        go_ret
        have e0 : j.toNat = 0 := by omega
        rw [e0, shufGo] at hsh
        rw [← hsh, ← hsl]
        refine ⟨⟨_, rfl, hW.rd (by omega) hc3, fun g' hg' => by cases hg'; exact ⟨hg1, show g < wr.heap.size by omega⟩⟩, hL, hB⟩
set_option maxRecDepth 100000 in
set_option maxHeartbeats 400000 in
theorem fsome_any (w0 : World) (q : Nat) (a : Option Addr) (cap : Nat) (l m : List Int) (v : Value) (s : List Int) (n : Int) (w : World) (hl : l.length ≤ 1000000) (hR : Rd .u64 (.slice a l.length cap) l w0) (h : Lf w0 q (.slice a l.length cap) l m w) (hm : Ok m) (hs : s.length ≤ 1000000) (hn : n < 9223372036854775808) (hv : Rd .i64 v s w) :
    Calls Tryz.prog 136 #[.pointer (some ⟨q, 0, none⟩), v, .int .i64 n] w fun e w' => (∃ v', e = .returned v' ∧ Res w v' (someS s m n).1 w') ∧ Lf w0 q (.slice a l.length cap) l (someS s m n).2 w' ∧ But w.heap.size q w w' := by
  by_cases h1 : n < 1
  · have e : someS s m n = ([], m) := by unfold someS; rw [if_pos h1]
    rw [e]
    go_enter Tryz.func136, Tryz.ntmps136
    go_wp2_with fail
    go_ret
    have hb : Below w.heap.size w (w.alloc (.cells #[] 3)) := (Below.refl _ _).alloc (Nat.le_refl _) _
    refine ⟨⟨_, rfl, ⟨_, 0, rfl, Nat.le_refl _, Nat.zero_le _, (fun e => by cases e), Or.inl rfl⟩, fun g hg => ?_⟩, h.later hb, But.of hb⟩
    cases hg
    exact ⟨Nat.le_refl _, by simp⟩
  · have e : someS s m n = ((shufS s m).1.take n.toNat, (shufS s m).2) := by unfold someS; rw [if_neg h1]
    rw [e]
    clear e
    have hsl := shufS_length s m
    go_enter Tryz.func136, Tryz.ntmps136
    go_wp2_with fail
    refine (fshuffle_any w0 q a cap l m v s _ hl hR h hm hs hv).mono ?_
    rintro e w1 ⟨⟨v', rfl, h2, h3⟩, h4, h5⟩
    have h2' := h2
    obtain ⟨b, bcap, rfl, hc1, hc2, h0, _⟩ := h2'
    rw [hsl] at hc1 h2 h3 ⊢
    have hci : (s.length : Int) ≤ bcap := by omega
    by_cases hm : n ≤ s.length
    · obtain ⟨M, rfl⟩ : ∃ M : Nat, n = M := ⟨n.toNat, by omega⟩
      have hmc : (M : Int) ≤ bcap := by omega
      go_wp2_with fail
      go_ret
      exact ⟨⟨.slice b M bcap, rfl, h2.take M (by omega), fun g hg => h3 g ((ownBlock_slice _ _ _ _ _).trans hg)⟩, h4, h5⟩
    · go_wp2_with fail
      go_ret
      rw [List.take_of_length_le (by omega)]
      exact ⟨⟨.slice b s.length bcap, rfl, h2, h3⟩, h4, h5⟩
end Go.Proofs.YtpoofjnfaijjjaaGreatDoor.Rn
