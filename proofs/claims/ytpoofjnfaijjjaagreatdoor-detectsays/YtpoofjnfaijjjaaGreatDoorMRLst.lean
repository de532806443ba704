/-
  Rows of updates: cells; a row that is appended to. list: what is known of the nodes that are wanted.
-/
import Derived.Test.YtpoofjnfaijjjaaGreatDoorMREqs
import Derived.Maps.AppendAt
import Derived.OwnWalk
import Derived.KernelRfl
namespace Go.Proofs.YtpoofjnfaijjjaaGreatDoor.Ro
open Go.RowKit

theorem Ru.keep {v : Value} {l : List Upd} {w w' : World} (h : Ru v l w) (hw : ∀ g, v.ownBlock = some g → g < w.heap.size → w'.heap[g]? = w.heap[g]?) : Ru v l w' := by
  obtain ⟨a, cap, rfl, h1, h2, h3⟩ := h
  refine ⟨a, cap, rfl, h1, h2, ?_⟩
  rcases h3 with h3 | ⟨g, off, rfl, h3⟩
  · exact Or.inl h3
  · refine Or.inr ⟨g, off, rfl, fun j hj => ?_⟩
    obtain ⟨c0, c1, c2⟩ := h3 j hj
    have hlt : g < w.heap.size := World.block_lt_of_cell? _ _ c0
    have e := hw g rfl hlt
    exact ⟨(World.cell?_of_block (w := w) e).trans c0, (World.cell?_of_block (w := w) e).trans c1, (World.cell?_of_block (w := w) e).trans c2⟩
theorem Ru.below {v : Value} {l : List Upd} {w w' : World} (h : Ru v l w) (hb : Below w.heap.size w w') : Ru v l w' := h.keep fun g _ hg => hb.block g hg


def Upd.cs (u : Upd) : List Value := [.int .i64 u.n, .int .u64 u.i, .int .i64 u.s]
def flat : List Upd → List Value
  | [] => []
  | u :: r => u.cs ++ flat r
theorem flat_length (l : List Upd) : (flat l).length = l.length * 3 := by
  induction l with
  | nil => rfl
  | cons u r ih => simp [flat, Upd.cs, ih]; omega
theorem flat_append (l r : List Upd) : flat (l ++ r) = flat l ++ flat r := by
  induction l with
  | nil => rfl
  | cons u l ih => simp [flat, ih]
theorem flat_one (u : Upd) : flat [u] = u.cs := by simp [flat]
theorem flat_cell (l : List Upd) : ∀ v ∈ flat l, v.oneCell' = true := by
  induction l with
  | nil => intro v hv; cases hv
  | cons u r ih =>
    intro v hv
    simp only [flat, Upd.cs, List.cons_append, List.nil_append, List.mem_cons] at hv
    rcases hv with rfl | rfl | rfl | hv
    · rfl
    · rfl
    · rfl
    · exact ih v hv
theorem flat_get (l : List Upd) : ∀ j (h : j < l.length), (flat l)[j * 3]? = some (.int .i64 l[j].n) ∧ (flat l)[j * 3 + 1]? = some (.int .u64 l[j].i) ∧ (flat l)[j * 3 + 2]? = some (.int .i64 l[j].s) := by
  induction l with
  | nil => intro j h; cases h
  | cons u r ih =>
    intro j h
    cases j with
    | zero => exact ⟨rfl, rfl, rfl⟩
    | succ j =>
      have h' : j < r.length := by simpa using h
      obtain ⟨a, b, c⟩ := ih j h'
      refine ⟨?_, ?_, ?_⟩
      · rw [show (j + 1) * 3 = j * 3 + 3 from by omega]; exact a
      · rw [show (j + 1) * 3 + 1 = j * 3 + 1 + 3 from by omega]; exact b
      · rw [show (j + 1) * 3 + 2 = j * 3 + 2 + 3 from by omega]; exact c

theorem add_off (g off j : Nat) : (⟨g, off, none⟩ : Addr).add j = ⟨g, off + j, none⟩ := by unfold Addr.add; split <;> simp_all

/-- The cells of a slice that reads as l. -/
theorem Ru.cells {g off : Nat} {cap : Nat} {l : List Upd} {w : World} (h : Ru (.slice (some ⟨g, off, none⟩) l.length cap) l w) : ∀ j u, (flat l)[j]? = some u → w.cell? ((⟨g, off, none⟩ : Addr).add j) = some u := by
  intro j u hu
  obtain ⟨_, _, e, _, _, h3⟩ := h
  cases e
  have hj : j < l.length * 3 := by
    rw [← flat_length]
    exact (List.getElem?_eq_some_iff.1 hu).1
  have hq : j / 3 < l.length := by omega
  rcases h3 with h3 | ⟨g', off', e, h3⟩
  · omega
  · cases e
    obtain ⟨a, b, c⟩ := h3 (j / 3) hq
    obtain ⟨a', b', c'⟩ := flat_get l (j / 3) hq
    rw [add_off]
    have hr : j % 3 = 0 ∨ j % 3 = 1 ∨ j % 3 = 2 := by omega
    rcases hr with hr | hr | hr
    · have e : j = j / 3 * 3 := by omega
      rw [← e] at a a'
      rw [hu] at a'
      rw [a, ← a']
    · have e : j = j / 3 * 3 + 1 := by omega
      rw [← e] at b'
      rw [hu] at b'
      rw [Nat.add_assoc, ← e] at b
      rw [b, ← b']
    · have e : j = j / 3 * 3 + 2 := by omega
      rw [← e] at c'
      rw [hu] at c'
      rw [Nat.add_assoc, ← e] at c
      rw [c, ← c']

/-- The row v, of a block from B on, holds the updates l, and may be appended to. -/
def Own (B : Nat) (v : Value) (l : List Upd) (w : World) : Prop := w.ownsRow B 39 3 v l.length (flat l)
theorem Own.ru {B : Nat} {v : Value} {l : List Upd} {w : World} (h : Own B v l w) : Ru v l w := by
  rcases h.2 with ⟨rfl, h0⟩ | ⟨g, cap, cur, rfl, hb, hg, h1, h2, h3, h4⟩
  · exact ⟨none, 0, by rw [h0], by omega, by unfold maxLen; omega, Or.inl h0⟩
  · refine ⟨_, cap, rfl, h1, h2, Or.inr ⟨g, 0, rfl, fun j hj => ?_⟩⟩
    obtain ⟨a, b, c⟩ := flat_get l j hj
    have k := World.ownsRow.cells h (g := g) rfl
    have a := k _ _ a
    have b := k _ _ b
    have c := k _ _ c
    rw [add_off] at a b c
    rw [Nat.add_assoc, Nat.add_assoc]
    exact ⟨a, b, c⟩
theorem Own.keep {B : Nat} {v : Value} {l : List Upd} {w w' : World} (h : Own B v l w) (e : ∀ g, v.ownBlock = some g → g < w.heap.size → w'.heap[g]? = w.heap[g]?) : Own B v l w' := by
  refine ⟨h.1, ?_⟩
  rcases h.2 with hn | ⟨g, cap, cur, rfl, hb, hg, rest⟩
  · exact Or.inl hn
  · exact Or.inr ⟨g, cap, cur, rfl, hb, (e g rfl (Array.getElem?_eq_some_iff.1 hg).1).trans hg, rest⟩
theorem Own.below {B : Nat} {v : Value} {l : List Upd} {w w' : World} (h : Own B v l w) (b : Below w.heap.size w w') : Own B v l w' := h.keep fun g _ hg => b.block g hg
theorem Own.lt {B : Nat} {v : Value} {l : List Upd} {w : World} (h : Own B v l w) : ∀ g, v.ownBlock = some g → B ≤ g ∧ g < w.heap.size := World.ownsRow.lt h
theorem Own.len {B : Nat} {v : Value} {l : List Upd} {w : World} (h : Own B v l w) (hv : v ≠ .slice none 0 0) : ∃ g cap, v = .slice (some ⟨g, 0, none⟩) l.length cap ∧ l.length ≤ cap ∧ cap ≤ maxLen ∧ B ≤ g ∧ g < w.heap.size := by
  rcases h.2 with ⟨e, _⟩ | ⟨g, cap, cur, rfl, hb, hg, h1, h2, _⟩
  · exact absurd e hv
  · exact ⟨g, cap, rfl, h1, h2, hb, (Array.getElem?_eq_some_iff.1 hg).1⟩
theorem Own.empty {B g : Nat} {w : World} (h : w.heap[g]? = some (.cells #[] 39 (0, 0))) (hB : B ≤ g) : Own B (.slice (some ⟨g, 0, none⟩) 0 0) [] w :=
  ⟨rfl, Or.inr ⟨g, 0, #[], rfl, hB, h, Nat.le_refl _, Nat.zero_le _, rfl, rfl⟩⟩

theorem Own.nil (B : Nat) (w : World) : Own B (.slice none 0 0) [] w := ⟨rfl, Or.inl ⟨rfl, rfl⟩⟩
theorem Ru.one {T : TypeId} {g : Nat} {u : Upd} {w : World} (h : Bx T g u.n u.i u.s w) : Ru (.slice (some ⟨g, 0, none⟩) 1 1) [u] w :=
  ⟨_, 1, rfl, Nat.le_refl _, by unfold maxLen; omega, Or.inr ⟨g, 0, rfl, fun j hj => by
    have : j = 0 := by simpa using hj
    subst this
    exact ⟨h.c0, h.c1, h.c2⟩⟩⟩
theorem Ru.drop {g cap : Nat} {l : List Upd} {w : World} {L : Nat} (hL : l.length = L) (h : Ru (.slice (some ⟨g, 0, none⟩) L cap) l w) (q : Nat) (hq : q ≤ L) (off : Nat) (ho : (if cap = q then some (⟨g, 0, none⟩ : Addr) else some ⟨g, q * 3, none⟩) = some ⟨g, off, none⟩) :
    Ru (.slice (some ⟨g, off, none⟩) (L - q) (cap - q)) (l.drop q) w := by
  subst hL
  obtain ⟨_, _, e, h1, h2, h3⟩ := h
  cases e
  have hl : (l.drop q).length = l.length - q := List.length_drop
  refine ⟨_, cap - q, by rw [hl], by omega, by omega, ?_⟩
  rcases Nat.eq_or_lt_of_le hq with e | hlt
  · exact Or.inl (by omega)
  · right
    rw [if_neg (by omega)] at ho
    cases ho
    refine ⟨g, q * 3, rfl, fun j hj => ?_⟩
    rcases h3 with h3 | ⟨g', off', e, h3⟩
    · omega
    · cases e
      rw [List.getElem_drop, show q * 3 + j * 3 = 0 + (q + j) * 3 from by omega]
      exact h3 (q + j) (by omega)
theorem Ru.take {g cap : Nat} {l : List Upd} {w : World} {L : Nat} (hL : l.length = L) (h : Ru (.slice (some ⟨g, 0, none⟩) L cap) l w) (q : Nat) (hq : q ≤ L) : Ru (.slice (some ⟨g, 0, none⟩) q cap) (l.take q) w := by
  subst hL
  obtain ⟨_, _, e, h1, h2, h3⟩ := h
  cases e
  have hl : (l.take q).length = q := by rw [List.length_take]; omega
  refine ⟨_, cap, by rw [hl], by omega, h2, ?_⟩
  rcases h3 with h3 | ⟨g', off', e, h3⟩
  · exact Or.inl (by omega)
  · cases e
    refine Or.inr ⟨g, 0, rfl, fun j hj => ?_⟩
    rw [List.getElem_take]
    exact h3 j (by omega)

theorem infoU : (Tryz.prog.info? 39).map (fun i => (i.zero, i.size, i.bytes)) = some (some (.agg #[.int .i64 0, .int .u64 0, .int .i64 0]), 3, 24) := by kernel_rfl

/-- What an append to such a row does. -/
theorem wp_app {o : Oper} {a : Act} {K : Act → World → Prop} {Q : Exit → Act → World → Prop} (w : World) (s x : Operand)
    (ho : o.op = .call { callee := .builtin .append, args := #[s, x], argTypes := #[35, 35] }) (B : Nat) (v : Value) (l : List Upd) (hs : a.eval s = v) (hown : Own B v l w) (hB : B ≤ w.heap.size)
    (g off c : Nat) (r : List Upd) (m : Nat) (hm : m = r.length) (hx : a.eval x = .slice (some ⟨g, off, none⟩) m c) (hu : Ru (.slice (some ⟨g, off, none⟩) m c) r w) (hl : l.length + r.length ≤ 1000000)
    (h : ∀ v' w', Own B v' (l ++ r) w' → w.grownBy w' v.ownBlock → (v'.ownBlock = v.ownBlock ∨ v'.ownBlock = some w.heap.size) → K (a.put o.dst v') w') : o.wp Tryz.prog a w K Q := by
  obtain ⟨i0, hi, hz0, hz1, hz2⟩ := info_parts infoU
  subst hm
  obtain ⟨v', w', hr, h2, h3, _, h5⟩ := run_append_own_at (P := Tryz.prog) w B 35 o.type 39 i0 _ 3 24 Tryz.underlying35 hi hz0 hz1 hz2 rfl (by decide) v l.length (flat l) hown ⟨g, off, none⟩ r.length c (flat r) (flat_length r) hu.cells (flat_cell r) (by unfold maxLen; omega) (by omega) hB
  unfold Oper.wp execOp
  simp only [ho, resolve, invoke, builtin, Sem.run_bind, Sem.run_pure, Result.andThen_ok, List.map_toArray, List.map_cons, List.map_nil, hs, hx, hr]
  refine h v' w' ?_ h3 h5
  unfold Own
  rw [flat_append, List.length_append]
  exact h2
theorem wpList_app {ops : Array Oper} {rest : List Oper} {o : Oper} {a : Act} {Q : Exit → Act → World → Prop} (w : World) (hgd : o.guard = none) (s x : Operand)
    (ho : o.op = .call { callee := .builtin .append, args := #[s, x], argTypes := #[35, 35] }) (B : Nat) (v : Value) (l : List Upd) (hs : a.eval s = v) (hown : Own B v l w) (hB : B ≤ w.heap.size)
    (g off c : Nat) (r : List Upd) (m : Nat) (hm : m = r.length) (hx : a.eval x = .slice (some ⟨g, off, none⟩) m c) (hu : Ru (.slice (some ⟨g, off, none⟩) m c) r w) (hl : l.length + r.length ≤ 1000000)
    (h : ∀ v' w', Own B v' (l ++ r) w' → w.grownBy w' v.ownBlock → (v'.ownBlock = v.ownBlock ∨ v'.ownBlock = some w.heap.size) → wpList Tryz.prog ops Q rest (a.put o.dst v') w') : wpList Tryz.prog ops Q (o :: rest) a w :=
  wpList_plain hgd fun _ hK => wp_app w s x ho B v l hs hown hB g off c r m hm hx hu hl fun v' w' h2 h3 h4 => hK _ _ (h v' w' h2 h3 h4)
theorem step_app {ops : Array Oper} {o : Oper} {a : Act} {K : Act → World → Prop} {Q : Exit → Act → World → Prop} {E : Prop} (w : World) (hgd : o.guard = none) (s x : Operand)
    (ho : o.op = .call { callee := .builtin .append, args := #[s, x], argTypes := #[35, 35] }) (B : Nat) (v : Value) (l : List Upd) (hs : a.eval s = v) (hown : Own B v l w) (hB : B ≤ w.heap.size)
    (g off c : Nat) (r : List Upd) (m : Nat) (hm : m = r.length) (hx : a.eval x = .slice (some ⟨g, off, none⟩) m c) (hu : Ru (.slice (some ⟨g, off, none⟩) m c) r w) (hl : l.length + r.length ≤ 1000000)
    (h : ∀ v' w', Own B v' (l ++ r) w' → w.grownBy w' v.ownBlock → (v'.ownBlock = v.ownBlock ∨ v'.ownBlock = some w.heap.size) → K (a.put o.dst v') w') :
    if Region.wanted o (yielded ops a.tmps) = true then Oper.wp Tryz.prog o a w K Q else E := by
  have hw : Region.wanted o (yielded ops a.tmps) = true := by simp [Region.wanted, hgd]
  rw [if_pos hw]
  exact wp_app w s x ho B v l hs hown hB g off c r m hm hx hu hl h
end Go.Proofs.YtpoofjnfaijjjaaGreatDoor.Ro
namespace Go.Proofs.YtpoofjnfaijjjaaGreatDoor.Ro
open Go.RowKit

theorem Tryz.sizeEs : (Tryz.prog.info? 139).map (·.size) = some 256 := by kernel_rfl
theorem below_alloc (w : World) (o : Obj) : Below w.heap.size w (w.alloc o) := (Below.refl _ _).alloc (Nat.le_refl _) _

theorem part4 (f : Tab) {j : Nat} (hj : j < 64) : (entsC f).toArray.extract (j * 4) (j * 4 + 4) = #[.bool (f j).isSome, .int .i64 (ud (f j)).n, .int .u64 (ud (f j)).i, .int .i64 (ud (f j)).s] := by
  refine Array.ext_getElem? fun c => ?_
  simp only [Array.getElem?_extract, List.getElem?_toArray, List.size_toArray, entsC_length]
  by_cases hc : c < 4
  · rw [if_pos (by omega), entsC_get f hj hc]
    simp [entC]
  · rw [if_neg (by omega)]
    rw [List.getElem?_eq_none (by simp; omega)]

theorem run_index_ents (f : Tab) {j : Nat} (hj : j < 64) (w : World) : (Instr.index 139 (.agg (entsC f).toArray) (.int .i64 j)).run Tryz.prog w = .ok (.agg #[.bool (f j).isSome, .int .i64 (ud (f j)).n, .int .u64 (ud (f j)).i, .int .i64 (ud (f j)).s]) w := by
  have h0 : (0 : Int) ≤ j ∧ (j : Int) < 64 := by omega
  have h1 := part4 f hj
  have h2 : (entsC f).toArray.size = 256 := by simp [entsC_length]
  generalize (entsC f).toArray = A at *
  simp [Instr.index, go_sem, h0, hj, h1]

/-- What is told of the wanted ones, among the first n nodes. -/
def pickN (f : Tab) (b : Nat → Bool) : Nat → List Upd
  | 0 => []
  | n + 1 => pickN f b n ++ if b n then [ud (f n)] else []
theorem pickN_length (f : Tab) (b : Nat → Bool) (n : Nat) : (pickN f b n).length ≤ n := by
  induction n with
  | zero => exact Nat.le_refl _
  | succ n ih => simp only [pickN, List.length_append]; split <;> simp <;> omega

set_option maxRecDepth 100000 in
set_option maxHeartbeats 1000000 in
theorem list_any (p : Nat) (me : Int) (f : Tab) (F : FuncId) (caps : Array Value) (b : Nat → Bool) (w : World) (hR : Rl p me f w) (hF : ∀ args w', (callFunc F args).run Tryz.prog w' = .ok (.enter F args) w')
    (hcl : ∀ (j : Nat) (w' : World), j < 64 → Below w.heap.size w w' → Calls Tryz.prog F (#[.int .i64 j] ++ caps) w' fun e w'' => e = .returned (.bool (b j)) ∧ Below w'.heap.size w' w'') :
    Calls Tryz.prog 112 #[.pointer (some ⟨p, 0, none⟩), .func (.func F) #[] caps] w fun e w' => (∃ v, e = .returned v ∧ Own w.heap.size v (pickN f b 64) w') ∧ Below w.heap.size w w' := by
  have hix := fun {j : Nat} (hj : j < 64) (w' : World) => run_index_ents f hj w'
  go_enter Tryz.func112, Tryz.ntmps112
  go_wp2_with fail
  refine wp_load_mid 139 (.tmp 10) rfl p 1 rfl (entsC f) _ hR.range Tryz.underlying139 rfl (by rw [Tryz.sizeEs, entsC_length]) ?_
  generalize (entsC f).toArray = A at *
  go_wp2_with fail
  go_loopg [5, 12] 64 (fun gk t5 t12 wr => ∃ k : Nat, k + gk = 64 ∧ t12 = .int .i64 k ∧ Own w.heap.size t5 (pickN f b k) wr ∧ Below w.heap.size w wr)
  case atStart => exact ⟨0, by omega, rfl, Own.nil _ _, Below.refl _ _⟩
  case round =>
    obtain ⟨k, hk, rfl, hO, hB⟩ := hrel
    by_cases hlt : (k : Int) < 64
    · have hk' : k < 64 := by omega
      have k0 : (0 : Int) ≤ k := by omega
      have hix' := hix hk'
      clear hix
      have hE : ∀ z, b k = z → Hid (pickN f b (k + 1) = pickN f b k ++ (if z then [ud (f k)] else [])) := fun z e => by subst e; rfl
      have hl := pickN_length f b k
      generalize pickN f b k = M at *
      generalize (f k).isSome = c at *
      generalize ud (f k) = u at *
      have ba := below_alloc wr (.cells #[.bool c, .int .i64 u.n, .int .u64 u.i, .int .i64 u.s] 138)
      have hB1 := hB.trans (ba.mono hB.size)
      have hO1 := hO.below ba
      have hb := hcl k _ hk' hB1
      clear hcl
      have hX : ∃ w1, w1 = wr.alloc (.cells #[.bool c, .int .i64 u.n, .int .u64 u.i, .int .i64 u.s] 138) ∧ w1.heap[wr.heap.size]? = some (.cells #[.bool c, .int .i64 u.n, .int .u64 u.i, .int .i64 u.s] 138 (0, 0)) := ⟨_, rfl, heap_alloc_new _ _⟩
      cases hbk : b k
      case false =>
        have hE := hE _ hbk
        rw [hbk] at hb
        go_wp2_with fail
        refine hb.mono ?_
        rintro e w2 ⟨rfl, hb2⟩
        have hB2 := hB1.trans (hb2.mono hB1.size)
        have hO2 := hO1.below hb2
        go_wp2_with fail
        go_roundg (gk - 1)
        case rel => exact ⟨k + 1, by omega, by go_num, by rw [hE.out]; simpa using hO2, hB2⟩
        case measure => omega
      case true =>
        have hE := hE _ hbk
        rw [hbk] at hb
        obtain ⟨w1, e1, hX⟩ := hX
        rw [← e1] at hb hB1 hO1 ba
        go_wp2_with fail
        rw [← e1]
        refine hb.mono ?_
        rintro e w2 ⟨rfl, hb2⟩
        have hB2 := hB1.trans (hb2.mono hB1.size)
        have hO2 := hO1.below hb2
        have hlt1 : wr.heap.size < w1.heap.size := (Array.getElem?_eq_some_iff.1 hX).1
        have hX2 : w2.heap[wr.heap.size]? = some (.cells #[.bool c, .int .i64 u.n, .int .u64 u.i, .int .i64 u.s] 138 (0, 0)) := (hb2.block _ hlt1).trans hX
        have x1 : w2.cell? ⟨wr.heap.size, 1, none⟩ = some (.int .i64 u.n) := by simp [World.cell?, hX2]
        have x2 : w2.cell? ⟨wr.heap.size, 2, none⟩ = some (.int .u64 u.i) := by simp [World.cell?, hX2]
        have x3 : w2.cell? ⟨wr.heap.size, 3, none⟩ = some (.int .i64 u.s) := by simp [World.cell?, hX2]
        have bc := below_alloc w2 (.cells #[.int .i64 u.n, .int .u64 u.i, .int .i64 u.s] 39)
        have hB3 := hB2.trans (bc.mono hB2.size)
        have hO3 := hO2.below bc
        have hY := Bx.new 39 u.n u.i u.s w2
        have hU := Ru.one (u := u) hY
        have hz3 := hB3.size
        clear hb hb2 hX hX2 e1 ba hB1 hO1 hB2 hO2 bc hY hO hB
        go_wp2_with (at_builtin; refine wpList_app _ rfl (.tmp 19) (.tmp 22) rfl w.heap.size _ M rfl hO3 hz3 w2.heap.size 0 1 [u] 1 rfl rfl hU (by simp; omega) ?_; intro v' w' h1 h3 h4)
        have hB4 : Below w.heap.size w w' := hB3.trans ⟨h3.os, h3.tape, h3.output, h3.size, fun q hq => h3.block q (by omega) (fun e => by have := (hO3.lt q e.symm).1; omega)⟩
        clear h3 h4 hU hO3 hB3
        go_roundg (gk - 1)
        case rel => exact ⟨k + 1, by omega, by go_num, by rw [hE.out]; simpa using h1, hB4⟩
        case measure => omega
    · obtain rfl : k = 64 := by omega
      go_wp2_with fail
      go_ret
      exact ⟨⟨_, rfl, hO⟩, hB⟩
end Go.Proofs.YtpoofjnfaijjjaaGreatDoor.Ro
