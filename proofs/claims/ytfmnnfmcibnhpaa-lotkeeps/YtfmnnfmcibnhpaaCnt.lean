/-
  Counts in a map; what is shuffled has the same things.
-/
import Derived.Test.YtfmnnfmcibnhpaaRfs
import Derived.Maps.OwnOps
import Derived.Maps.OwnSet
namespace Go.Proofs.Ytfmnnfmcibnhpaa
open Go.RowKit Go.Maps

theorem sw_perm (s : List Int) (i k : Nat) (hi : i < s.length) (hk : k < s.length) : (sw s i k).Perm s := by
  rw [← sw_eq s i k hi hk]
  exact List.set_set_perm hi hk
theorem shufGo_perm (i : Nat) : ∀ s l, i < s.length → (shufGo i s l).1.Perm s := by
  induction i with
  | zero => intro s l _; exact List.Perm.refl _
  | succ i ih =>
    intro s l h
    have hr := belowS_range l ((i : Int) + 2)
    have hk := hr.2 (by omega)
    rw [shufGo]
    exact (ih _ _ (by rw [sw_length]; omega)).trans (sw_perm s (i + 1) _ h (by omega))
theorem shufS_perm (s l : List Int) : (shufS s l).1.Perm s := by
  unfold shufS
  rcases Nat.eq_zero_or_pos s.length with h | h
  · rw [h]; exact List.Perm.refl _
  · exact shufGo_perm _ _ _ (by omega)
theorem someS_take (s l : List Int) (n : Nat) : (someS s l n).1 = (shufS s l).1.take (min n s.length) := by
  unfold someS
  split
  · have : n = 0 := by omega
    subst this
    simp
  · rw [Int.toNat_natCast]
    rcases Nat.le_total n s.length with h | h
    · rw [Nat.min_eq_left h]
    · rw [Nat.min_eq_right h, List.take_of_length_le (by rw [shufS_length]; exact h), List.take_of_length_le (by rw [shufS_length]; exact Nat.le_refl _)]

theorem law3 : Keyed Try.prog 3 := int_keyed Try.underlying3
theorem zero3 (w : World) : (zeroValue 3).run Try.prog w = .ok (.int .i64 0) w := by kernel_rfl

/-- Block b is a map of at most n entries, which has c x at x. -/
structure Cnt (c : Int → Int) (b n : Nat) (D : DataW Unit) (w : World) : Prop where
  own : w.ownsMap Try.prog 3 (plainElem Try.prog 3) b n D
  is : ∀ x, D.atKey (.int .i64 x) (.lit (.int .i64 0)) = .lit (.int .i64 (c x))

theorem Cnt.put {c : Int → Int} {b n : Nat} {D : DataW Unit} {w w' : World} (h : Cnt c b n D w) (x : Int) (y : Int) (h' : w'.ownsMap Try.prog 3 (plainElem Try.prog 3) b (n + 1) (D.put (.int .i64 x) (.lit (.int .i64 y)))) (c' : Int → Int) (h1 : c' x = y) (h2 : ∀ z, z ≠ x → c' z = c z) :
    Cnt c' b (n + 1) (D.put (.int .i64 x) (.lit (.int .i64 y))) w' := by
  refine ⟨h', fun z => ?_⟩
  by_cases e : z = x
  · subst e
    rw [atKey_put_same h.own.isMap (show WideAt.IsKeyLit (.int .i64 z) from trivial), h1]
  · rw [atKey_put_other (fun e' => e (by cases e'; rfl)), h.is z, h2 z e]

def cnt (l : List Int) (x : Int) : Int := (l.count x : Int)
theorem cnt_nil (x : Int) : cnt [] x = 0 := rfl
theorem cnt_take (l : List Int) (i : Nat) (hi : i < l.length) (x : Int) : cnt (l.take (i + 1)) x = cnt (l.take i) x + if l[i] = x then 1 else 0 := by
  unfold cnt
  rw [List.take_add_one, List.getElem?_eq_getElem hi, List.count_append]
  simp [List.count_singleton]
  split <;> rfl
theorem cnt_le (l : List Int) (x : Int) : 0 ≤ cnt l x ∧ cnt l x ≤ l.length := by
  unfold cnt
  have := List.count_le_length (a := x) (l := l)
  omega
theorem cnt_perm {l s : List Int} (h : s.Perm l) (x : Int) : cnt s x = cnt l x := by
  unfold cnt; rw [h.count_eq]

/-- 'append([]int{}, u...)'. -/
theorem wpList_append_copy {ops : Array Oper} {rest : List Oper} {o : Oper} {a : Go.Act} {Q : Exit → Go.Act → World → Prop} {w : World} (hgd : o.guard = none) (s x : Operand)
    (ho : o.op = .call { callee := .builtin .append, args := #[s, x], argTypes := #[29, 29] }) (v : Value) (B : Nat) (hs : a.eval s = v) (hown : w.ownsRow B 3 1 v 0 []) (hvn : v ≠ .slice none 0 0) (hB : B ≤ w.heap.size)
    (u : Value) (l : List Int) (hx : a.eval x = u) (hu : Rd .i64 u l w) (hl : l.length ≤ 1000000)
    (h : ∀ v' w', Rd .i64 v' l w' → (∃ g gcap, v' = .slice (some ⟨g, 0, none⟩) l.length gcap) → w.grownBy w' v.ownBlock → wpList Try.prog ops Q rest (a.put o.dst v') w') :
    wpList Try.prog ops Q (o :: rest) a w := by
  obtain ⟨i0, hi, hz0, hz1, hz2⟩ := info_parts Try.info3
  have hu' := hu
  obtain ⟨ua, ucap, rfl, h1, h2, h3, _⟩ := hu'
  cases ua with
  | none =>
    obtain rfl := h3 rfl
    obtain rfl := List.length_eq_zero_iff.1 (Nat.le_zero.1 h1)
    refine wpList_append_own_none hgd s x 29 ho B 3 i0 1 Try.underlying29 hi v 0 [] hs hown hx ?_
    have hR : Rd .i64 v [] w := Rd.of (l := []) hown
    refine h v w hR ?_ ⟨rfl, rfl, rfl, Nat.le_refl _, fun _ _ _ => rfl⟩
    rcases Wn.of (l := []) (k := .i64) hown with ⟨e, _⟩ | ⟨g, gcap, e, _⟩
    · exact absurd e hvn
    · exact ⟨g, gcap, e⟩
  | some ad =>
    refine wpList_append_own w hgd s x 29 ho B 3 i0 (.int .i64 0) 1 8 Try.underlying29 hi hz0 hz1 hz2 rfl (by decide) v 0 [] hs hown ad l.length ucap (l.map (Value.int .i64)) hx (by simp) hu.cells (oneCells .i64 l) (by unfold maxLen; omega) (by omega) hB ?_
    intro v' w' hown' hgr hnil
    obtain ⟨g, gcap, e, _, _, k1, k2, hw⟩ := Wn.of' hown' (fun e => hvn (hnil.1 e).1)
    exact h v' w' (by rw [e]; exact hw.rd k1 k2) ⟨g, gcap, e⟩ hgr
end Go.Proofs.Ytfmnnfmcibnhpaa
