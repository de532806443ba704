/-
  The closure by which rumors are sorted. Rows of rumors: cells; a row that is appended to; a row that is sorted.
-/
import Derived.Test.YtpoofjnfaijjjaaGreatDoorMUQmt
import Derived.Deep.RegionHeld3
import Derived.Shelf.SlSortCmp.NoneTotal
import Derived.Maps.AppendAt
import Derived.OwnWalk
import Derived.KernelRfl
namespace Go.Proofs.YtpoofjnfaijjjaaGreatDoor.Ru
open Go.RowKit Go.Sort Go.Proofs.YtpoofjnfaijjjaaGreatDoor.Ro

theorem cell_pair (V : World) (a b : Value) (T : TypeId) : (V.alloc (.cells #[a, b] T)).drew.cell? ⟨V.heap.size, 0, none⟩ = some a ∧ (V.alloc (.cells #[a, b] T)).drew.cell? ⟨V.heap.size, 1, none⟩ = some b := by
  have h := heap_alloc_new V (.cells #[a, b] T)
  have h' : (V.alloc (.cells #[a, b] T)).drew.heap[V.heap.size]? = some (.cells #[a, b] T) := h
  clear h
  generalize (V.alloc (.cells #[a, b] T)).drew = w at *
  constructor <;> simp [World.cell?, h']

set_option maxHeartbeats 1000000 in
theorem closure_any (x y : Itm) (W : World) : Calls Tryz.prog 117 #[.agg #[.int .i64 x.1, .int .u64 x.2.1, .int .i64 x.2.2.1, .int .i64 x.2.2.2], .agg #[.int .i64 y.1, .int .u64 y.2.1, .int .i64 y.2.2.1, .int .i64 y.2.2.2]] W fun e w' => e = .returned (.int .i64 (cmpI x y)) ∧ ∃ q os', w' = grow (W.drewN q) os' := by
  obtain ⟨x1, x2, x3, x4⟩ := x
  obtain ⟨y1, y2, y3, y4⟩ := y
  unfold cmpI
  simp only
  have hV : ∃ V, Hid (V = (W.alloc (.cells #[.int .i64 x1, .int .u64 x2, .int .i64 x3, .int .i64 x4] 145)).alloc (.cells #[.int .i64 y1, .int .u64 y2, .int .i64 y3, .int .i64 y4] 145)) := ⟨_, rfl⟩
  obtain ⟨V, HV⟩ := hV
  have hp : V.heap[W.heap.size]? = some (.cells #[.int .i64 x1, .int .u64 x2, .int .i64 x3, .int .i64 x4] 145) := by
    rw [HV.out]
    exact ((((Below.refl (W.alloc _).heap.size (W.alloc _)).alloc (Nat.le_refl _) _)).block _ (by simp)).trans (heap_alloc_new W _)
  have hq : V.heap[W.heap.size + 1]? = some (.cells #[.int .i64 y1, .int .u64 y2, .int .i64 y3, .int .i64 y4] 145) := by
    rw [HV.out]
    have := heap_alloc_new (W.alloc (.cells #[.int .i64 x1, .int .u64 x2, .int .i64 x3, .int .i64 x4] 145)) (.cells #[.int .i64 y1, .int .u64 y2, .int .i64 y3, .int .i64 y4] 145)
    simpa using this
  have a0 : V.cell? ⟨W.heap.size, 0, none⟩ = some (.int .i64 x1) := by simp [World.cell?, hp]
  have a3 : V.cell? ⟨W.heap.size, 3, none⟩ = some (.int .i64 x4) := by simp [World.cell?, hp]
  have b0 : V.cell? ⟨W.heap.size + 1, 0, none⟩ = some (.int .i64 y1) := by simp [World.cell?, hq]
  have b3 : V.cell? ⟨W.heap.size + 1, 3, none⟩ = some (.int .i64 y4) := by simp [World.cell?, hq]
  clear hp hq
  have hs := cell_pair V (.int .i64 (cmpS x4 y4)) (.int .i64 (cmpS x1 y1)) 3
  go_enter Tryz.func117, Tryz.ntmps117
  go_wp2_with fail
  rw [← HV.out]
  generalize W.heap.size = p at *
  generalize p + 1 = q at *
  go_region_held3 (fun w' => w'.cell? ⟨p, 0, none⟩ = some (.int .i64 x1) ∧ w'.cell? ⟨p, 3, none⟩ = some (.int .i64 x4) ∧ w'.cell? ⟨q, 0, none⟩ = some (.int .i64 y1) ∧ w'.cell? ⟨q, 3, none⟩ = some (.int .i64 y4)) (go_keep) ((first
    | (go_at_call 119; refine (compare_any _ _ _).mono ?_; rintro e w' ⟨rfl, rfl⟩)
    | (go_at_call 118; refine (or_any _ _ (cmpS x4 y4) (cmpS x1 y1) _ hs.1 hs.2).mono ?_; rintro e w' ⟨rfl, rfl⟩)))
  all_goals go_wp2_with fail
  all_goals go_ret
  all_goals exact ⟨rfl, 1, _, by rw [HV.out, alloc_eq_grow, alloc_eq_grow, alloc_eq_grow, grow_grow, grow_grow]; rfl⟩
end Go.Proofs.YtpoofjnfaijjjaaGreatDoor.Ru
namespace Go.Proofs.YtpoofjnfaijjjaaGreatDoor.Ru
open Go.RowKit Go.Sort Go.Proofs.YtpoofjnfaijjjaaGreatDoor.Ro

def itmV (x : Itm) : Value := .agg #[.int .i64 x.1, .int .u64 x.2.1, .int .i64 x.2.2.1, .int .i64 x.2.2.2]

/-- The slice v reads as the rumors l. -/
def Ri (v : Value) (l : List Itm) (w : World) : Prop :=
  ∃ a cap, v = .slice a l.length cap ∧ l.length ≤ cap ∧ cap ≤ maxLen ∧ (l.length = 0 ∨ ∃ g off, a = some ⟨g, off, none⟩ ∧ ∀ j (hj : j < l.length),
    w.cell? ⟨g, off + j * 4, none⟩ = some (.int .i64 l[j].1) ∧ w.cell? ⟨g, off + j * 4 + 1, none⟩ = some (.int .u64 l[j].2.1) ∧ w.cell? ⟨g, off + j * 4 + 2, none⟩ = some (.int .i64 l[j].2.2.1) ∧ w.cell? ⟨g, off + j * 4 + 3, none⟩ = some (.int .i64 l[j].2.2.2))
theorem Ri.keep {v : Value} {l : List Itm} {w w' : World} (h : Ri v l w) (hw : ∀ g, v.ownBlock = some g → g < w.heap.size → w'.heap[g]? = w.heap[g]?) : Ri v l w' := by
  obtain ⟨a, cap, rfl, h1, h2, h3⟩ := h
  refine ⟨a, cap, rfl, h1, h2, ?_⟩
  rcases h3 with h3 | ⟨g, off, rfl, h3⟩
  · exact Or.inl h3
  · refine Or.inr ⟨g, off, rfl, fun j hj => ?_⟩
    obtain ⟨c0, c1, c2, c3⟩ := h3 j hj
    have hlt : g < w.heap.size := World.block_lt_of_cell? _ _ c0
    have e := hw g rfl hlt
    exact ⟨(World.cell?_of_block (w := w) e).trans c0, (World.cell?_of_block (w := w) e).trans c1, (World.cell?_of_block (w := w) e).trans c2, (World.cell?_of_block (w := w) e).trans c3⟩
theorem Ri.below {v : Value} {l : List Itm} {w w' : World} (h : Ri v l w) (hb : Below w.heap.size w w') : Ri v l w' := h.keep fun g _ hg => hb.block g hg
theorem Ri.nil (w : World) : Ri (.slice none 0 0) [] w := ⟨none, 0, rfl, Nat.le_refl _, Nat.zero_le _, Or.inl rfl⟩

def flatI : List Itm → List Value
  | [] => []
  | x :: r => encI x ++ flatI r
theorem flatI_length (l : List Itm) : (flatI l).length = l.length * 4 := by
  induction l with
  | nil => rfl
  | cons u r ih => simp [flatI, encI, ih]; omega
theorem flatI_append (l r : List Itm) : flatI (l ++ r) = flatI l ++ flatI r := by
  induction l with
  | nil => rfl
  | cons u l ih => simp [flatI, ih]
theorem flatI_cell (l : List Itm) : ∀ v ∈ flatI l, v.oneCell' = true := by
  induction l with
  | nil => intro v hv; cases hv
  | cons u r ih =>
    intro v hv
    rcases List.mem_append.1 hv with hv | hv
    · exact encI_one u v hv
    · exact ih v hv
theorem flatI_get (l : List Itm) : ∀ j c (h : j < l.length), c < 4 → (flatI l)[j * 4 + c]? = (encI l[j])[c]? := by
  induction l with
  | nil => intro j c h; cases h
  | cons u r ih =>
    intro j c h hc
    cases j with
    | zero =>
      rw [flatI, List.getElem?_append_left (by rw [encI_length]; omega), Nat.zero_mul, Nat.zero_add]
      rfl
    | succ j =>
      have h' : j < r.length := by simpa using h
      rw [flatI, List.getElem?_append_right (by rw [encI_length]; omega), encI_length, show (j + 1) * 4 + c - 4 = j * 4 + c from by omega, ih j c h' hc]
      rfl
theorem add_offI (g off j : Nat) : (⟨g, off, none⟩ : Addr).add j = ⟨g, off + j, none⟩ := by unfold Addr.add; split <;> simp_all
theorem Ri.cells {g off : Nat} {cap : Nat} {l : List Itm} {w : World} (h : Ri (.slice (some ⟨g, off, none⟩) l.length cap) l w) : ∀ j u, (flatI l)[j]? = some u → w.cell? ((⟨g, off, none⟩ : Addr).add j) = some u := by
  intro j u hu
  obtain ⟨_, _, e, _, _, h3⟩ := h
  cases e
  have hj : j < l.length * 4 := by
    rw [← flatI_length]
    exact (List.getElem?_eq_some_iff.1 hu).1
  have hq : j / 4 < l.length := by omega
  rcases h3 with h3 | ⟨g', off', e, h3⟩
  · omega
  · cases e
    obtain ⟨a, b, c, d⟩ := h3 (j / 4) hq
    rw [add_offI]
    have key : ∀ k, k < 4 → j % 4 = k → w.cell? ⟨g, off + (j / 4) * 4 + k, none⟩ = (encI l[j / 4])[k]? → w.cell? ⟨g, off + j, none⟩ = some u := by
      intro k hk e hc
      have e1 : j / 4 * 4 + k = j := by omega
      have := flatI_get l (j / 4) k hq hk
      rw [e1, hu] at this
      rw [Nat.add_assoc, e1] at hc
      rw [hc, ← this]
    have hr : j % 4 = 0 ∨ j % 4 = 1 ∨ j % 4 = 2 ∨ j % 4 = 3 := by omega
    rcases hr with hr | hr | hr | hr
    · exact key 0 (by omega) hr a
    · exact key 1 (by omega) hr b
    · exact key 2 (by omega) hr c
    · exact key 3 (by omega) hr d

/-- The row v, of a block from B on, holds the rumors l (each of type T), and may be appended to. -/
def OwI (T : TypeId) (B : Nat) (v : Value) (l : List Itm) (w : World) : Prop := w.ownsRow B T 4 v l.length (flatI l)
section
variable {T : TypeId} {B : Nat} {v : Value} {l : List Itm} {w w' : World}
theorem OwI.ri (h : OwI T B v l w) : Ri v l w := by
  rcases h.2 with ⟨rfl, h0⟩ | ⟨g, cap, cur, rfl, hb, hg, h1, h2, h3, h4⟩
  · exact ⟨none, 0, by rw [h0], by omega, by unfold maxLen; omega, Or.inl h0⟩
  · refine ⟨_, cap, rfl, h1, h2, Or.inr ⟨g, 0, rfl, fun j hj => ?_⟩⟩
    have key : ∀ k, k < 4 → w.cell? ⟨g, 0 + j * 4 + k, none⟩ = (encI l[j])[k]? := by
      intro k hk
      rw [Nat.zero_add, World.ownsRow.cellAt h (j * 4 + k) (by omega), flatI_get l j k hj hk]
    exact ⟨key 0 (by omega), key 1 (by omega), key 2 (by omega), key 3 (by omega)⟩
theorem OwI.keep (h : OwI T B v l w) (e : ∀ g, v.ownBlock = some g → g < w.heap.size → w'.heap[g]? = w.heap[g]?) : OwI T B v l w' := by
  refine ⟨h.1, ?_⟩
  rcases h.2 with hn | ⟨g, cap, cur, rfl, hb, hg, rest⟩
  · exact Or.inl hn
  · exact Or.inr ⟨g, cap, cur, rfl, hb, (e g rfl (Array.getElem?_eq_some_iff.1 hg).1).trans hg, rest⟩
theorem OwI.below (h : OwI T B v l w) (b : Below w.heap.size w w') : OwI T B v l w' := h.keep fun g _ hg => b.block g hg
theorem OwI.lt (h : OwI T B v l w) : ∀ g, v.ownBlock = some g → B ≤ g ∧ g < w.heap.size := World.ownsRow.lt h
theorem OwI.nil (T : TypeId) (B : Nat) (w : World) : OwI T B (.slice none 0 0) [] w := ⟨rfl, Or.inl ⟨rfl, rfl⟩⟩
theorem OwI.empty {g : Nat} (h : w.heap[g]? = some (.cells #[] T (0, 0))) (hB : B ≤ g) : OwI T B (.slice (some ⟨g, 0, none⟩) 0 0) [] w :=
  ⟨rfl, Or.inr ⟨g, 0, #[], rfl, hB, h, Nat.le_refl _, Nat.zero_le _, rfl, rfl⟩⟩
theorem OwI.mono {C : Nat} (h : OwI T C v l w) (hB : B ≤ C) : OwI T B v l w := by
  refine ⟨h.1, ?_⟩
  rcases h.2 with hn | ⟨g, cap, cur, e, hb, rest⟩
  · exact Or.inl hn
  · exact Or.inr ⟨g, cap, cur, e, Nat.le_trans hB hb, rest⟩
end

/-- Block g is a box of type T, in which a rumor lies. -/
structure Bi (T : TypeId) (g : Nat) (x : Itm) (w : World) : Prop where
  heap : w.heap[g]? = some (.cells #[.int .i64 x.1, .int .u64 x.2.1, .int .i64 x.2.2.1, .int .i64 x.2.2.2] T (0, 0))
section
variable {T : TypeId} {g : Nat} {x : Itm} {w w' : World}
theorem Bi.c0 (h : Bi T g x w) : w.cell? ⟨g, 0, none⟩ = some (.int .i64 x.1) := by simp [World.cell?, h.heap]
theorem Bi.c1 (h : Bi T g x w) : w.cell? ⟨g, 1, none⟩ = some (.int .u64 x.2.1) := by simp [World.cell?, h.heap]
theorem Bi.c2 (h : Bi T g x w) : w.cell? ⟨g, 2, none⟩ = some (.int .i64 x.2.2.1) := by simp [World.cell?, h.heap]
theorem Bi.c3 (h : Bi T g x w) : w.cell? ⟨g, 3, none⟩ = some (.int .i64 x.2.2.2) := by simp [World.cell?, h.heap]
theorem Bi.lt (h : Bi T g x w) : g < w.heap.size := (Array.getElem?_eq_some_iff.1 h.heap).1
theorem Bi.keep (h : Bi T g x w) (e : w'.heap[g]? = w.heap[g]?) : Bi T g x w' := ⟨e.trans h.heap⟩
theorem Bi.below (h : Bi T g x w) (b : Below w.heap.size w w') : Bi T g x w' := h.keep (b.block g h.lt)
theorem Bi.free (h : Bi T g x w) (j : Nat) : w.frozen? ⟨g, j, none⟩ = false := by simp [World.frozen?, h.heap]
theorem Bi.new (T : TypeId) (n i s t : Int) (w : World) : Bi T w.heap.size (n, i, s, t) (w.alloc (.cells #[.int .i64 n, .int .u64 i, .int .i64 s, .int .i64 t] T)) := ⟨heap_alloc_new w _⟩
end
theorem Ri.one {T : TypeId} {g : Nat} {x : Itm} {w : World} (h : Bi T g x w) : Ri (.slice (some ⟨g, 0, none⟩) 1 1) [x] w :=
  ⟨_, 1, rfl, Nat.le_refl _, by unfold maxLen; omega, Or.inr ⟨g, 0, rfl, fun j hj => by
    have : j = 0 := by simpa using hj
    subst this
    exact ⟨h.c0, h.c1, h.c2, h.c3⟩⟩⟩

theorem Tryz.infoI : (Tryz.prog.info? 145).map (fun i => (i.zero, i.size, i.bytes)) = some (some (.agg #[.int .i64 0, .int .u64 0, .int .i64 0, .int .i64 0]), 4, 32) := by kernel_rfl
theorem Tryz.infoJ : (Tryz.prog.info? 153).map (fun i => (i.zero, i.size, i.bytes)) = some (some (.agg #[.int .i64 0, .int .u64 0, .int .i64 0, .int .i64 0]), 4, 32) := by kernel_rfl

/-- What an append to such a row does. -/
theorem wp_appI {S T : TypeId} (hS : Tryz.prog.underlying S = some (.slice T)) (hI : (Tryz.prog.info? T).map (fun i => (i.zero, i.size, i.bytes)) = some (some (.agg #[.int .i64 0, .int .u64 0, .int .i64 0, .int .i64 0]), 4, 32)) {o : Oper} {a : Act} {K : Act → World → Prop} {Q : Exit → Act → World → Prop} (w : World) (s x : Operand)
    (ho : o.op = .call { callee := .builtin .append, args := #[s, x], argTypes := #[S, S] }) (B : Nat) (v : Value) (l : List Itm) (hs : a.eval s = v) (hown : OwI T B v l w) (hB : B ≤ w.heap.size)
    (g off c : Nat) (r : List Itm) (m : Nat) (hm : m = r.length) (hx : a.eval x = .slice (some ⟨g, off, none⟩) m c) (hu : Ri (.slice (some ⟨g, off, none⟩) m c) r w) (hl : l.length + r.length ≤ 1000000)
    (h : ∀ v' w', OwI T B v' (l ++ r) w' → w.grownBy w' v.ownBlock → (v'.ownBlock = v.ownBlock ∨ v'.ownBlock = some w.heap.size) → K (a.put o.dst v') w') : o.wp Tryz.prog a w K Q := by
  obtain ⟨i0, hi, hz0, hz1, hz2⟩ := info_parts hI
  subst hm
  obtain ⟨v', w', hr, h2, h3, _, h5⟩ := run_append_own_at (P := Tryz.prog) w B S o.type T i0 _ 4 32 hS hi hz0 hz1 hz2 rfl (by decide) v l.length (flatI l) hown ⟨g, off, none⟩ r.length c (flatI r) (flatI_length r) hu.cells (flatI_cell r) (by unfold maxLen; omega) (by omega) hB
  unfold Oper.wp execOp
  simp only [ho, resolve, invoke, builtin, Sem.run_bind, Sem.run_pure, Result.andThen_ok, List.map_toArray, List.map_cons, List.map_nil, hs, hx, hr]
  refine h v' w' ?_ h3 h5
  unfold OwI
  rw [flatI_append, List.length_append]
  exact h2
theorem wpList_appI {S T : TypeId} (hS : Tryz.prog.underlying S = some (.slice T)) (hI : (Tryz.prog.info? T).map (fun i => (i.zero, i.size, i.bytes)) = some (some (.agg #[.int .i64 0, .int .u64 0, .int .i64 0, .int .i64 0]), 4, 32)) {ops : Array Oper} {rest : List Oper} {o : Oper} {a : Act} {Q : Exit → Act → World → Prop} (w : World) (hgd : o.guard = none) (s x : Operand)
    (ho : o.op = .call { callee := .builtin .append, args := #[s, x], argTypes := #[S, S] }) (B : Nat) (v : Value) (l : List Itm) (hs : a.eval s = v) (hown : OwI T B v l w) (hB : B ≤ w.heap.size)
    (g off c : Nat) (r : List Itm) (m : Nat) (hm : m = r.length) (hx : a.eval x = .slice (some ⟨g, off, none⟩) m c) (hu : Ri (.slice (some ⟨g, off, none⟩) m c) r w) (hl : l.length + r.length ≤ 1000000)
    (h : ∀ v' w', OwI T B v' (l ++ r) w' → w.grownBy w' v.ownBlock → (v'.ownBlock = v.ownBlock ∨ v'.ownBlock = some w.heap.size) → wpList Tryz.prog ops Q rest (a.put o.dst v') w') : wpList Tryz.prog ops Q (o :: rest) a w :=
  wpList_plain hgd fun _ hK => wp_appI hS hI w s x ho B v l hs hown hB g off c r m hm hx hu hl fun v' w' h2 h3 h4 => hK _ _ (h v' w' h2 h3 h4)

/-! ## Sorted -/
theorem flatK_flatI (l : List Itm) : flatK encI 4 l.toArray = (flatI l).toArray := by
  refine ext_get! (by simp [flatI_length]) fun t ht => ?_
  have ht' : t < l.length * 4 := by simpa using ht
  have hq : t / 4 < l.length := by omega
  rw [get_flatK _ _ _ t (by simpa using ht')]
  have h1 := flatI_get l (t / 4) (t % 4) hq (by omega)
  rw [show t / 4 * 4 + t % 4 = t from by omega] at h1
  have e1 : l.toArray[t / 4]! = l[t / 4] := by simp [hq]
  rw [e1]
  have ht2 : t < (flatI l).length := by rw [flatI_length]; exact ht'
  have hl : t % 4 < (encI l[t / 4]).length := by rw [encI_length]; omega
  rw [List.getElem?_eq_getElem ht2, List.getElem?_eq_getElem hl] at h1
  have h2 : (flatI l)[t] = (encI l[t / 4])[t % 4] := by simpa using h1
  rw [getElem!_pos (encI l[t / 4]) (t % 4) hl, getElem!_pos (flatI l).toArray t (by simpa using ht2), ← h2]
  simp
theorem OwI.holds {T : TypeId} {B g cap : Nat} {l : List Itm} {w : World} (h : OwI T B (.slice (some ⟨g, 0, none⟩) l.length cap) l w) : HoldsK encI 4 w g 0 l.toArray := by
  unfold HoldsK
  rw [flatK_flatI]
  intro j hj
  have hj' : j < (flatI l).length := by simpa using hj
  refine ⟨?_, World.ownsRow.frozenAt h _⟩
  rw [Nat.zero_add, World.ownsRow.cellAt h j (by rw [← flatI_length]; exact hj')]
  simp [hj']
theorem ri_of_holds {g cap : Nat} {d : Array Itm} {w : World} (h : HoldsK encI 4 w g 0 d) (h1 : d.size ≤ cap) (h2 : cap ≤ maxLen) : Ri (.slice (some ⟨g, 0, none⟩) d.size cap) d.toList w := by
  refine ⟨_, cap, by simp, by simpa using h1, h2, Or.inr ⟨g, 0, rfl, fun j hj => ?_⟩⟩
  have hj' : j < d.size := by simpa using hj
  have e : d[j]! = d.toList[j] := by simp [hj']
  have key : ∀ c, c < 4 → w.cell? ⟨g, 0 + j * 4 + c, none⟩ = some (encI d.toList[j])[c]! := fun c hc => by
    rw [(h.cell hj' hc).1, e]
  exact ⟨key 0 (by omega), key 1 (by omega), key 2 (by omega), key 3 (by omega)⟩
theorem below_sorted {B g n : Nat} {os : Array Obj} {w : World} (d : Array Itm) (hB : B ≤ g) (hB2 : B ≤ w.heap.size) : Below B w (sortWorldK encI 4 w g 0 n d os) := by
  unfold sortWorldK putRowK
  refine ⟨rfl, rfl, rfl, by simp, fun k hk => ?_⟩
  rw [heap_grow_old _ _ (by simpa using Nat.lt_of_lt_of_le hk hB2)]
  have : g ≠ k := by omega
  simp [putRow, mapBlock, Sort.ahead, Array.getElem?_modify, this]

theorem Tryz.aggI : ∀ w, (isAgg (srtItem_ren.t 24)).run Tryz.prog w = .ok true w := Tryz.isAgg145
theorem Tryz.sizeI : ∀ w, (Go.sizeOf (srtItem_ren.t 24)).run Tryz.prog w = .ok 4 w := Tryz.sizeOf145

theorem sort_any {T : TypeId} {B : Nat} {v : Value} {l : List Itm} {w : World} (hO : OwI T B v l w) (hl : l.length ≤ 1000000) (hB : B ≤ w.heap.size) :
    Calls Tryz.prog 116 #[v, .func (.func 117) #[] #[]] w fun e w' => e = .returned (.tuple #[]) ∧ (∃ l', l'.Perm l ∧ l'.Pairwise (fun x y => ltI y x = false) ∧ Ri v l' w') ∧ Below B w w' := by
  have hO' := hO
  rcases hO'.2 with ⟨rfl, h0⟩ | ⟨g, cap, cur, rfl, hb, hg, h1, h2, h3, h4⟩
  · obtain rfl : l = [] := List.length_eq_zero_iff.1 h0
    refine (AnyF.slices_SortFunc_none srtItem none 0 _ w).mono ?_
    rintro e w' ⟨rfl, rfl⟩
    exact ⟨rfl, ⟨[], List.Perm.refl _, List.Pairwise.nil, Ri.nil _⟩, Below.refl _ _⟩
  · have eg : ∀ args w, (callFunc 117 args).run Tryz.prog w = .ok (.enter 117 args) w := enters_of Tryz.func117 (by kernel_rfl) rfl
    have hgl : g < w.heap.size := (Array.getElem?_eq_some_iff.1 hg).1
    have hcon := AnyQ.slices_SortFunc srtItem 4 Tryz.aggI Tryz.sizeI encI encI_length encI_one cmpI swoI 117 #[] g 0 cap l.toArray w eg (fun _ _ _ _ x y => closure_any x y _) hO.holds hgl (by simp; omega)
    have e : (l.toArray).size = l.length := by simp
    rw [e] at hcon
    refine hcon.mono ?_
    rintro e w' ⟨rfl, d', n, os, hp, hs, rfl⟩
    have hd : d'.size = l.length := by simpa using hp.1
    refine ⟨rfl, ⟨d'.toList, ?_, ?_, ?_⟩, below_sorted d' hb hB⟩
    · have := hp.2.2
      have e1 : d'.extract 0 l.length = d' := by rw [← hd]; simp
      have e2 : l.toArray.extract 0 l.length = l.toArray := by simp
      rw [e1, e2] at this
      simpa using this
    · refine List.pairwise_iff_getElem.2 fun i j hi hj hij => ?_
      have hj' : j < d'.size := by simpa using hj
      have := hs i j (Nat.zero_le _) hij (by omega)
      rw [lt_cmpI, getElem!_pos d' i (by omega), getElem!_pos d' j hj'] at this
      simpa using this
    · have hh : HoldsK encI 4 (sortWorldK encI 4 w g 0 n d' os) g 0 d' := SWK.holds ⟨n, os, rfl⟩ hgl hO.holds (by simpa using hd)
      have := ri_of_holds hh (cap := cap) (by omega) h2
      rw [hd] at this
      exact this
end Go.Proofs.YtpoofjnfaijjjaaGreatDoor.Ru
