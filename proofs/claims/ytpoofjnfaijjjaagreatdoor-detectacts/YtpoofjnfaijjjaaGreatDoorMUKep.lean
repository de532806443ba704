/-
  The closure by which rumors are sorted. Rows of rumors: cells; a row that is appended to; a row that is sorted. A queue: a map by nodes, behind a pointer. A queue behind a pointer; keep.
-/
import Derived.Test.YtpoofjnfaijjjaaGreatDoorMUQmt
import Derived.Deep.RegionHeld3
import Derived.Shelf.SlSortCmp.NoneTotal
import Derived.Maps.AppendAt
import Derived.OwnWalk
import Derived.KernelRfl
import Derived.Maps.RangeWalk
import Derived.Maps.OwnSet
import Derived.Maps.OwnOps
import Derived.Laws.IdiomRangeMap
import Derived.Test.YtpoofjnfaijjjaaGreatDoorMHol
namespace Go.Proofs.YtpoofjnfaijjjaaGreatDoor.Ru
open Go.RowKit Go.Sort Go.Proofs.YtpoofjnfaijjjaaGreatDoor.Ro
theorem cell_pair (V : World) (a b : Value) (T : TypeId) : (V.alloc (.cells #[a, b] T)).drew.cell? ⟨V.heap.size, 0, none⟩ = some a ∧ (V.alloc (.cells #[a, b] T)).drew.cell? ⟨V.heap.size, 1, none⟩ = some b := by
  have h := heap_alloc_new V (.cells #[a, b] T)
  have h' : (V.alloc (.cells #[a, b] T)).drew.heap[V.heap.size]? = some (.cells #[a, b] T) := h
  clear h
  generalize (V.alloc (.cells #[a, b] T)).drew = w at *
  constructor <;> simp [World.cell?, h']
set_option maxHeartbeats 1000000 in
theorem closure_any (x y : Itm) (W : World) : Calls Tryz.prog 117 #[.agg #[.int .i64 x.1, .int .u64 x.2.1, .int .i64 x.2.2.1, .int .i64 x.2.2.2], .agg #[.int .i64 y.1, .int .u64 y.2.1, .int .i64 y.2.2.1, .int .i64 y.2.2.2]] W fun e w' => e = .returned (.int .i64 (cmpI x y)) ∧ ∃ q os', w' = grow (W.drewN q) os' := by
  obtain ⟨x1, x2, x3, x4⟩ := x
  obtain ⟨y1, y2, y3, y4⟩ := y
  unfold cmpI
  simp only
  have hV : ∃ V, Hid (V = (W.alloc (.cells #[.int .i64 x1, .int .u64 x2, .int .i64 x3, .int .i64 x4] 145)).alloc (.cells #[.int .i64 y1, .int .u64 y2, .int .i64 y3, .int .i64 y4] 145)) := ⟨_, rfl⟩
  obtain ⟨V, HV⟩ := hV
  have hp : V.heap[W.heap.size]? = some (.cells #[.int .i64 x1, .int .u64 x2, .int .i64 x3, .int .i64 x4] 145) := by
    rw [HV.out]
    exact ((((Below.refl (W.alloc _).heap.size (W.alloc _)).alloc (Nat.le_refl _) _)).block _ (by simp)).trans (heap_alloc_new W _)
  have hq : V.heap[W.heap.size + 1]? = some (.cells #[.int .i64 y1, .int .u64 y2, .int .i64 y3, .int .i64 y4] 145) := by
    rw [HV.out]
    have := heap_alloc_new (W.alloc (.cells #[.int .i64 x1, .int .u64 x2, .int .i64 x3, .int .i64 x4] 145)) (.cells #[.int .i64 y1, .int .u64 y2, .int .i64 y3, .int .i64 y4] 145)
    simpa using this
  have a0 : V.cell? ⟨W.heap.size, 0, none⟩ = some (.int .i64 x1) := by simp [World.cell?, hp]
  have a3 : V.cell? ⟨W.heap.size, 3, none⟩ = some (.int .i64 x4) := by simp [World.cell?, hp]
  have b0 : V.cell? ⟨W.heap.size + 1, 0, none⟩ = some (.int .i64 y1) := by simp [World.cell?, hq]
  have b3 : V.cell? ⟨W.heap.size + 1, 3, none⟩ = some (.int .i64 y4) := by simp [World.cell?, hq]
  clear hp hq
  have hs := cell_pair V (.int .i64 (cmpS x4 y4)) (.int .i64 (cmpS x1 y1)) 3
  go_enter Tryz.func117, Tryz.ntmps117
  go_wp2_with fail
  rw [← HV.out]
  generalize W.heap.size = p at *
  generalize p + 1 = q at *
  go_region_held3 (fun w' => w'.cell? ⟨p, 0, none⟩ = some (.int .i64 x1) ∧ w'.cell? ⟨p, 3, none⟩ = some (.int .i64 x4) ∧ w'.cell? ⟨q, 0, none⟩ = some (.int .i64 y1) ∧ w'.cell? ⟨q, 3, none⟩ = some (.int .i64 y4)) (go_keep) ((first
    | (go_at_call 119; refine (compare_any _ _ _).mono ?_; rintro e w' ⟨rfl, rfl⟩)
    | (go_at_call 118; refine (or_any _ _ (cmpS x4 y4) (cmpS x1 y1) _ hs.1 hs.2).mono ?_; rintro e w' ⟨rfl, rfl⟩)))
  all_goals go_wp2_with fail
  all_goals go_ret
  all_goals exact ⟨rfl, 1, _, by rw [HV.out, alloc_eq_grow, alloc_eq_grow, alloc_eq_grow, grow_grow, grow_grow]; rfl⟩
def itmV (x : Itm) : Value := .agg #[.int .i64 x.1, .int .u64 x.2.1, .int .i64 x.2.2.1, .int .i64 x.2.2.2]
def Ri (v : Value) (l : List Itm) (w : World) : Prop :=
  ∃ a cap, v = .slice a l.length cap ∧ l.length ≤ cap ∧ cap ≤ maxLen ∧ (l.length = 0 ∨ ∃ g off, a = some ⟨g, off, none⟩ ∧ ∀ j (hj : j < l.length),
    w.cell? ⟨g, off + j * 4, none⟩ = some (.int .i64 l[j].1) ∧ w.cell? ⟨g, off + j * 4 + 1, none⟩ = some (.int .u64 l[j].2.1) ∧ w.cell? ⟨g, off + j * 4 + 2, none⟩ = some (.int .i64 l[j].2.2.1) ∧ w.cell? ⟨g, off + j * 4 + 3, none⟩ = some (.int .i64 l[j].2.2.2))
theorem Ri.keep {v : Value} {l : List Itm} {w w' : World} (h : Ri v l w) (hw : ∀ g, v.ownBlock = some g → g < w.heap.size → w'.heap[g]? = w.heap[g]?) : Ri v l w' := by
  obtain ⟨a, cap, rfl, h1, h2, h3⟩ := h
  refine ⟨a, cap, rfl, h1, h2, ?_⟩
  rcases h3 with h3 | ⟨g, off, rfl, h3⟩
  · exact Or.inl h3
  · refine Or.inr ⟨g, off, rfl, fun j hj => ?_⟩
    obtain ⟨c0, c1, c2, c3⟩ := h3 j hj
    have hlt : g < w.heap.size := World.block_lt_of_cell? _ _ c0
    have e := hw g rfl hlt
    exact ⟨(World.cell?_of_block (w := w) e).trans c0, (World.cell?_of_block (w := w) e).trans c1, (World.cell?_of_block (w := w) e).trans c2, (World.cell?_of_block (w := w) e).trans c3⟩
theorem Ri.below {v : Value} {l : List Itm} {w w' : World} (h : Ri v l w) (hb : Below w.heap.size w w') : Ri v l w' := h.keep fun g _ hg => hb.block g hg
theorem Ri.nil (w : World) : Ri (.slice none 0 0) [] w := ⟨none, 0, rfl, Nat.le_refl _, Nat.zero_le _, Or.inl rfl⟩
def flatI : List Itm → List Value
  | [] => []
  | x :: r => encI x ++ flatI r
theorem flatI_length (l : List Itm) : (flatI l).length = l.length * 4 := by
  induction l with
  | nil => rfl
  | cons u r ih => simp [flatI, encI, ih]; omega
theorem flatI_append (l r : List Itm) : flatI (l ++ r) = flatI l ++ flatI r := by
  induction l with
  | nil => rfl
  | cons u l ih => simp [flatI, ih]
theorem flatI_cell (l : List Itm) : ∀ v ∈ flatI l, v.oneCell' = true := by
  induction l with
  | nil => intro v hv; cases hv
  | cons u r ih =>
    intro v hv
    rcases List.mem_append.1 hv with hv | hv
    · exact encI_one u v hv
    · exact ih v hv
theorem flatI_get (l : List Itm) : ∀ j c (h : j < l.length), c < 4 → (flatI l)[j * 4 + c]? = (encI l[j])[c]? := by
  induction l with
  | nil => intro j c h; cases h
  | cons u r ih =>
    intro j c h hc
    cases j with
    | zero =>
      rw [flatI, List.getElem?_append_left (by rw [encI_length]; omega), Nat.zero_mul, Nat.zero_add]
      rfl
    | succ j =>
      have h' : j < r.length := by simpa using h
      rw [flatI, List.getElem?_append_right (by rw [encI_length]; omega), encI_length, show (j + 1) * 4 + c - 4 = j * 4 + c from by omega, ih j c h' hc]
      rfl
theorem add_offI (g off j : Nat) : (⟨g, off, none⟩ : Addr).add j = ⟨g, off + j, none⟩ := by unfold Addr.add; split <;> simp_all
theorem Ri.cells {g off : Nat} {cap : Nat} {l : List Itm} {w : World} (h : Ri (.slice (some ⟨g, off, none⟩) l.length cap) l w) : ∀ j u, (flatI l)[j]? = some u → w.cell? ((⟨g, off, none⟩ : Addr).add j) = some u := by
  intro j u hu
  obtain ⟨_, _, e, _, _, h3⟩ := h
  cases e
  have hj : j < l.length * 4 := by
    rw [← flatI_length]
    exact (List.getElem?_eq_some_iff.1 hu).1
  have hq : j / 4 < l.length := by omega
  rcases h3 with h3 | ⟨g', off', e, h3⟩
  · omega
  · cases e
    obtain ⟨a, b, c, d⟩ := h3 (j / 4) hq
    rw [add_offI]
    have key : ∀ k, k < 4 → j % 4 = k → w.cell? ⟨g, off + (j / 4) * 4 + k, none⟩ = (encI l[j / 4])[k]? → w.cell? ⟨g, off + j, none⟩ = some u := by
      intro k hk e hc
      have e1 : j / 4 * 4 + k = j := by omega
      have := flatI_get l (j / 4) k hq hk
      rw [e1, hu] at this
      rw [Nat.add_assoc, e1] at hc
      rw [hc, ← this]
    have hr : j % 4 = 0 ∨ j % 4 = 1 ∨ j % 4 = 2 ∨ j % 4 = 3 := by omega
    rcases hr with hr | hr | hr | hr
    · exact key 0 (by omega) hr a
    · exact key 1 (by omega) hr b
    · exact key 2 (by omega) hr c
    · exact key 3 (by omega) hr d
def OwI (T : TypeId) (B : Nat) (v : Value) (l : List Itm) (w : World) : Prop := w.ownsRow B T 4 v l.length (flatI l)
section
variable {T : TypeId} {B : Nat} {v : Value} {l : List Itm} {w w' : World}
theorem OwI.ri (h : OwI T B v l w) : Ri v l w := by
  rcases h.2 with ⟨rfl, h0⟩ | ⟨g, cap, cur, rfl, hb, hg, h1, h2, h3, h4⟩
  · exact ⟨none, 0, by rw [h0], by omega, by unfold maxLen; omega, Or.inl h0⟩
  · refine ⟨_, cap, rfl, h1, h2, Or.inr ⟨g, 0, rfl, fun j hj => ?_⟩⟩
    have key : ∀ k, k < 4 → w.cell? ⟨g, 0 + j * 4 + k, none⟩ = (encI l[j])[k]? := by
      intro k hk
      rw [Nat.zero_add, World.ownsRow.cellAt h (j * 4 + k) (by omega), flatI_get l j k hj hk]
    exact ⟨key 0 (by omega), key 1 (by omega), key 2 (by omega), key 3 (by omega)⟩
theorem OwI.keep (h : OwI T B v l w) (e : ∀ g, v.ownBlock = some g → g < w.heap.size → w'.heap[g]? = w.heap[g]?) : OwI T B v l w' := by
  refine ⟨h.1, ?_⟩
  rcases h.2 with hn | ⟨g, cap, cur, rfl, hb, hg, rest⟩
  · exact Or.inl hn
  · exact Or.inr ⟨g, cap, cur, rfl, hb, (e g rfl (Array.getElem?_eq_some_iff.1 hg).1).trans hg, rest⟩
theorem OwI.below (h : OwI T B v l w) (b : Below w.heap.size w w') : OwI T B v l w' := h.keep fun g _ hg => b.block g hg
theorem OwI.lt (h : OwI T B v l w) : ∀ g, v.ownBlock = some g → B ≤ g ∧ g < w.heap.size := World.ownsRow.lt h
theorem OwI.nil (T : TypeId) (B : Nat) (w : World) : OwI T B (.slice none 0 0) [] w := ⟨rfl, Or.inl ⟨rfl, rfl⟩⟩
theorem OwI.empty {g : Nat} (h : w.heap[g]? = some (.cells #[] T (0, 0))) (hB : B ≤ g) : OwI T B (.slice (some ⟨g, 0, none⟩) 0 0) [] w :=
  ⟨rfl, Or.inr ⟨g, 0, #[], rfl, hB, h, Nat.le_refl _, Nat.zero_le _, rfl, rfl⟩⟩
end
structure Bi (T : TypeId) (g : Nat) (x : Itm) (w : World) : Prop where
  heap : w.heap[g]? = some (.cells #[.int .i64 x.1, .int .u64 x.2.1, .int .i64 x.2.2.1, .int .i64 x.2.2.2] T (0, 0))
section
variable {T : TypeId} {g : Nat} {x : Itm} {w w' : World}
theorem Bi.c0 (h : Bi T g x w) : w.cell? ⟨g, 0, none⟩ = some (.int .i64 x.1) := by simp [World.cell?, h.heap]
theorem Bi.c1 (h : Bi T g x w) : w.cell? ⟨g, 1, none⟩ = some (.int .u64 x.2.1) := by simp [World.cell?, h.heap]
theorem Bi.c2 (h : Bi T g x w) : w.cell? ⟨g, 2, none⟩ = some (.int .i64 x.2.2.1) := by simp [World.cell?, h.heap]
theorem Bi.c3 (h : Bi T g x w) : w.cell? ⟨g, 3, none⟩ = some (.int .i64 x.2.2.2) := by simp [World.cell?, h.heap]
theorem Bi.lt (h : Bi T g x w) : g < w.heap.size := (Array.getElem?_eq_some_iff.1 h.heap).1
theorem Bi.keep (h : Bi T g x w) (e : w'.heap[g]? = w.heap[g]?) : Bi T g x w' := ⟨e.trans h.heap⟩
theorem Bi.below (h : Bi T g x w) (b : Below w.heap.size w w') : Bi T g x w' := h.keep (b.block g h.lt)
theorem Bi.free (h : Bi T g x w) (j : Nat) : w.frozen? ⟨g, j, none⟩ = false := by simp [World.frozen?, h.heap]
theorem Bi.new (T : TypeId) (n i s t : Int) (w : World) : Bi T w.heap.size (n, i, s, t) (w.alloc (.cells #[.int .i64 n, .int .u64 i, .int .i64 s, .int .i64 t] T)) := ⟨heap_alloc_new w _⟩
end
theorem Ri.one {T : TypeId} {g : Nat} {x : Itm} {w : World} (h : Bi T g x w) : Ri (.slice (some ⟨g, 0, none⟩) 1 1) [x] w :=
  ⟨_, 1, rfl, Nat.le_refl _, by unfold maxLen; omega, Or.inr ⟨g, 0, rfl, fun j hj => by
    have : j = 0 := by simpa using hj
    subst this
    exact ⟨h.c0, h.c1, h.c2, h.c3⟩⟩⟩
theorem Tryz.infoI : (Tryz.prog.info? 145).map (fun i => (i.zero, i.size, i.bytes)) = some (some (.agg #[.int .i64 0, .int .u64 0, .int .i64 0, .int .i64 0]), 4, 32) := by kernel_rfl
theorem Tryz.infoJ : (Tryz.prog.info? 153).map (fun i => (i.zero, i.size, i.bytes)) = some (some (.agg #[.int .i64 0, .int .u64 0, .int .i64 0, .int .i64 0]), 4, 32) := by kernel_rfl
theorem wp_appI {S T : TypeId} (hS : Tryz.prog.underlying S = some (.slice T)) (hI : (Tryz.prog.info? T).map (fun i => (i.zero, i.size, i.bytes)) = some (some (.agg #[.int .i64 0, .int .u64 0, .int .i64 0, .int .i64 0]), 4, 32)) {o : Oper} {a : Act} {K : Act → World → Prop} {Q : Exit → Act → World → Prop} (w : World) (s x : Operand)
    (ho : o.op = .call { callee := .builtin .append, args := #[s, x], argTypes := #[S, S] }) (B : Nat) (v : Value) (l : List Itm) (hs : a.eval s = v) (hown : OwI T B v l w) (hB : B ≤ w.heap.size)
    (g off c : Nat) (r : List Itm) (m : Nat) (hm : m = r.length) (hx : a.eval x = .slice (some ⟨g, off, none⟩) m c) (hu : Ri (.slice (some ⟨g, off, none⟩) m c) r w) (hl : l.length + r.length ≤ 1000000)
    (h : ∀ v' w', OwI T B v' (l ++ r) w' → w.grownBy w' v.ownBlock → (v'.ownBlock = v.ownBlock ∨ v'.ownBlock = some w.heap.size) → K (a.put o.dst v') w') : o.wp Tryz.prog a w K Q := by
  obtain ⟨i0, hi, hz0, hz1, hz2⟩ := info_parts hI
  subst hm
  obtain ⟨v', w', hr, h2, h3, _, h5⟩ := run_append_own_at (P := Tryz.prog) w B S o.type T i0 _ 4 32 hS hi hz0 hz1 hz2 rfl (by decide) v l.length (flatI l) hown ⟨g, off, none⟩ r.length c (flatI r) (flatI_length r) hu.cells (flatI_cell r) (by unfold maxLen; omega) (by omega) hB
  unfold Oper.wp execOp
  simp only [ho, resolve, invoke, builtin, Sem.run_bind, Sem.run_pure, Result.andThen_ok, List.map_toArray, List.map_cons, List.map_nil, hs, hx, hr]
  refine h v' w' ?_ h3 h5
  unfold OwI
  rw [flatI_append, List.length_append]
  exact h2
theorem wpList_appI {S T : TypeId} (hS : Tryz.prog.underlying S = some (.slice T)) (hI : (Tryz.prog.info? T).map (fun i => (i.zero, i.size, i.bytes)) = some (some (.agg #[.int .i64 0, .int .u64 0, .int .i64 0, .int .i64 0]), 4, 32)) {ops : Array Oper} {rest : List Oper} {o : Oper} {a : Act} {Q : Exit → Act → World → Prop} (w : World) (hgd : o.guard = none) (s x : Operand)
    (ho : o.op = .call { callee := .builtin .append, args := #[s, x], argTypes := #[S, S] }) (B : Nat) (v : Value) (l : List Itm) (hs : a.eval s = v) (hown : OwI T B v l w) (hB : B ≤ w.heap.size)
    (g off c : Nat) (r : List Itm) (m : Nat) (hm : m = r.length) (hx : a.eval x = .slice (some ⟨g, off, none⟩) m c) (hu : Ri (.slice (some ⟨g, off, none⟩) m c) r w) (hl : l.length + r.length ≤ 1000000)
    (h : ∀ v' w', OwI T B v' (l ++ r) w' → w.grownBy w' v.ownBlock → (v'.ownBlock = v.ownBlock ∨ v'.ownBlock = some w.heap.size) → wpList Tryz.prog ops Q rest (a.put o.dst v') w') : wpList Tryz.prog ops Q (o :: rest) a w :=
  wpList_plain hgd fun _ hK => wp_appI hS hI w s x ho B v l hs hown hB g off c r m hm hx hu hl fun v' w' h2 h3 h4 => hK _ _ (h v' w' h2 h3 h4)
theorem flatK_flatI (l : List Itm) : flatK encI 4 l.toArray = (flatI l).toArray := by
  refine ext_get! (by simp [flatI_length]) fun t ht => ?_
  have ht' : t < l.length * 4 := by simpa using ht
  have hq : t / 4 < l.length := by omega
  rw [get_flatK _ _ _ t (by simpa using ht')]
  have h1 := flatI_get l (t / 4) (t % 4) hq (by omega)
  rw [show t / 4 * 4 + t % 4 = t from by omega] at h1
  have e1 : l.toArray[t / 4]! = l[t / 4] := by simp [hq]
  rw [e1]
  have ht2 : t < (flatI l).length := by rw [flatI_length]; exact ht'
  have hl : t % 4 < (encI l[t / 4]).length := by rw [encI_length]; omega
  rw [List.getElem?_eq_getElem ht2, List.getElem?_eq_getElem hl] at h1
  have h2 : (flatI l)[t] = (encI l[t / 4])[t % 4] := by simpa using h1
  rw [getElem!_pos (encI l[t / 4]) (t % 4) hl, getElem!_pos (flatI l).toArray t (by simpa using ht2), ← h2]
  simp
theorem OwI.holds {T : TypeId} {B g cap : Nat} {l : List Itm} {w : World} (h : OwI T B (.slice (some ⟨g, 0, none⟩) l.length cap) l w) : HoldsK encI 4 w g 0 l.toArray := by
  unfold HoldsK
  rw [flatK_flatI]
  intro j hj
  have hj' : j < (flatI l).length := by simpa using hj
  refine ⟨?_, World.ownsRow.frozenAt h _⟩
  rw [Nat.zero_add, World.ownsRow.cellAt h j (by rw [← flatI_length]; exact hj')]
  simp [hj']
theorem ri_of_holds {g cap : Nat} {d : Array Itm} {w : World} (h : HoldsK encI 4 w g 0 d) (h1 : d.size ≤ cap) (h2 : cap ≤ maxLen) : Ri (.slice (some ⟨g, 0, none⟩) d.size cap) d.toList w := by
  refine ⟨_, cap, by simp, by simpa using h1, h2, Or.inr ⟨g, 0, rfl, fun j hj => ?_⟩⟩
  have hj' : j < d.size := by simpa using hj
  have e : d[j]! = d.toList[j] := by simp [hj']
  have key : ∀ c, c < 4 → w.cell? ⟨g, 0 + j * 4 + c, none⟩ = some (encI d.toList[j])[c]! := fun c hc => by
    rw [(h.cell hj' hc).1, e]
  exact ⟨key 0 (by omega), key 1 (by omega), key 2 (by omega), key 3 (by omega)⟩
theorem below_sorted {B g n : Nat} {os : Array Obj} {w : World} (d : Array Itm) (hB : B ≤ g) (hB2 : B ≤ w.heap.size) : Below B w (sortWorldK encI 4 w g 0 n d os) := by
  unfold sortWorldK putRowK
  refine ⟨rfl, rfl, rfl, by simp, fun k hk => ?_⟩
  rw [heap_grow_old _ _ (by simpa using Nat.lt_of_lt_of_le hk hB2)]
  have : g ≠ k := by omega
  simp [putRow, mapBlock, Sort.ahead, Array.getElem?_modify, this]
theorem Tryz.aggI : ∀ w, (isAgg (srtItem_ren.t 24)).run Tryz.prog w = .ok true w := Tryz.isAgg145
theorem Tryz.sizeI : ∀ w, (Go.sizeOf (srtItem_ren.t 24)).run Tryz.prog w = .ok 4 w := Tryz.sizeOf145
theorem sort_any {T : TypeId} {B : Nat} {v : Value} {l : List Itm} {w : World} (hO : OwI T B v l w) (hl : l.length ≤ 1000000) (hB : B ≤ w.heap.size) :
    Calls Tryz.prog 116 #[v, .func (.func 117) #[] #[]] w fun e w' => e = .returned (.tuple #[]) ∧ (∃ l', l'.Perm l ∧ l'.Pairwise (fun x y => ltI y x = false) ∧ Ri v l' w') ∧ Below B w w' := by
  have hO' := hO
  rcases hO'.2 with ⟨rfl, h0⟩ | ⟨g, cap, cur, rfl, hb, hg, h1, h2, h3, h4⟩
  · obtain rfl : l = [] := List.length_eq_zero_iff.1 h0
    refine (AnyF.slices_SortFunc_none srtItem none 0 _ w).mono ?_
    rintro e w' ⟨rfl, rfl⟩
    exact ⟨rfl, ⟨[], List.Perm.refl _, List.Pairwise.nil, Ri.nil _⟩, Below.refl _ _⟩
  · have eg : ∀ args w, (callFunc 117 args).run Tryz.prog w = .ok (.enter 117 args) w := enters_of Tryz.func117 (by kernel_rfl) rfl
    have hgl : g < w.heap.size := (Array.getElem?_eq_some_iff.1 hg).1
    have hcon := AnyQ.slices_SortFunc srtItem 4 Tryz.aggI Tryz.sizeI encI encI_length encI_one cmpI swoI 117 #[] g 0 cap l.toArray w eg (fun _ _ _ _ x y => closure_any x y _) hO.holds hgl (by simp; omega)
    have e : (l.toArray).size = l.length := by simp
    rw [e] at hcon
    refine hcon.mono ?_
    rintro e w' ⟨rfl, d', n, os, hp, hs, rfl⟩
    have hd : d'.size = l.length := by simpa using hp.1
    refine ⟨rfl, ⟨d'.toList, ?_, ?_, ?_⟩, below_sorted d' hb hB⟩
    · have := hp.2.2
      have e1 : d'.extract 0 l.length = d' := by rw [← hd]; simp
      have e2 : l.toArray.extract 0 l.length = l.toArray := by simp
      rw [e1, e2] at this
      simpa using this
    · refine List.pairwise_iff_getElem.2 fun i j hi hj hij => ?_
      have hj' : j < d'.size := by simpa using hj
      have := hs i j (Nat.zero_le _) hij (by omega)
      rw [lt_cmpI, getElem!_pos d' i (by omega), getElem!_pos d' j hj'] at this
      simpa using this
    · have hh : HoldsK encI 4 (sortWorldK encI 4 w g 0 n d' os) g 0 d' := SWK.holds ⟨n, os, rfl⟩ hgl hO.holds (by simpa using hd)
      have := ri_of_holds hh (cap := cap) (by omega) h2
      rw [hd] at this
      exact this
end Go.Proofs.YtpoofjnfaijjjaaGreatDoor.Ru
namespace Go.Proofs.YtpoofjnfaijjjaaGreatDoor.Ru
open Go.RowKit Go.Maps Go.Proofs.YtpoofjnfaijjjaaGreatDoor.Ro
theorem law3 : Keyed Tryz.prog 3 := int_keyed Tryz.underlying3
def dat (x : Itm) : DataW Unit := .agg [.lit (.int .i64 x.1), .lit (.int .u64 x.2.1), .lit (.int .i64 x.2.2.1), .lit (.int .i64 x.2.2.2)]
theorem dat_inj {x y : Itm} (h : dat x = dat y) : x = y := by
  obtain ⟨a, b, c, d⟩ := x
  obtain ⟨a', b', c', d'⟩ := y
  simp [dat] at h
  simp [h]
def itmElem (v : Value) : Option (DataW Unit × List MemPlace) :=
  match v with
  | .agg a => match a.toList with
    | [.int .i64 n, .int .u64 i, .int .i64 s, .int .i64 t] => some (dat (n, i, s, t), [])
    | _ => none
  | _ => none
theorem itmElem_mk (x : Itm) : itmElem (itmV x) = some (dat x, []) := rfl
theorem itmElem_inv {v : Value} {z : DataW Unit × List MemPlace} (h : itmElem v = some z) : ∃ x, v = itmV x ∧ z = (dat x, []) := by
  unfold itmElem at h
  split at h
  · rename_i a
    split at h
    · rename_i n i s t e
      refine ⟨(n, i, s, t), ?_, by simpa using h.symm⟩
      obtain ⟨l⟩ := a
      simp at e
      subst e
      rfl
    · cases h
  · cases h
structure Mp (D : DataW Unit) (L : List Itm) : Prop where
  is : ∀ x ∈ L, ∀ z, D.atKey (.int .i64 x.1) z = dat x
  has : ∀ k, Maps.has D (.int .i64 k) = true → ∃ x ∈ L, x.1 = k
  size : Maps.size D = L.length
theorem Mp.hit {D : DataW Unit} {L : List Itm} (h : Mp D L) {x : Itm} (hx : x ∈ L) : Maps.has D (.int .i64 x.1) = true := has_true_of_atKey (h.is x hx)
theorem Mp.miss {D : DataW Unit} {L : List Itm} (h : Mp D L) {k : Int} (hx : ∀ x ∈ L, x.1 ≠ k) : Maps.has D (.int .i64 k) = false := by
  cases e : Maps.has D (.int .i64 k)
  · rfl
  · obtain ⟨x, h1, h2⟩ := h.has k e
    exact absurd h2 (hx x h1)
theorem lit_ne {a b : Int} (h : a ≠ b) : (Lit.int .i64 a) ≠ .int .i64 b := fun e => h (by cases e; rfl)
theorem Mp.put {D : DataW Unit} {L : List Itm} (h : Mp D L) (hL : Qi L) (hD : Tidy D) (x : Itm) : Mp (D.put (.int .i64 x.1) (dat x)) (keepQ L x) := by
  refine ⟨fun y hy z => ?_, fun k hk => ?_, ?_⟩
  · rcases (insQ_mem _ _ _).1 hy with rfl | hy
    · exact atKey_put_same hD.isMap (show WideAt.IsKeyLit (.int .i64 y.1) from trivial) _ _
    · obtain ⟨h1, h2⟩ := (lessQ_mem _ _ _).1 hy
      rw [atKey_put_other (lit_ne h2)]
      exact h.is y h1 z
  · by_cases e : k = x.1
    · exact ⟨x, (insQ_mem _ _ _).2 (Or.inl rfl), e.symm⟩
    · rw [has_put_other (lit_ne e)] at hk
      obtain ⟨y, h1, h2⟩ := h.has k hk
      exact ⟨y, (insQ_mem _ _ _).2 (Or.inr ((lessQ_mem _ _ _).2 ⟨h1, by rw [h2]; exact e⟩)), h2⟩
  · rw [size_put hD, h.size]
    by_cases e : ∃ y ∈ L, y.1 = x.1
    · obtain ⟨y, h1, h2⟩ := e
      rw [keepQ_length_same hL x ⟨y, h1, h2⟩, ← h2, h.hit h1]
      rfl
    · have e' : ∀ y ∈ L, y.1 ≠ x.1 := fun y hy h => e ⟨y, hy, h⟩
      rw [h.miss e']
      unfold keepQ
      rw [insQ_length, lessQ_none e']
      rfl
theorem Mp.del {D : DataW Unit} {L : List Itm} (h : Mp D L) (hL : Qi L) (hD : Tidy D) (n : Int) : Mp (D.del (.int .i64 n)) (lessQ L n) := by
  refine ⟨fun y hy z => ?_, fun k hk => ?_, ?_⟩
  · obtain ⟨h1, h2⟩ := (lessQ_mem _ _ _).1 hy
    rw [atKey_del_other (lit_ne h2)]
    exact h.is y h1 z
  · by_cases e : k = n
    · subst e
      rw [has_del_same] at hk
      cases hk
    · rw [has_del_other (lit_ne e)] at hk
      obtain ⟨y, h1, h2⟩ := h.has k hk
      exact ⟨y, (lessQ_mem _ _ _).2 ⟨h1, by rw [h2]; exact e⟩, h2⟩
  · have hs := size_del (k := .int .i64 n) hD
    rw [h.size] at hs
    by_cases e : ∃ y ∈ L, y.1 = n
    · obtain ⟨y, h1, rfl⟩ := e
      rw [h.hit h1] at hs
      have := lessQ_length hL h1
      simp at hs
      omega
    · have e' : ∀ y ∈ L, y.1 ≠ n := fun y hy h => e ⟨y, hy, h⟩
      rw [h.miss e'] at hs
      rw [lessQ_none e']
      simpa using hs
theorem Mp.empty : Mp (.map []) [] := ⟨(fun _ h => by cases h), (fun _ h => by rw [has_eq] at h; simp at h), rfl⟩
theorem ownsMap_tight {P : Program} {k : TypeId} {R : Value → Option (DataW Unit × List MemPlace)} {w : World} {b n m : Nat} {D : DataW Unit} (h : w.ownsMap P k R b n D) (hm : Maps.size D ≤ m) : w.ownsMap P k R b m D := by
  obtain ⟨es, clock, hb, F, hs, hD⟩ := h
  refine ⟨es, clock, hb, F, ?_, hD⟩
  rw [hD] at hm
  simpa [Maps.size, length_sorted] using hm
def Mo (b : Nat) (L : List Itm) (w : World) : Prop := ∃ D, w.ownsMap Tryz.prog 3 itmElem b 40 D ∧ Mp D L
theorem Mo.keep {b : Nat} {L : List Itm} {w w' : World} (h : Mo b L w) (e : w'.heap[b]? = w.heap[b]?) : Mo b L w' := by
  obtain ⟨D, ⟨es, clock, hb, r⟩, hp⟩ := h
  exact ⟨D, ⟨es, clock, e.trans hb, r⟩, hp⟩
theorem Mo.lt {b : Nat} {L : List Itm} {w : World} (h : Mo b L w) : b < w.heap.size := by
  obtain ⟨D, h, _⟩ := h
  exact h.lt
theorem Mo.made (w : World) : Mo w.heap.size [] (w.alloc (.map #[] 0)) := ⟨_, (World.ownsMap_made w _ _ _).mono (Nat.zero_le _), Mp.empty⟩
theorem wf_node {x : Int} (h0 : 0 ≤ x) (h1 : x < 64) : (Lit.int .i64 x).wf = true := WalkArith.wf_i64 (by omega)
theorem Mo.put {b : Nat} {L : List Itm} {w : World} (h : Mo b L w) (hL : Qi L) {x : Itm} (hx : ItmOk x) (hl : (keepQ L x).length ≤ 40) :
    ∃ w', (Instr.mapUpdate 85 (.map (some b)) (.int .i64 x.1) (itmV x)).run Tryz.prog w = .ok () w' ∧ Mo b (keepQ L x) w' ∧ w.grownBy w' (some b) := by
  obtain ⟨D, ho, hp⟩ := h
  obtain ⟨w', hr, h1, h2⟩ := ho.update law3 Tryz.underlying85 (by unfold maxLen; omega) (keyOf_int_mk Tryz.underlying3 (wf_node hx.n0 hx.n1)) (itmElem_mk x)
  have hp' := hp.put hL (ho.tidy law3) x
  exact ⟨w', hr, ⟨_, ownsMap_tight h1 (by rw [hp'.size]; exact hl), hp'⟩, h2⟩
theorem Mo.del {b : Nat} {L : List Itm} {w : World} (h : Mo b L w) (hL : Qi L) {n : Int} (h0 : 0 ≤ n) (h1 : n < 64) (ty : TypeId) :
    ∃ w', (Builtin.delete_ #[85, 3] ty #[.map (some b), .int .i64 n]).run Tryz.prog w = .ok (.tuple #[]) w' ∧ Mo b (lessQ L n) w' ∧ w.grownBy w' (some b) := by
  obtain ⟨D, ho, hp⟩ := h
  obtain ⟨w', hr, k1, k2⟩ := ho.drop law3 Tryz.underlying85 (keyOf_int_mk Tryz.underlying3 (wf_node h0 h1)) ty
  exact ⟨w', hr, ⟨_, k1, hp.del hL (ho.tidy law3) n⟩, k2.grown⟩
theorem zeroI (w : World) : (zeroValue 145).run Tryz.prog w = .ok (itmV (0, 0, 0, 0)) w := by kernel_rfl
def hasQ (L : List Itm) (n : Int) : Bool := L.any (fun x => x.1 == n)
def getQ (L : List Itm) (n : Int) : Itm := (L.find? (fun x => x.1 == n)).getD (0, 0, 0, 0)
theorem hasQ_true {L : List Itm} {n : Int} (h : hasQ L n = true) : getQ L n ∈ L ∧ (getQ L n).1 = n := by
  unfold hasQ at h
  unfold getQ
  cases e : L.find? (fun x => x.1 == n)
  case none =>
    rw [List.find?_eq_none] at e
    obtain ⟨x, h1, h2⟩ := List.any_eq_true.1 h
    exact absurd h2 (e x h1)
  case some y => exact ⟨List.mem_of_find?_eq_some e, by simpa using List.find?_some e⟩
theorem hasQ_false {L : List Itm} {n : Int} (h : hasQ L n = false) : (∀ x ∈ L, x.1 ≠ n) ∧ getQ L n = (0, 0, 0, 0) := by
  have h1 : ∀ x ∈ L, x.1 ≠ n := fun x hx e => by
    have : hasQ L n = true := List.any_eq_true.2 ⟨x, hx, by simpa using e⟩
    rw [h] at this; cases this
  refine ⟨h1, ?_⟩
  unfold getQ
  rw [List.find?_eq_none.2 fun x hx => by simpa using h1 x hx]
  rfl
theorem Mo.look {b : Nat} {L : List Itm} {w : World} (h : Mo b L w) {n : Int} (h0 : 0 ≤ n) (h1 : n < 64) :
    (Instr.lookup 85 (.map (some b)) (.int .i64 n) true).run Tryz.prog w = .ok (.tuple #[itmV (getQ L n), .bool (hasQ L n)]) w := by
  obtain ⟨D, ho, hp⟩ := h
  obtain ⟨v, ps, hr, hv⟩ := ho.look_ok law3 Tryz.underlying85 (zeroI _) (itmElem_mk (0, 0, 0, 0)) (keyOf_int_mk Tryz.underlying3 (wf_node h0 h1))
  rw [hr]
  obtain ⟨x, rfl, e⟩ := itmElem_inv hv
  have e' : D.atKey (.int .i64 n) (dat (0, 0, 0, 0)) = dat x := by simpa using congrArg Prod.fst e
  cases hh : hasQ L n
  case false =>
    obtain ⟨k1, k2⟩ := hasQ_false hh
    have hm := hp.miss k1
    rw [atKey_of_not_has hm] at e'
    rw [hm, k2, dat_inj e']
  case true =>
    obtain ⟨k1, k2⟩ := hasQ_true hh
    have hm := hp.hit k1
    rw [k2] at hm
    have := hp.is _ k1 (dat (0, 0, 0, 0))
    rw [k2, e'] at this
    rw [hm, dat_inj this]
variable {X : Value → Array Value}
theorem Below.drew' {B : Nat} {a w : World} (h : Below B a w) : Below B a w.drew := ⟨h.os, h.tape, h.output, h.size, fun i hi => h.block i hi⟩
theorem below_alloc (w : World) (o : Obj) : Below w.heap.size w (w.alloc o) := (Below.refl _ _).alloc (Nat.le_refl _) _
structure Mv (p : Nat) (m m' : Option Nat) (w w' : World) : Prop where
  os : w'.os = w.os
  tape : w'.tape = w.tape
  output : w'.output = w.output
  size : w.heap.size ≤ w'.heap.size
  block : ∀ k, k < w.heap.size → k ≠ p → some k ≠ m → w'.heap[k]? = w.heap[k]?
  at_ : m' = m ∨ ∀ b, m' = some b → w.heap.size ≤ b
section
variable {p : Nat} {m m1 m2 : Option Nat} {w w1 w2 : World}
theorem Mv.refl (p : Nat) (m : Option Nat) (w : World) : Mv p m m w w := ⟨rfl, rfl, rfl, Nat.le_refl _, fun _ _ _ _ => rfl, Or.inl rfl⟩
theorem Mv.of (h : Below w.heap.size w w1) : Mv p m m w w1 := ⟨h.os, h.tape, h.output, h.size, fun k hk _ _ => h.block k hk, Or.inl rfl⟩
theorem Mv.trans (h : Mv p m m1 w w1) (k : Mv p m1 m2 w1 w2) : Mv p m m2 w w2 := by
  refine ⟨k.os.trans h.os, k.tape.trans h.tape, k.output.trans h.output, Nat.le_trans h.size k.size, fun i hi hp hm => ?_, ?_⟩
  · have hi1 : i < w1.heap.size := Nat.lt_of_lt_of_le hi h.size
    rw [k.block i hi1 hp ?_, h.block i hi hp hm]
    rcases h.at_ with e | e
    · rw [e]; exact hm
    · intro e'
      have := e i e'.symm
      omega
  · rcases k.at_ with e | e
    · rcases h.at_ with e' | e'
      · exact Or.inl (e.trans e')
      · exact Or.inr fun b hb => e' b (by rw [← e]; exact hb)
    · exact Or.inr fun b hb => Nat.le_trans h.size (e b hb)
end
structure Qu (X : Value → Array Value) (p : Nat) (m : Option Nat) (L : List Itm) (w : World) : Prop where
  hole : Hole 2 X
  qi : Qi L
  heap : w.heap[p]? = some (.cells (X (.map m)) 94 (0, 0))
  none_ : m = none → L = []
  some_ : ∀ b, m = some b → Mo b L w
section
variable {p : Nat} {m : Option Nat} {L : List Itm} {w w' : World}
theorem Qu.c (h : Qu X p m L w) : w.cell? ⟨p, 2, none⟩ = some (.map m) := h.hole.cell h.heap
theorem Qu.free (h : Qu X p m L w) (j : Nat) : w.frozen? ⟨p, j, none⟩ = false := by simp [World.frozen?, h.heap]
theorem Qu.lt (h : Qu X p m L w) : p < w.heap.size := (Array.getElem?_eq_some_iff.1 h.heap).1
theorem Qu.ne (h : Qu X p m L w) : ∀ b, m = some b → b ≠ p := by
  intro b hb e
  subst e
  obtain ⟨D, ⟨es, clock, h1, _⟩, _⟩ := h.some_ b hb
  rw [h.heap] at h1
  cases h1
theorem Qu.mlt (h : Qu X p m L w) : ∀ b, m = some b → b < w.heap.size := fun b hb => (h.some_ b hb).lt
theorem Qu.keep (h : Qu X p m L w) (e : w'.heap[p]? = w.heap[p]?) (e' : ∀ b, m = some b → w'.heap[b]? = w.heap[b]?) : Qu X p m L w' := ⟨h.hole, h.qi, e.trans h.heap, h.none_, fun b hb => (h.some_ b hb).keep (e' b hb)⟩
theorem Qu.below (h : Qu X p m L w) (k : Below w.heap.size w w') : Qu X p m L w' := h.keep (k.block p h.lt) fun b hb => k.block b (h.mlt b hb)
end
set_option maxHeartbeats 1000000 in
theorem keep_some (p b : Nat) (L : List Itm) (x : Itm) (hx : ItmOk x) (hl : (keepQ L x).length ≤ 40) (w : World) (hQ : Qu X p (some b) L w) :
    Calls Tryz.prog 70 #[.pointer (some ⟨p, 2, none⟩), itmV x] w fun e w' => e = .returned (.tuple #[]) ∧ Qu X p (some b) (keepQ L x) w' ∧ Mv p (some b) (some b) w w' := by
  have ba := below_alloc w (.cells #[.int .i64 x.1, .int .u64 x.2.1, .int .i64 x.2.2.1, .int .i64 x.2.2.2] 145)
  have hQ1 := hQ.below ba
  have hM := hQ1.some_ b rfl
  have hc := hQ1.c
  have hb := (Bi.new 145 x.1 x.2.1 x.2.2.1 x.2.2.2 w)
  have hM2 : Mo b L (w.alloc (.cells #[.int .i64 x.1, .int .u64 x.2.1, .int .i64 x.2.2.1, .int .i64 x.2.2.2] 145)).drew := hM
  obtain ⟨w4, hrun, h4, hg⟩ := hM2.put hQ.qi hx hl
  unfold itmV at *
  have qT : ∀ (w : World) (r : Option Nat), (binOp .eql 85 (.map r) (.map none)).run Tryz.prog w = .ok (.bool r.isNone) w := fun w r => run_eql_map_nil w _ _ _ r Tryz.underlying85
  have hmv : Mv p (some b) (some b) w w4 := ⟨hg.os.trans ba.os, hg.tape.trans ba.tape, hg.output.trans ba.output, Nat.le_trans ba.size hg.size, fun k hk _ hm => (hg.block k (Nat.lt_of_lt_of_le hk ba.size) hm).trans (ba.block k hk), Or.inl rfl⟩
  have hne := hQ.ne b rfl
  have hQ4 : Qu X p (some b) (keepQ L x) w4 := ⟨hQ.hole, hQ.qi.keep hx, (hg.block p hQ1.lt (by simpa using Ne.symm hne)).trans hQ1.heap, (fun e => by cases e), (fun b' e => by cases e; exact h4)⟩
  clear hM hM2 hg h4
  go_enter Tryz.func70, Tryz.ntmps70
  go_wp2_with fail
  go_region
  go_wp2_with fail
  go_end0
  exact ⟨rfl, hQ4, hmv⟩
set_option maxHeartbeats 1000000 in
theorem keep_none (p : Nat) (x : Itm) (hx : ItmOk x) (w : World) (hQ : Qu X p none [] w) :
    Calls Tryz.prog 70 #[.pointer (some ⟨p, 2, none⟩), itmV x] w fun e w' => e = .returned (.tuple #[]) ∧ ∃ b, Qu X p (some b) (keepQ [] x) w' ∧ Mv p none (some b) w w' := by
  have ba := below_alloc w (.cells #[.int .i64 x.1, .int .u64 x.2.1, .int .i64 x.2.2.1, .int .i64 x.2.2.2] 145)
  have hQ1 := hQ.below ba
  have hb := (Bi.new 145 x.1 x.2.1 x.2.2.1 x.2.2.2 w)
  have qT : ∀ (w : World) (r : Option Nat), (binOp .eql 85 (.map r) (.map none)).run Tryz.prog w = .ok (.bool r.isNone) w := fun w r => run_eql_map_nil w _ _ _ r Tryz.underlying85
  obtain ⟨V1, HV1⟩ : ∃ V1, Hid (V1 = w.alloc (.cells #[.int .i64 x.1, .int .u64 x.2.1, .int .i64 x.2.2.1, .int .i64 x.2.2.2] 145)) := ⟨_, rfl⟩
  rw [← HV1.out] at ba hQ1 hb
  have hmm := @run_makeMap Tryz.prog 85 V1
  have bb := below_alloc V1 (.map #[] 0)
  have hM := Mo.made V1
  obtain ⟨V2, HV2⟩ : ∃ V2, Hid (V2 = V1.alloc (.map #[] 0)) := ⟨_, rfl⟩
  rw [← HV2.out] at hmm bb hM
  have hQ2 := hQ1.below bb
  have hb2 := hb.below bb
  have hc := hQ1.c
  have hc2 := hQ2.c
  have hf2 := hQ2.free 2
  have hz1 : w.heap.size ≤ V1.heap.size := ba.size
  have hlt := hQ.lt
  generalize V1.heap.size = b at *
  have hpb : p ≠ b := by omega
  obtain ⟨V3, HV3⟩ : ∃ V3, Hid (V3 = V2.setCell ⟨p, 2, none⟩ (.map (some b))) := ⟨_, rfl⟩
  have h3o : ∀ k, k ≠ p → V3.heap[k]? = V2.heap[k]? := fun k hk => by rw [HV3.out]; exact Below.heap_setCell _ _ _ _ (by simpa using hk)
  have h3p : V3.heap[p]? = some (.cells (X (.map (some b))) 94 (0, 0)) := by rw [HV3.out]; exact hQ2.hole.put hQ2.heap _
  have hM3 := hM.keep (h3o b (Ne.symm hpb))
  have hb3 := hb2.keep (h3o w.heap.size (by omega))
  obtain ⟨w4, hrun, h4, hg⟩ := Mo.put (w := V3.drew) hM3 Qi.nil hx (Nat.le_trans (keepQ_length (L := []) x) (by decide))
  have x0 := hb3.c0
  have x1 := hb3.c1
  have x2 := hb3.c2
  have x3 := hb3.c3
  have xp : V3.cell? ⟨p, 2, none⟩ = some (.map (some b)) := hQ2.hole.cell h3p
  have hQ4 : Qu X p (some b) (keepQ [] x) w4 := ⟨hQ.hole, Qi.nil.keep hx, (hg.block p (Array.getElem?_eq_some_iff.1 h3p).1 (by simpa using hpb)).trans h3p, (fun e => by cases e), (fun b' e => by cases e; exact h4)⟩
  have hz3 : V3.heap.size = V2.heap.size := by rw [HV3.out]; simp [World.setCell]
  have hmv : Mv p none (some b) w w4 := by
    refine ⟨hg.os.trans ?_, hg.tape.trans ?_, hg.output.trans ?_, ?_, fun k hk hp _ => ?_, Or.inr fun b' e => by cases e; exact hz1⟩
    · rw [HV3.out]; exact bb.os.trans ba.os
    · rw [HV3.out]; exact bb.tape.trans ba.tape
    · rw [HV3.out]; exact bb.output.trans ba.output
    · have a1 := hg.size
      have a2 := bb.size
      have a3 : V3.drew.heap.size = V3.heap.size := rfl
      have a4 := ba.size
      omega
    · have a2 := bb.size
      have a3 : V3.drew.heap.size = V3.heap.size := rfl
      have a4 := ba.size
      rw [hg.block k (by omega) (by simp; omega)]
      exact (h3o k hp).trans ((bb.block k (by omega)).trans (ba.block k hk))
  clear hg h4 hM3 hM hb hb2 hb3 h3o h3p hz3 ba bb hQ1 hQ2 hQ
  unfold itmV at *
  go_enter Tryz.func70, Tryz.ntmps70
  go_upto_region 1 with fail
  rw [← HV1.out]
  generalize w.heap.size = g at *
  go_wp2_with fail
  rw [← HV3.out]
  go_region
  go_wp2_with fail
  go_end0
  exact ⟨rfl, b, hQ4, hmv⟩
theorem keep_any (p : Nat) (m : Option Nat) (L : List Itm) (x : Itm) (hx : ItmOk x) (hl : (keepQ L x).length ≤ 40) (w : World) (hQ : Qu X p m L w) :
    Calls Tryz.prog 70 #[.pointer (some ⟨p, 2, none⟩), itmV x] w fun e w' => e = .returned (.tuple #[]) ∧ ∃ m', Qu X p m' (keepQ L x) w' ∧ Mv p m m' w w' := by
  cases m with
  | none =>
    obtain rfl := hQ.none_ rfl
    exact (keep_none p x hx w hQ).mono fun e w' ⟨h1, b, h2, h3⟩ => ⟨h1, _, h2, h3⟩
  | some b => exact (keep_some p b L x hx hl w hQ).mono fun e w' ⟨h1, h2, h3⟩ => ⟨h1, _, h2, h3⟩
end Go.Proofs.YtpoofjnfaijjjaaGreatDoor.Ru
