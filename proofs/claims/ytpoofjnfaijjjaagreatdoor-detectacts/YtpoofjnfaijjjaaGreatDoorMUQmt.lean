/-
  Items, and how they are sorted: cmp.Compare, cmp.Or, the closure of Items, slices.SortFunc. Queues as lists: rumors in order, at most one of a node. (Knows no program.)
-/
import Derived.Test.YtpoofjnfaijjjaaGreatDoorMRRfr
import Derived.Test.YtpoofjnfaijjjaaGreatDoorMUShl
namespace Go.Proofs.YtpoofjnfaijjjaaGreatDoor.Ru
open Go.RowKit Go.Sort Go.Proofs.YtpoofjnfaijjjaaGreatDoor.Ro
abbrev Itm := Int × Int × Int × Int
def encI (x : Itm) : List Value := [.int .i64 x.1, .int .u64 x.2.1, .int .i64 x.2.2.1, .int .i64 x.2.2.2]
theorem encI_length (x : Itm) : (encI x).length = 4 := rfl
theorem encI_one (x : Itm) : ∀ v ∈ encI x, v.oneCell' = true := by
  intro v hv
  simp only [encI, List.mem_cons, List.not_mem_nil, or_false] at hv
  rcases hv with rfl | rfl | rfl | rfl <;> rfl
def cmpS (a b : Int) : Int := if a < b then -1 else if b < a then 1 else 0
def orS (a b : Int) : Int := if a = 0 then b else a
def cmpI (x y : Itm) : Int := orS (cmpS x.2.2.2 y.2.2.2) (cmpS x.1 y.1)
def ltI (x y : Itm) : Bool := decide (x.2.2.2 < y.2.2.2) || ((x.2.2.2 == y.2.2.2) && decide (x.1 < y.1))
theorem lt_cmpI (x y : Itm) : ltOf cmpI x y = ltI x y := by
  unfold ltOf cmpI ltI orS cmpS
  generalize x.2.2.2 = a
  generalize y.2.2.2 = b
  generalize x.1 = c
  generalize y.1 = d
  rcases Int.lt_trichotomy a b with h | h | h
  · simp [h]
  · subst h
    rcases Int.lt_trichotomy c d with h | h | h
    · simp [h]
    · subst h; simp
    · have : ¬ c < d := by omega
      simp [h, this]
  · have h1 : ¬ a < b := by omega
    have h2 : a ≠ b := by omega
    simp [h, h1, h2]
theorem swoI : SWO (ltOf cmpI) := by
  refine ⟨fun x => ?_, fun x y z h1 h2 => ?_, fun x y z h1 h2 => ?_⟩
  · rw [lt_cmpI]; simp [ltI]
  · rw [lt_cmpI] at *
    simp [ltI] at *
    omega
  · rw [lt_cmpI] at *
    simp [ltI] at *
    omega
theorem isNaN_any (a : Int) (w : World) : Calls Tryz.prog 151 #[.int .i64 a] w fun e w' => e = .returned (.bool false) ∧ w' = w := by
  have h : (a != a) = false := by simp
  go_enter Tryz.func151, Tryz.ntmps151
  go_wp2_with fail
  go_ret
  exact ⟨rfl, rfl⟩
theorem compare_any (a b : Int) (w : World) : Calls Tryz.prog 119 #[.int .i64 a, .int .i64 b] w fun e w' => e = .returned (.int .i64 (cmpS a b)) ∧ w' = w := by
  have hc := fun x w => isNaN_any x w
  unfold cmpS
  by_cases h1 : a < b
  · rw [if_pos h1]
    go_enter Tryz.func119, Tryz.ntmps119
    go_wp2_with (go_at_call 151; refine (hc _ _).mono ?_; rintro e w' ⟨rfl, rfl⟩)
    go_ret
    exact ⟨rfl, rfl⟩
  · rw [if_neg h1]
    by_cases h2 : b < a
    · rw [if_pos h2]
      go_enter Tryz.func119, Tryz.ntmps119
      go_wp2_with (go_at_call 151; refine (hc _ _).mono ?_; rintro e w' ⟨rfl, rfl⟩)
      go_ret
      exact ⟨rfl, rfl⟩
    · rw [if_neg h2]
      go_enter Tryz.func119, Tryz.ntmps119
      go_wp2_with (go_at_call 151; refine (hc _ _).mono ?_; rintro e w' ⟨rfl, rfl⟩)
      go_ret
      exact ⟨rfl, rfl⟩
theorem or_any (g cap : Nat) (a b : Int) (w : World) (h0 : w.cell? ⟨g, 0, none⟩ = some (.int .i64 a)) (h1 : w.cell? ⟨g, 1, none⟩ = some (.int .i64 b)) :
    Calls Tryz.prog 118 #[.slice (some ⟨g, 0, none⟩) 2 cap] w fun e w' => e = .returned (.int .i64 (orS a b)) ∧ w' = w := by
  unfold orS
  cases ha : (a != 0)
  case true =>
    rw [if_neg (by simpa using ha)]
    go_enter Tryz.func118, Tryz.ntmps118
    go_wp2
    refine wp_loop_rounds 1 ?_
    rw [rounds_succ]
    go_wp2
    go_ret
    exact ⟨rfl, rfl⟩
  case false =>
    rw [if_pos (by simpa using ha)]
    cases hb : (b != 0)
    case true =>
      go_enter Tryz.func118, Tryz.ntmps118
      go_wp2
      refine wp_loop_rounds 2 ?_
      rw [rounds_succ]
      go_wp2
      rw [rounds_succ]
      go_wp2
      go_ret
      exact ⟨rfl, rfl⟩
    case false =>
      obtain rfl : b = 0 := by simpa using hb
      go_enter Tryz.func118, Tryz.ntmps118
      go_wp2
      refine wp_loop_rounds 3 ?_
      rw [rounds_succ]
      go_wp2
      rw [rounds_succ]
      go_wp2
      rw [rounds_succ]
      go_wp2
      go_ret
      exact ⟨rfl, rfl⟩
end Go.Proofs.YtpoofjnfaijjjaaGreatDoor.Ru
namespace Go.Proofs.YtpoofjnfaijjjaaGreatDoor.Ru
open Go.Proofs.YtpoofjnfaijjjaaGreatDoor.Ro
structure ItmOk (x : Itm) : Prop where
  n0 : 0 ≤ x.1
  n1 : x.1 < 64
  i0 : 0 ≤ x.2.1
  i1 : x.2.1 ≤ 18446744073709551615
  s0 : 0 ≤ x.2.2.1
  s1 : x.2.2.1 ≤ 3
  t0 : 0 ≤ x.2.2.2
  t1 : x.2.2.2 < 192
structure Qi (L : List Itm) : Prop where
  sorted : L.Pairwise (fun x y => ltI x y = true)
  nodes : L.Pairwise (fun x y => x.1 ≠ y.1)
  ok : ∀ x ∈ L, ItmOk x
theorem ltI_trans {x y z : Itm} (h1 : ltI x y = true) (h2 : ltI y z = true) : ltI x z = true := by
  simp [ltI] at *
  omega
theorem ltI_asymm {x y : Itm} (h : ltI x y = true) : ltI y x = false := by
  simp [ltI] at *
  omega
theorem ltI_total {x y : Itm} (h : x.1 ≠ y.1) (h1 : ltI x y = false) : ltI y x = true := by
  simp [ltI] at *
  omega
theorem ltI_eq {x y : Itm} (h1 : ltI x y = false) (h2 : ltI y x = false) : x.1 = y.1 := by
  simp [ltI] at *
  omega
theorem pw_sym {α : Type} {R : α → α → Prop} (hs : ∀ x y, R x y → R y x) {L : List α} (h : L.Pairwise R) {x y : α} (hx : x ∈ L) (hy : y ∈ L) (hne : x ≠ y) : R x y := by
  induction h with
  | nil => cases hx
  | cons ha _ ih =>
    rcases List.mem_cons.1 hx with rfl | hx'
    · rcases List.mem_cons.1 hy with rfl | hy'
      · exact absurd rfl hne
      · exact ha y hy'
    · rcases List.mem_cons.1 hy with rfl | hy'
      · exact hs _ _ (ha x hx')
      · exact ih hx' hy'
theorem Qi.one {L : List Itm} (h : Qi L) {x y : Itm} (hx : x ∈ L) (hy : y ∈ L) (e : x.1 = y.1) : x = y := by
  refine Classical.byContradiction fun hne => ?_
  exact pw_sym (fun _ _ h => Ne.symm h) h.nodes hx hy hne e
theorem Qi.nodup {L : List Itm} (h : Qi L) : L.Nodup := h.nodes.imp fun h e => h (by rw [e])
theorem Qi.nil : Qi [] := ⟨List.Pairwise.nil, List.Pairwise.nil, fun _ h => by cases h⟩
theorem Qi.unique {L l : List Itm} (h : Qi L) (hp : l.Perm L) (hs : l.Pairwise (fun x y => ltI y x = false)) : l = L :=
  List.Perm.eq_of_pairwise (le := fun x y => ltI y x = false)
    (fun _ _ ha hb h1 h2 => h.one (hp.mem_iff.1 ha) hb (ltI_eq h2 h1)) hs (h.sorted.imp fun h => ltI_asymm h) hp
def lessQ (L : List Itm) (n : Int) : List Itm := L.filter (fun x => x.1 != n)
def insQ (x : Itm) : List Itm → List Itm
  | [] => [x]
  | y :: r => if ltI x y then x :: y :: r else y :: insQ x r
theorem insQ_perm (x : Itm) (L : List Itm) : (insQ x L).Perm (x :: L) := by
  induction L with
  | nil => exact List.Perm.refl _
  | cons y r ih =>
    unfold insQ
    split
    · exact List.Perm.refl _
    · exact (List.Perm.cons y ih).trans (List.Perm.swap x y r)
theorem insQ_mem (x y : Itm) (L : List Itm) : y ∈ insQ x L ↔ y = x ∨ y ∈ L := by
  rw [(insQ_perm x L).mem_iff, List.mem_cons]
theorem insQ_length (x : Itm) (L : List Itm) : (insQ x L).length = L.length + 1 := by
  rw [(insQ_perm x L).length_eq]; rfl
theorem insQ_sorted (x : Itm) (L : List Itm) (h : L.Pairwise (fun x y => ltI x y = true)) (hx : ∀ y ∈ L, y.1 ≠ x.1) : (insQ x L).Pairwise (fun x y => ltI x y = true) := by
  induction L with
  | nil => simp [insQ]
  | cons y r ih =>
    rw [List.pairwise_cons] at h
    unfold insQ
    split
    · rename_i hlt
      refine List.pairwise_cons.2 ⟨fun z hz => ?_, List.pairwise_cons.2 h⟩
      rcases List.mem_cons.1 hz with rfl | hz
      · exact hlt
      · exact ltI_trans hlt (h.1 z hz)
    · rename_i hlt
      have hlt : ltI x y = false := by simpa using hlt
      refine List.pairwise_cons.2 ⟨fun z hz => ?_, ih h.2 fun z hz => hx z (List.mem_cons_of_mem _ hz)⟩
      rcases (insQ_mem _ _ _).1 hz with rfl | hz
      · exact ltI_total (Ne.symm (hx y (List.mem_cons_self))) hlt
      · exact h.1 z hz
theorem insQ_nodes (x : Itm) (L : List Itm) (h : L.Pairwise (fun x y => x.1 ≠ y.1)) (hx : ∀ y ∈ L, y.1 ≠ x.1) : (insQ x L).Pairwise (fun x y => x.1 ≠ y.1) :=
  ((insQ_perm x L).pairwise_iff (fun h => Ne.symm h)).2 (List.pairwise_cons.2 ⟨fun y hy => Ne.symm (hx y hy), h⟩)
theorem Qi.ins {L : List Itm} (h : Qi L) {x : Itm} (hx : ItmOk x) (hn : ∀ y ∈ L, y.1 ≠ x.1) : Qi (insQ x L) :=
  ⟨insQ_sorted x L h.sorted hn, insQ_nodes x L h.nodes hn, fun y hy => ((insQ_mem _ _ _).1 hy).elim (fun e => e ▸ hx) (h.ok y)⟩
theorem lessQ_mem (L : List Itm) (n : Int) (y : Itm) : y ∈ lessQ L n ↔ y ∈ L ∧ y.1 ≠ n := by simp [lessQ]
theorem Qi.less {L : List Itm} (h : Qi L) (n : Int) : Qi (lessQ L n) :=
  ⟨h.sorted.filter _, h.nodes.filter _, fun y hy => h.ok y ((lessQ_mem _ _ _).1 hy).1⟩
theorem lessQ_length_le (L : List Itm) (n : Int) : (lessQ L n).length ≤ L.length := List.length_filter_le _ _
theorem lessQ_none {L : List Itm} {n : Int} (h : ∀ y ∈ L, y.1 ≠ n) : lessQ L n = L := List.filter_eq_self.2 fun y hy => by simpa using h y hy
theorem lessQ_length {L : List Itm} (h : Qi L) {x : Itm} (hx : x ∈ L) : (lessQ L x.1).length + 1 = L.length := by
  have hn := h.nodes
  clear h
  induction L with
  | nil => cases hx
  | cons y r ih =>
    rw [List.pairwise_cons] at hn
    rcases List.mem_cons.1 hx with rfl | hx'
    · have e : lessQ (x :: r) x.1 = r := by
        unfold lessQ
        rw [List.filter_cons_of_neg (by simp)]
        exact lessQ_none fun y hy => Ne.symm (hn.1 y hy)
      rw [e]; rfl
    · have hne := hn.1 x hx'
      have e : lessQ (y :: r) x.1 = y :: lessQ r x.1 := List.filter_cons_of_pos (by simpa using hne)
      rw [e, List.length_cons, List.length_cons, ih hx' hn.2]
theorem Qi.take {L : List Itm} (h : Qi L) (n : Nat) : Qi (L.take n) :=
  ⟨h.sorted.take, h.nodes.take, fun x hx => h.ok x (List.mem_of_mem_take hx)⟩
theorem less_last {L : List Itm} (h : Qi L) (m : Nat) (hm : L.length = m + 1) : lessQ L (L[m]'(by omega)).1 = L.take m := by
  have hn := h.nodes
  have hsp : L = L.take m ++ [L[m]'(by omega)] := by
    rw [List.take_append_getElem (by omega : m < L.length), List.take_of_length_le (by omega)]
  generalize L[m]'(by omega) = x at *
  generalize L.take m = l at *
  subst hsp
  rw [List.pairwise_append] at hn
  unfold lessQ
  rw [List.filter_append, List.filter_cons_of_neg (by simp), List.filter_nil, List.append_nil]
  exact lessQ_none fun y hy => hn.2.2 y hy x (by simp)
def updI (u : Int × Int × Int) (t : Int) : Itm := (u.1, u.2.1, u.2.2, t)
def staleQ (L : List Itm) (u : Int × Int × Int) : Bool := L.any (fun x => (x.1 == u.1) && !newerS u.2.1 u.2.2 x.2.1 x.2.2.1)
def keepQ (L : List Itm) (x : Itm) : List Itm := insQ x (lessQ L x.1)
def putE (L : List Itm) (u : Int × Int × Int) : Int := if mayS u.1 u.2.2 then (if staleQ L u then 70 else 0) else 1
def putQ (L : List Itm) (u : Int × Int × Int) : List Itm := if mayS u.1 u.2.2 then (if staleQ L u then L else (keepQ L (updI u 0)).take 32) else L
def tellQ (c : Int) (L : List Itm) (x : Itm) : List Itm := if x.2.2.2 + 1 < c then keepQ L (x.1, x.2.1, x.2.2.1, x.2.2.2 + 1) else lessQ L x.1
def takeQ (L : List Itm) (n c : Int) : List Itm := (L.take n.toNat).foldl (tellQ c) L
theorem mayS_ok {n s : Int} (h : mayS n s = true) : 0 ≤ n ∧ n < 64 ∧ 0 ≤ s ∧ s ≤ 3 := by
  simp [mayS] at h
  exact h
theorem Qi.keep {L : List Itm} (h : Qi L) {x : Itm} (hx : ItmOk x) : Qi (keepQ L x) := (h.less x.1).ins hx fun _ hy => ((lessQ_mem _ _ _).1 hy).2
theorem keepQ_length {L : List Itm} (x : Itm) : (keepQ L x).length ≤ L.length + 1 := by
  unfold keepQ
  rw [insQ_length]
  have := lessQ_length_le L x.1
  omega
theorem keepQ_length_same {L : List Itm} (h : Qi L) (x : Itm) (hx : ∃ y ∈ L, y.1 = x.1) : (keepQ L x).length = L.length := by
  unfold keepQ
  obtain ⟨y, hy, e⟩ := hx
  rw [insQ_length, ← e, lessQ_length h hy]
theorem updI_ok {u : Int × Int × Int} (hm : mayS u.1 u.2.2 = true) (hi : 0 ≤ u.2.1 ∧ u.2.1 ≤ 18446744073709551615) : ItmOk (updI u 0) := by
  obtain ⟨a, b, c, d⟩ := mayS_ok hm
  exact ⟨a, b, hi.1, hi.2, c, d, by simp [updI], by simp [updI]⟩
theorem Qi.put {L : List Itm} (h : Qi L) {u : Int × Int × Int} (hi : 0 ≤ u.2.1 ∧ u.2.1 ≤ 18446744073709551615) : Qi (putQ L u) := by
  unfold putQ
  split
  · rename_i hm
    split
    · exact h
    · exact (h.keep (updI_ok hm hi)).take _
  · exact h
theorem putQ_length {L : List Itm} (h : L.length ≤ 32) (u : Int × Int × Int) : (putQ L u).length ≤ 32 := by
  unfold putQ
  split
  · split
    · exact h
    · rw [List.length_take]; omega
  · exact h
theorem Qi.tell {L : List Itm} (h : Qi L) {c : Int} (hc : c ≤ 192) {x : Itm} (hx : ItmOk x) : Qi (tellQ c L x) := by
  unfold tellQ
  split
  · exact h.keep ⟨hx.n0, hx.n1, hx.i0, hx.i1, hx.s0, hx.s1, by have := hx.t0; simp; omega, by simp; omega⟩
  · exact h.less _
theorem Qi.tells {c : Int} (hc : c ≤ 192) (l : List Itm) : ∀ {L : List Itm}, Qi L → (∀ x ∈ l, ItmOk x) → Qi (l.foldl (tellQ c) L) := by
  induction l with
  | nil => intro L h _; exact h
  | cons x r ih => intro L h hx; exact ih (h.tell hc (hx x (List.mem_cons_self))) fun y hy => hx y (List.mem_cons_of_mem _ hy)
theorem Qi.takes {L : List Itm} (h : Qi L) (n : Int) {c : Int} (hc : c ≤ 192) : Qi (takeQ L n c) := Qi.tells hc _ h fun x hx => h.ok x (List.mem_of_mem_take hx)
end Go.Proofs.YtpoofjnfaijjjaaGreatDoor.Ru
