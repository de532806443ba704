/-
  Others; dead; what RollLive needs. Mathematics of who is live.
-/
import Derived.Test.YtpoofjnfaijjjaaGreatDoorMRMat
import Derived.Test.YtpoofjnfaijjjaaGreatDoorMRBrf
import Derived.Test.YtpoofjnfaijjjaaGreatDoorMNRba
import Derived.Deep.RegionHeld3
import Derived.OpenShut
namespace Go.Proofs.YtpoofjnfaijjjaaGreatDoor.Ro
open Go.RowKit

theorem IsUpds.inok {w : World} {a : Option Addr} {len cap : Nat} {l : List Upd} (h : IsUpds w a len cap l) : ∀ u ∈ l, InOk u := fun u hu => bounds_u64 (h.2.2 u hu).i
theorem mod64 (x : Int) : ∃ k : Nat, x % 64 = k ∧ k < 64 := ⟨(x % 64).toNat, by omega, by omega⟩
theorem Own.ne {B p : Nat} {v : Value} {l : List Upd} {w : World} (h : Own B v l w) (hp : p < B) : v.ownBlock ≠ some p := fun e => by have := (h.lt p e).1; omega
theorem Ru.ne {p : Nat} {v : Value} {l : List Upd} {w : World} (h : Ru v l w) (hp : w.heap.size ≤ p) (hl : l.length ≠ 0) : v.ownBlock ≠ some p := fun e => by
  obtain ⟨a, cap, rfl, _, _, h3⟩ := h
  rcases h3 with h3 | ⟨g, off, rfl, h3⟩
  · exact hl h3
  · have := World.block_lt_of_cell? _ _ (h3 0 (by omega)).1
    have : g = p := by simpa [Value.ownBlock] using e
    simp at *
    omega

/-- A roll, and the table. -/
structure Ow (w0 : World) (p k : Nat) (f : Tab) (w : World) : Prop where
  roll : Rl p k f w
  tab : Bnd.Tab w
  below : Below w0.heap.size w0 w
section
variable {w0 : World} {p k : Nat} {f : Tab} {w w' : World}
theorem Ow.later (h : Ow w0 p k f w) (b : Below w.heap.size w w') : Ow w0 p k f w' := ⟨h.roll.below b, h.tab.below h.tab.lt b, h.below.trans (b.mono h.below.size)⟩
theorem Ow.drew (h : Ow w0 p k f w) : Ow w0 p k f w.drew := h.later (below_drewN _ _ 1)
theorem Ow.cme (h : Ow w0 p k f w) : w.cell? ⟨p, 0, none⟩ = some (.int .i64 k) := h.roll.cme
end

/-- The others that are live. -/
def othS (k : Nat) (f : Tab) : List Int := Bnd.lst (Bnd.lessS (bandS (allS f)) k)

/-- A row that reads as numbers. -/
theorem rd_row {B : Nat} {v : Value} {l : List Int} {w : World} (h : w.ownsRow B 3 1 v l.length (l.map (Value.int .i64))) : Rn.Rd .i64 v l w := by
  rcases h.2 with ⟨rfl, h0⟩ | ⟨g, cap, cur, hv, hb, hg, h1, h2, h3, h4⟩
  · exact ⟨none, 0, by rw [h0], by omega, by unfold maxLen; omega, fun _ => rfl, Or.inl h0⟩
  · refine ⟨some ⟨g, 0, none⟩, cap, hv, h1, h2, (fun e => by cases e), Or.inr ⟨g, 0, rfl, fun j hj => ?_⟩⟩
    have := World.ownsRow.cells h (g := g) (by rw [hv]; rfl) j (.int .i64 l[j]) (by simp [List.getElem?_eq_getElem hj])
    rw [add_off] at this
    exact this

set_option maxRecDepth 100000 in
set_option maxHeartbeats 1000000 in
theorem others_any (p k : Nat) (f : Tab) (w : World) (hR : Rl p k f w) (hT : Bnd.Tab w) :
    Calls Tryz.prog 88 #[.pointer (some ⟨p, 0, none⟩)] w fun e w' => (∃ v, e = .returned v ∧ Rn.Rd .i64 v (othS k f) w' ∧ ∀ g, v.ownBlock = some g → w.heap.size ≤ g) ∧ Below w.heap.size w w' := by
  have hS : Ow w p k f w := ⟨hR, hT, Below.refl _ _⟩
  unfold othS
  have hL := fun w' (h : Rl p k f w') => rlive_any p k f w' h
  have hlt := bandS_lt (allS f)
  generalize bandS (allS f) = b at *
  have hlt2 := Bnd.lessS_lt hlt (k : Int)
  go_enter Tryz.func88, Tryz.ntmps88
  go_wp2_with fail
  go_region_held3 (fun w' => w'.cell? ⟨p, 0, none⟩ = some (.int .i64 k)) (first | exact Ow.cme hS | exact Ow.cme (Ow.drew hS)) ((first
    | (go_at_call 64; refine (hL _ (by first | exact Ow.roll hS | exact Ow.roll (Ow.drew hS))).mono ?_; rintro e w4 ⟨rfl, hb4⟩; first | have hS := Ow.later hS hb4 | have hS := Ow.later (Ow.drew hS) hb4)
    | (go_at_call 135; refine (Bnd.less_any _ hlt _ _).mono ?_; rintro e w5 ⟨rfl, rfl⟩)
    | (go_at_call 134; refine (Bnd.list_any _ hlt2 _ (by first | exact Ow.tab hS | exact Ow.tab (Ow.drew hS))).mono ?_; rintro e w6 ⟨v6, rfl, hv6, hb6⟩; have hg6 := fun g hg => Nat.le_trans (Ow.below hS).size (World.ownsRow.lt hv6 g hg).1; have hv6 := rd_row hv6; first | have hS := Ow.later hS hb6 | have hS := Ow.later (Ow.drew hS) hb6)))
  all_goals go_wp2_with fail
  all_goals go_ret
  all_goals exact ⟨⟨v6, rfl, hv6, hg6⟩, hS.below⟩

end Go.Proofs.YtpoofjnfaijjjaaGreatDoor.Ro
namespace Go.Proofs.YtpoofjnfaijjjaaGreatDoor.Ro
open Go.RowKit

theorem pick_sorted (f : Tab) (b : Nat → Bool) (h : ∀ j, b j = true → (ud (f j)).n = j) : ∀ n, (pickN f b n).Pairwise (fun u v => u.n < v.n) ∧ ∀ u ∈ pickN f b n, u.n < n := by
  intro n
  induction n with
  | zero => exact ⟨List.Pairwise.nil, fun u hu => by cases hu⟩
  | succ n ih =>
    simp only [pickN]
    cases hb : b n
    · simp only [Bool.false_eq_true, if_false, List.append_nil]
      exact ⟨ih.1, fun u hu => by have := ih.2 u hu; omega⟩
    · simp only [if_true]
      have hn := h n hb
      refine ⟨List.pairwise_append.2 ⟨ih.1, List.pairwise_singleton _ _, fun u hu v hv => ?_⟩, fun u hu => ?_⟩
      · rw [List.mem_singleton.1 hv, hn]; exact ih.2 u hu
      · rcases List.mem_append.1 hu with hu | hu
        · have := ih.2 u hu; omega
        · rw [List.mem_singleton.1 hu, hn]; omega
theorem all_sorted {k : Nat} {f : Tab} (hI : Inv k f) {i : Nat} (h0 : 0 < i) (hi : i < (allS f).length) : (allS f)[i - 1].n < (allS f)[i].n := by
  have : (allS f).Pairwise (fun u v => u.n < v.n) := (pick_sorted f (fun j => (f j).isSome) (fun j hj => by
    obtain ⟨u, hu⟩ := Option.isSome_iff_exists.1 hj
    rw [hu, ud_some]
    exact (hI.may j u hu).2.1) 64).1
  exact List.pairwise_iff_getElem.1 this (i - 1) i (by omega) hi (by omega)
theorem all_get {k : Nat} {f : Tab} (hI : Inv k f) {u : Upd} (h : u ∈ allS f) : getS f u.n = some u ∧ 0 ≤ u.n ∧ u.n < 64 ∧ 0 ≤ u.s := by
  obtain ⟨j, hj, hu⟩ := all_mem h
  obtain ⟨h1, h2, _⟩ := hI.may j u hu
  have h3 := (may_iff u).1 h1
  refine ⟨?_, h3.1, h3.2.1, h3.2.2.1⟩
  unfold getS
  rw [if_pos (by omega), h2, Int.toNat_natCast]
  exact hu
theorem live_lt {s : Int} (h0 : 0 ≤ s) (h : s < 2) : liveS s = true := by
  have : s = 0 ∨ s = 1 := by omega
  rcases this with rfl | rfl <;> rfl
theorem live_ge {s : Int} (h : ¬ s < 2) : liveS s = false := by
  unfold liveS
  have h1 : (s == 0) = false := by simp; omega
  have h2 : (s == 1) = false := by simp; omega
  rw [h1, h2]; rfl

theorem testBit_band (l : List Upd) (j : Nat) : (bandS l).testBit j = l.any (fun u => liveS u.s && (Bnd.nodeS u.n && decide (u.n.toNat = j))) := by
  unfold bandS
  have : ∀ b : Nat, (l.foldl (fun b u => if liveS u.s then Bnd.withS b u.n else b) b).testBit j = (b.testBit j || l.any (fun u => liveS u.s && (Bnd.nodeS u.n && decide (u.n.toNat = j)))) := by
    induction l with
    | nil => intro b; simp
    | cons u l ih =>
      intro b
      rw [List.foldl_cons, ih, List.any_cons]
      cases h : liveS u.s
      · simp
      · simp only [if_true, Bool.true_and]
        rw [Bnd.testBit_withS, Bool.or_assoc]
  rw [this 0, Nat.zero_testBit, Bool.false_or]
/-- Is j known, and live? -/
def liveAt (f : Tab) (j : Nat) : Bool := (f j).isSome && liveS (ud (f j)).s
theorem mem_all {f : Tab} {j : Nat} {u : Upd} (hj : j < 64) (h : f j = some u) : u ∈ allS f := by
  have : ∀ n, j < n → u ∈ pickN f (fun j => (f j).isSome) n := by
    intro n
    induction n with
    | zero => intro h; omega
    | succ n ih =>
      intro hn
      simp only [pickN]
      by_cases e : j = n
      · subst e
        simp [h, ud]
      · exact List.mem_append_left _ (ih (by omega))
  exact this 64 hj
theorem testBit_all {k : Nat} {f : Tab} (hI : Inv k f) {j : Nat} (hj : j < 64) : (bandS (allS f)).testBit j = liveAt f j := by
  rw [testBit_band]
  cases h : liveAt f j
  · rw [List.any_eq_false]
    intro u hu
    obtain ⟨i, hi, hf⟩ := all_mem hu
    obtain ⟨_, h2, _⟩ := hI.may i u hf
    by_cases e : u.n.toNat = j
    · have : i = j := by omega
      subst this
      unfold liveAt at h
      rw [hf, ud_some] at h
      simp at h
      simp [h]
    · simp [e]
  · unfold liveAt at h
    rw [Bool.and_eq_true] at h
    obtain ⟨u, hu⟩ := Option.isSome_iff_exists.1 h.1
    have h2 := h.2
    rw [hu, ud_some] at h2
    rw [List.any_eq_true]
    obtain ⟨h3, h4, _⟩ := hI.may j u hu
    refine ⟨u, mem_all hj hu, ?_⟩
    have : Bnd.nodeS u.n = true := (Bnd.nodeS_iff _).2 (by omega)
    rw [h2, this]
    simp
    omega

def cnt (p : Nat → Bool) (n : Nat) : Nat := ((List.range n).filter p).length
theorem cnt_succ (p : Nat → Bool) (n : Nat) : cnt p (n + 1) = cnt p n + if p n then 1 else 0 := by
  unfold cnt
  rw [List.range_succ, List.filter_append, List.length_append]
  cases h : p n <;> simp [h]
theorem cnt_ext {p q : Nat → Bool} : ∀ n, (∀ j, j < n → p j = q j) → cnt p n = cnt q n := by
  intro n
  induction n with
  | zero => intro _; rfl
  | succ n ih => intro h; rw [cnt_succ, cnt_succ, ih (fun j hj => h j (by omega)), h n (by omega)]
theorem cnt_add (p q r : Nat → Bool) (h : ∀ j, (if p j then 1 else 0) = (if q j then 1 else 0) + (if r j then 1 else 0 : Nat)) : ∀ n, cnt p n = cnt q n + cnt r n := by
  intro n
  induction n with
  | zero => rfl
  | succ n ih => rw [cnt_succ, cnt_succ, cnt_succ, ih, h n]; omega
theorem cnt_one (k : Nat) : ∀ n, k < n → cnt (fun j => decide (j = k)) n = 1 := by
  have h0 : ∀ n, n ≤ k → cnt (fun j => decide (j = k)) n = 0 := by
    intro n
    induction n with
    | zero => intro _; rfl
    | succ n ih => intro h; rw [cnt_succ, ih (by omega), if_neg (by simp; omega)]
  intro n
  induction n with
  | zero => intro h; omega
  | succ n ih =>
    intro h
    rw [cnt_succ]
    by_cases e : n = k
    · subst e; rw [h0 n (Nat.le_refl _)]; simp
    · rw [ih (by omega), if_neg (by simpa using e)]
theorem pick_length (f : Tab) (b : Nat → Bool) : ∀ n, (pickN f b n).length = cnt b n := by
  intro n
  induction n with
  | zero => rfl
  | succ n ih =>
    rw [cnt_succ]
    simp only [pickN, List.length_append, ih]
    cases b n <;> rfl
/-- How many others are live. -/
theorem live_self {k : Nat} {f : Tab} (hI : Inv k f) : (bandS (allS f)).testBit k = true := by
  rw [testBit_all hI hI.lt]
  obtain ⟨i, hi⟩ := hI.mine
  unfold liveAt
  rw [hi]; rfl

end Go.Proofs.YtpoofjnfaijjjaaGreatDoor.Ro
