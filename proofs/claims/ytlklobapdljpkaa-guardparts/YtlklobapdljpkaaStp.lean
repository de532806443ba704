/-
  The walks of guard's steps.
-/
import Derived.Test.YtlklobapdljpkaaProg
import Derived.Test.YtlklobapdljpkaaCrc
import Derived.WalkLawsBesides
import Derived.Deep.LoopGhost
import Derived.Deep.MidRow
import Derived.Deep.Cut
import Derived.Deep.QuietTactic
import Derived.BigQuiet
namespace Go.Proofs.Ytlklobapdljpkaa
open Go.RowKit

set_option maxHeartbeats 400000 in
theorem steps_any (q : Nat) (many : Nat) (x : B32) (w : World) (hm : many ≤ 8) (hq : w.cell? ⟨q, 0, none⟩ = some (.int .i64 many)) :
    Calls Try.prog 26 #[.int .u32 (u x), .pointer (some ⟨q, 0, none⟩)] w fun e w' => e = .returned (.int .u32 (u (stepN many x))) ∧ w' = w := by
  go_enter Try.func26, Try.ntmps26
  go_wp2
  go_loopg [0, 4, 6] many (fun gk t0 t4 t6 wr => ∃ k : Nat, k + gk = many ∧ t6 = .int .i64 k ∧ t0 = .int .u32 (u (stepN k x)) ∧ wr = w)
  case atStart => exact ⟨0, by omega, rfl, rfl, rfl⟩
  case round =>
    obtain ⟨k, hk, rfl, rfl, rfl⟩ := hrel
    have h0 := u_lo (stepN k x)
    have h1 := u_hi (stepN k x)
    by_cases hlt : (k : Int) < many
    · go_wp2
      go_roundg (gk - 1)
      case rel => exact ⟨k + 1, by omega, by go_num, by rw [u_step]; rfl, rfl⟩
      case measure => omega
    · go_wp2
      go_ret
      have e : k = many := by omega
      subst e
      exact ⟨rfl, rfl⟩

set_option maxHeartbeats 400000 in
theorem stepper_any (many : Int) (w : World) :
    Calls Try.prog 25 #[.int .i64 many] w fun e w' => e = .returned (.func (.func 26) #[] #[.pointer (some ⟨w.heap.size, 0, none⟩)]) ∧ w' = w.alloc (.cells #[.int .i64 many] 3) := by
  go_enter Try.func25, Try.ntmps25
  go_wp2
  go_ret
  exact ⟨rfl, rfl⟩

def half (i : Nat) : B32 := stepN 4 (BitVec.ofNat 32 i)
theorem u_small (k : Nat) (h : k < 4294967296) : (k : Int) = u (BitVec.ofNat 32 k) := by
  unfold u; rw [BitVec.toNat_ofNat, Nat.mod_eq_of_lt (by omega)]

/-- Block b is the cells c, of type T. -/
def At (b : Nat) (T : TypeId) (c : Array Value) (w : World) : Prop := w.heap[b]? = some (.cells c T (0, 0))
theorem At.cell {b : Nat} {T : TypeId} {c : Array Value} {w : World} (h : At b T c w) (i : Nat) : w.cell? ⟨b, i, none⟩ = c[i]? := by unfold At at h; simp [World.cell?, h]
theorem At.frozen {b : Nat} {T : TypeId} {c : Array Value} {w : World} (h : At b T c w) (i : Nat) : w.frozen? ⟨b, i, none⟩ = false := by unfold At at h; simp [World.frozen?, h]
theorem At.lt {b : Nat} {T : TypeId} {c : Array Value} {w : World} (h : At b T c w) : b < w.heap.size := (Array.getElem?_eq_some_iff.1 h).1
theorem At.set {b : Nat} {T : TypeId} {c : Array Value} {w : World} (h : At b T c w) (i : Nat) (v : Value) : At b T (c.setIfInBounds i v) (w.setCell ⟨b, i, none⟩ v) := by
  unfold At at *; simp [World.setCell, Array.getElem?_modify, h]
theorem At.other {b : Nat} {T : TypeId} {c : Array Value} {w : World} (h : At b T c w) {q : Addr} (hq : b ≠ q.block) (v : Value) : At b T c (w.setCell q v) :=
  (Below.heap_setCell _ _ _ _ hq).trans h
theorem At.alloc {b : Nat} {T : TypeId} {c : Array Value} {w : World} (h : At b T c w) (o : Obj) : At b T c (w.alloc o) := (Below.heap_alloc _ _ _ h.lt).trans h
theorem At.new (c : Array Value) (T : TypeId) (w : World) : At w.heap.size T c (w.alloc (.cells c T)) := by
  show (w.heap.push _)[w.heap.size]? = _; simp
theorem At.below {b : Nat} {T : TypeId} {c : Array Value} {B : Nat} {w w' : World} (h : At b T c w) (hb : Below B w w') (hl : b < B) : At b T c w' := (hb.block b hl).trans h
theorem At.drew {b : Nat} {T : TypeId} {c : Array Value} {w : World} (h : At b T c w) : At b T c w.drew := h
theorem At.range {b : Nat} {T : TypeId} {c : Array Value} {w : World} (h : At b T c w) : w.rangeAt b 0 c.toList := fun j v hv => by
  rw [Nat.zero_add, h.cell]; simpa using hv
theorem At.there {b : Nat} {T : TypeId} {c : Array Value} {w : World} (h : At b T c w) {n : Nat} (hn : n = c.size) : w.there b 0 n := fun j hj => by
  rw [Nat.zero_add, h.cell, h.frozen]; simp; omega
theorem At.setAll {b : Nat} {T : TypeId} {c : Array Value} {w : World} (h : At b T c w) (d : Array Value) (hd : d.size = c.size) : At b T d (w.setCells b 0 d.toList) := by
  have key : ∀ (vs : List Value) (o : Nat) (w : World) (c : Array Value), At b T c w → o + vs.length = c.size → At b T ((c.toList.take o) ++ vs).toArray (w.setCells b o vs) := by
    intro vs
    induction vs with
    | nil =>
      intro o w c h ho
      simp only [World.setCells, List.append_nil]
      rw [List.take_of_length_le (by simp at ho ⊢; omega)]
      simpa using h
    | cons v r ih =>
      intro o w c h ho
      rw [World.setCells]
      have := ih (o + 1) _ _ (h.set o v) (by simp at ho ⊢; omega)
      have e : (c.setIfInBounds o v).toList.take (o + 1) ++ r = c.toList.take o ++ v :: r := by
        have hl : o < c.toList.length := by simp at ho ⊢; omega
        rw [Array.toList_setIfInBounds, List.take_add_one, List.getElem?_set_self hl, List.take_set_of_le (Nat.le_refl _)]
        simp
      rw [← e]; exact this
  have := key d.toList 0 w c h (by simp [hd])
  simpa using this

theorem below_setCells {B : Nat} {a : World} {b : Nat} (hb : B ≤ b) : ∀ (vs : List Value) (o : Nat) (w : World), Below B a w → Below B a (w.setCells b o vs)
  | [], _, _, h => h
  | v :: r, o, w, h => by rw [World.setCells]; exact below_setCells hb r (o + 1) _ (h.setCell hb v)
theorem results_cell {fn : Func} {p : Tmp} {ty : TypeId} (h : fn.results = #[.cell p ty]) (tmps : Array Value) (P : Program) (w : World) :
    (results fn tmps).run P w = ((asAddr (tmps.getD p undef)).run P w).andThen fun a w₁ => (loadVar ty a).run P w₁ := by
  simp only [results, h]
  simp [Sem.run_bind, Result.andThen]
theorem zeros16 (f : Nat → B32) : tab f 16 0 = #[.int .u32 0, .int .u32 0, .int .u32 0, .int .u32 0, .int .u32 0, .int .u32 0, .int .u32 0, .int .u32 0, .int .u32 0, .int .u32 0, .int .u32 0, .int .u32 0, .int .u32 0, .int .u32 0, .int .u32 0, .int .u32 0] := rfl
theorem Try.size39 : (Try.prog.info? 39).map (·.size) = some 16 := by kernel_rfl
theorem Try.size44 : (Try.prog.info? 44).map (·.size) = some 32 := by kernel_rfl

set_option maxHeartbeats 1000000 in
theorem half_any (w : World) :
    Calls Try.prog 20 #[] w fun e w' => e = .returned (.agg (tab half 16 16)) ∧ Below w.heap.size w w' := by
  go_enter Try.func20, Try.ntmps20
  go_wp2_with (go_at_call 25; refine (stepper_any _ _).mono ?_; rintro e w' ⟨rfl, rfl⟩)
  rw [← zeros16 half]
  go_loopg [3, 5] 16 (fun gk t3 t5 wr => ∃ k : Nat, k + gk = 16 ∧ t5 = .int .i64 k ∧ At w.heap.size 39 (tab half 16 0) wr ∧ At (w.heap.size + 1) 3 #[.int .i64 4] wr ∧ At (w.heap.size + 1 + 1) 39 (tab half 16 k) wr ∧ Below w.heap.size w wr)
  case atStart =>
    refine ⟨0, by omega, rfl, ((At.new _ _ _).alloc _).alloc _, ?_, ?_, (((Below.refl _ _).alloc (Nat.le_refl _) _).alloc (by simp) _).alloc (by simp; omega) _⟩
    · have := (At.new #[.int .i64 4] 3 (w.alloc (.cells (tab half 16 0) 39))).alloc (.cells (tab half 16 0) 39); simpa using this
    · have := At.new (tab half 16 0) 39 ((w.alloc (.cells (tab half 16 0) 39)).alloc (.cells #[.int .i64 4] 3)); simpa using this
  case round =>
    obtain ⟨k, hk, rfl, hR, hM, hT, hB⟩ := hrel
    by_cases hlt : (k : Int) < 16
    · have hlo : (0 : Int) ≤ k := by omega
      have hc := hT.cell k
      rw [tab_get _ _ _ _ (by omega)] at hc
      have hf := hT.frozen k
      have hcm : wr.cell? ⟨w.heap.size + 1, 0, none⟩ = some (.int .i64 (4 : Nat)) := hM.cell 0
      have HU := (show Hid _ from u_small k (by omega))
      go_wp2_with fail
      rw [HU.out]
      refine (steps_any _ 4 _ _ (by omega) hcm).mono ?_
      rintro e w' ⟨rfl, rfl⟩
      rw [← HU.out]
      go_wp2_with fail
      go_roundg (gk - 1)
      case rel =>
        refine ⟨k + 1, by omega, by go_num, hR.other (by simp; omega) _, hM.other (by simp) _, ?_, hB.setCell (by simp; omega) _⟩
        rw [← tab_set]; exact hT.set k _
      case measure => omega
    · obtain rfl : k = 16 := by omega
      go_upto_region 8 with fail
      apply wp_region_lit
      refine wpList_load_mid (by rfl) 39 (.tmp 2) (by rfl) (w.heap.size + 1 + 1) 0 (by rfl) _ _ hT.range Try.underlying39 rfl (by rw [Try.size39]; simp [tab_size]) ?_
      refine wpList_store_mid (by rfl) 39 (.tmp 0) (.tmp 15) (by rfl) w.heap.size 0 (tab half 16 16) (by rfl) (by rfl) (hR.there (by simp [tab_size])) (by rw [Try.size39]; simp [tab_size]) (tab_one _ _ _) ?_
      have hE := hR.setAll (tab half 16 16) (by simp [tab_size])
      have hld := run_loadVar_mid _ _ 0 39 _ _ hE.range Try.underlying39 rfl (by rw [Try.size39]; simp [tab_size])
      go_wp2_with fail
      refine bodyPost_ret (v := .agg (tab half 16 16)) ?_ rfl ⟨rfl, ?_⟩
      · rw [results_cell rfl]
        simp [asAddr, Result.andThen, hld]
      · exact below_setCells (Nat.le_refl _) _ _ _ hB

end Go.Proofs.Ytlklobapdljpkaa
