/-
  Six orders of three things, as keys of a map.
-/
import Derived.Test.YtfmnnfmcibnhpaaSom
import Derived.ProofKit
import Derived.WideKeyPair
import Derived.Maps.OwnSet
namespace Go.Proofs.Ytfmnnfmcibnhpaa
open Go.RowKit Go.Maps Go.WideMaps

theorem Try.laidOut : laidOutB Try.prog = true := by kernel_rfl
theorem Try.row43 : (43 : TypeId) < Try.prog.types.size := of_decide_eq_true (by kernel_rfl)
theorem Try.cells43 : Try.prog.cellsOf 43 = 3 := by kernel_rfl
theorem Try.wide43 : (match Try.prog.underlying 43 with | some (.array _ _) | some (.struct _) => true | _ => false) = true := by rw [Try.underlying43]
theorem Try.arr43 : ArrKey Try.prog 43 3 3 := ⟨Try.underlying43, by kernel_rfl, by kernel_rfl, Try.cells43⟩
theorem law43 : Keyed Try.prog 43 := Keyed.of_law (deep_law_laid Try.laidOut (m := 2) (by omega) Try.row43 (by kernel_rfl) Try.wide43)

abbrev Tri := Int × Int × Int
def keyT (t : Tri) : Lit := .string (keyBytes [.int .i64 t.1, .int .i64 t.2.1, .int .i64 t.2.2])
def Fine (t : Tri) : Prop := (Lit.int .i64 t.1).wf = true ∧ (Lit.int .i64 t.2.1).wf = true ∧ (Lit.int .i64 t.2.2).wf = true
def aggT (t : Tri) : Value := .agg #[.int .i64 t.1, .int .i64 t.2.1, .int .i64 t.2.2]

theorem sizeSome : ∃ m, Try.prog.types.size = m + 1 := ⟨_, (Nat.succ_pred_eq_of_pos (show 0 < Try.prog.types.size from Nat.lt_of_le_of_lt (Nat.zero_le 43) Try.row43)).symm⟩

theorem keyOf_triple (t : Tri) (h : Fine t) : keyOf Try.prog 43 (aggT t) = some (keyT t) := by
  obtain ⟨wa, wb, wc⟩ := h
  have A := Try.arr43
  have hkt := A.keyType sizeSome
  obtain ⟨m, hm⟩ := sizeSome
  unfold keyOf aggT keyT
  simp only [A.hu]
  rw [if_pos (by simp [hkt, Value.formed, A.hu, A.size]), hm]
  unfold Program.keyLits
  simp only [A.hu, Value.cells]
  rw [if_pos (by rw [A.size]; rfl), show List.range 3 = [0, 1, 2] from rfl, List.mapM_cons, List.mapM_cons, List.mapM_cons, List.mapM_nil]
  simp [A.one, Program.keyLits, Try.underlying3, wa, wb, wc]

theorem keyT_inj {t t' : Tri} (h : Fine t) (h' : Fine t') (e : keyT t = keyT t') : t = t' := by
  have := law43.inj (keyOf_triple t h) (by rw [e]; exact keyOf_triple t' h')
  unfold aggT at this
  simp at this
  exact Prod.ext this.1 (Prod.ext this.2.1 this.2.2)

def six (a b c : Int) : List Tri := [(b, c, a), (c, b, a), (c, a, b), (a, c, b), (b, a, c), (a, b, c)]

theorem foldl_addKey : ∀ (xs acc : List Lit), (acc ++ xs).Pairwise (· ≠ ·) → xs.foldl addKey acc = acc ++ xs
  | [], acc, _ => by simp
  | x :: xs, acc, h => by
    have h1 : addKey acc x = acc ++ [x] := by
      unfold addKey
      rw [if_neg]
      intro e
      obtain ⟨y, hy, hs⟩ := List.any_eq_true.1 e
      have hne : y ≠ x := (List.pairwise_append.1 h).2.2 y hy x (by simp)
      rw [sameKey_ne hne] at hs
      cases hs
    rw [List.foldl_cons, h1, foldl_addKey xs (acc ++ [x]) (by rw [List.append_assoc]; exact h), List.append_assoc]
    rfl

def one : DataW Unit := .lit (.bool true)
/-- The map that has the first n of the six. -/
def setN (a b c : Int) (n : Nat) : DataW Unit := setOf one (((six a b c).take n).map keyT)
theorem setN_step (a b c : Int) (n : Nat) (t : Tri) (h : (six a b c)[n]? = some t) : setN a b c (n + 1) = (setN a b c n).put (keyT t) one := by
  unfold setN
  rw [List.take_add_one, h, List.map_append]
  exact setOf_snoc _ _ _
theorem setN_six (a b c : Int) (wa : (Lit.int .i64 a).wf = true) (wb : (Lit.int .i64 b).wf = true) (wc : (Lit.int .i64 c).wf = true) (hab : a ≠ b) (hbc : b ≠ c) (hac : a ≠ c) : Maps.size (setN a b c 6) = 6 := by
  unfold setN
  rw [size_setOf _ _ (by intro x hx; obtain ⟨t, _, rfl⟩ := List.mem_map.1 hx; trivial), foldl_addKey _ [] ?_]
  · rfl
  · show ((six a b c).map keyT).Pairwise _
    rw [List.pairwise_map]
    have hf : ∀ t ∈ six a b c, Fine t := by
      intro t ht
      simp only [six, List.mem_cons, List.not_mem_nil, or_false] at ht
      rcases ht with rfl | rfl | rfl | rfl | rfl | rfl <;> simp [Fine, wa, wb, wc]
    have hp : (six a b c).Pairwise (· ≠ ·) := by
      have := hab.symm
      have := hbc.symm
      have := hac.symm
      simp [six, *]
    exact hp.imp_of_mem fun h1 h2 h3 e => h3 (keyT_inj (hf _ h1) (hf _ h2) e)

theorem shuf_six (a b c : Int) (i k : Nat) (hi : i < 3) (hk : k < 2) : ∃ x y z, (six a b c)[2 * i + k]? = some (x, y, z) ∧ (shufS [a, b, c] [(i : Int), (k : Int)]).1 = [x, y, z] := by
  rcases i with _ | _ | _ | i
  · rcases k with _ | _ | k
    · exact ⟨_, _, _, rfl, rfl⟩
    · exact ⟨_, _, _, rfl, rfl⟩
    · omega
  · rcases k with _ | _ | k
    · exact ⟨_, _, _, rfl, rfl⟩
    · exact ⟨_, _, _, rfl, rfl⟩
    · omega
  · rcases k with _ | _ | k
    · exact ⟨_, _, _, rfl, rfl⟩
    · exact ⟨_, _, _, rfl, rfl⟩
    · omega
  · omega
end Go.Proofs.Ytfmnnfmcibnhpaa
