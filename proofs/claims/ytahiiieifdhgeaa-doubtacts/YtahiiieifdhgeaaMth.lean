/-
  Plain mathematics of bands: the nodes of a number below 2^64, what is told of them as plain functions. No program is known here.
-/
import Derived.WalkKit
namespace Go.Proofs.Ytahiiieifdhgeaa.Bnd
open Go

abbrev lim : Nat := 18446744073709551616

/-! ## What is answered, as plain functions -/

/-- The nodes of b, rising. -/
def nodesS (b : Nat) : List Nat := (List.range 64).filter (fun i => b.testBit i)
def lst (b : Nat) : List Int := (nodesS b).map (fun (i : Nat) => (i : Int))
def nodeS (n : Int) : Bool := decide (0 ≤ n) && decide (n < 64)
def bitS (n : Int) : Nat := if nodeS n then 2 ^ n.toNat else 0
def hasS (b : Nat) (n : Int) : Bool := nodeS n && b.testBit n.toNat
def withS (b : Nat) (n : Int) : Nat := b ||| bitS n
def lessS (b : Nat) (n : Int) : Nat := if hasS b n then b - 2 ^ n.toNat else b
def manyS (b : Nat) : Nat := (nodesS b).length
def firstS (b : Nat) : Int × Bool := match lst b with | [] => (0, false) | x :: _ => (x, true)
def nextS (b : Nat) (n : Int) : Int × Bool := match (lst b).find? (fun k => decide (n < k)) with | some k => (k, true) | none => firstS b
def placeS (b : Nat) (n : Int) : Nat := ((lst b).filter (fun k => decide (k < n))).length
def majorS (b o : Nat) : Bool := decide (manyS o < 2 * manyS (b &&& o))
def ofS (l : List Int) : Nat := l.foldl withS 0

theorem nodeS_iff (n : Int) : nodeS n = true ↔ 0 ≤ n ∧ n < 64 := by simp [nodeS]
theorem bitS_lt (n : Int) : bitS n < lim := by
  unfold bitS
  split
  · rename_i h
    obtain ⟨h1, h2⟩ := (nodeS_iff n).1 h
    have : 2 ^ n.toNat ≤ 2 ^ 63 := Nat.pow_le_pow_right (by decide) (by omega)
    exact Nat.lt_of_le_of_lt this (by decide)
  · decide
theorem withS_lt {b : Nat} (h : b < lim) (n : Int) : withS b n < lim := Nat.or_lt_two_pow (n := 64) h (bitS_lt n)
theorem lessS_lt {b : Nat} (h : b < lim) (n : Int) : lessS b n < lim := by
  unfold lessS; split
  · exact Nat.lt_of_le_of_lt (Nat.sub_le _ _) h
  · exact h
theorem and_lt {a b : Nat} (h : a < lim) : a &&& b < lim := Nat.lt_of_le_of_lt Nat.and_le_left h
theorem ofS_lt (l : List Int) : ofS l < lim := by
  unfold ofS
  suffices ∀ b, b < lim → l.foldl withS b < lim from this 0 (by decide)
  induction l with
  | nil => intro b h; exact h
  | cons x r ih => intro b h; exact ih _ (withS_lt h x)
theorem testBit_ge {b : Nat} (h : b < lim) {i : Nat} (hi : 64 ≤ i) : b.testBit i = false :=
  Nat.testBit_lt_two_pow (Nat.lt_of_lt_of_le h (Nat.pow_le_pow_right (n := 2) (by decide) hi))
theorem eq_of_bits {a b : Nat} (ha : a < lim) (hb : b < lim) (h : ∀ i, i < 64 → a.testBit i = b.testBit i) : a = b := by
  refine Nat.eq_of_testBit_eq fun i => ?_
  by_cases hi : i < 64
  · exact h i hi
  · rw [testBit_ge ha (by omega), testBit_ge hb (by omega)]

theorem mem_nodes {b i : Nat} : i ∈ nodesS b ↔ i < 64 ∧ b.testBit i = true := by simp [nodesS]
theorem mem_lst {b : Nat} {x : Int} : x ∈ lst b ↔ hasS b x = true := by
  unfold lst hasS
  constructor
  · intro h
    obtain ⟨i, hi, rfl⟩ := List.mem_map.1 h
    obtain ⟨h1, h2⟩ := mem_nodes.1 hi
    have : nodeS (i : Int) = true := (nodeS_iff _).2 ⟨by omega, by omega⟩
    simp [this, h2]
  · intro h
    rw [Bool.and_eq_true, nodeS_iff] at h
    exact List.mem_map.2 ⟨x.toNat, mem_nodes.2 ⟨by omega, h.2⟩, by omega⟩
theorem lst_range {b : Nat} {x : Int} (h : x ∈ lst b) : 0 ≤ x ∧ x < 64 := by
  have := mem_lst.1 h
  unfold hasS at this
  rw [Bool.and_eq_true, nodeS_iff] at this
  exact this.1
theorem lst_length (b : Nat) : (lst b).length = manyS b := by simp [lst, manyS]
theorem many_le (b : Nat) : manyS b ≤ 64 := by
  have := List.length_filter_le (fun i => b.testBit i) (List.range 64)
  simpa [manyS, nodesS] using this
theorem nodes_sorted (b : Nat) : (nodesS b).Pairwise (· < ·) := List.Pairwise.filter _ List.pairwise_lt_range
theorem lst_sorted (b : Nat) : (lst b).Pairwise (· < ·) := by
  unfold lst
  rw [List.pairwise_map]
  exact (nodes_sorted b).imp fun h => by omega
theorem testBit_bitS (n : Int) (i : Nat) : (bitS n).testBit i = (nodeS n && decide (n.toNat = i)) := by
  unfold bitS
  split
  · rename_i h; rw [h, Nat.testBit_two_pow]; simp
  · rename_i h
    rw [Bool.not_eq_true] at h
    rw [h]; simp
theorem testBit_withS (b : Nat) (n : Int) (i : Nat) : (withS b n).testBit i = (b.testBit i || (nodeS n && decide (n.toNat = i))) := by
  unfold withS; rw [Nat.testBit_or, testBit_bitS]

end Go.Proofs.Ytahiiieifdhgeaa.Bnd
