/-
  The walk of GuardLinear.
-/
import Derived.Test.YtlklobapdljpkaaSea
import Derived.OpenShut
import Derived.Deep.AppendLies
import Derived.Deep.RegionHeld3
import Derived.Deep.CutRange
namespace Go.Proofs.Ytlklobapdljpkaa
open Go.RowKit

theorem Try.info5 : (Try.prog.info? 5).map (fun i => (i.zero, i.size, i.bytes)) = some (some (.int .u8 0), 1, 1) := by kernel_rfl

theorem u8_xor (x y : UInt8) : bits .xor .u8 (x.toNat : Int) (y.toNat : Int) = ((x ^^^ y).toNat : Int) := by
  show IntKind.u8.wrap ((BitVec.ofInt 8 (x.toNat : Int) ^^^ BitVec.ofInt 8 (y.toNat : Int)).toNat : Int) = _
  rw [BitVec.ofInt_natCast, BitVec.ofInt_natCast]
  have e : (BitVec.ofNat 8 x.toNat ^^^ BitVec.ofNat 8 y.toNat).toNat = (x ^^^ y).toNat := by
    rw [BitVec.toNat_xor, BitVec.toNat_ofNat, BitVec.toNat_ofNat, Nat.mod_eq_of_lt x.toNat_lt, Nat.mod_eq_of_lt y.toNat_lt, UInt8.toNat_xor]
  rw [e]
  generalize x ^^^ y = z
  have := z.toNat_lt
  simp only [IntKind.wrap, IntKind.bits, IntKind.signed]
  simp
  omega

def vals (l : List UInt8) : List Value := l.map fun c => .int .u8 (c.toNat : Int)
theorem vals_snoc (l : List UInt8) (c : UInt8) : vals (l ++ [c]) = vals l ++ [.int .u8 (c.toNat : Int)] := by simp [vals]

/-- The row of bytes that v is, from block B on. -/
def Row (B : Nat) (v : Value) (l : List UInt8) (w : World) : Prop := w.ownsRow B 5 1 v l.length (vals l)
theorem Row.below {B : Nat} {v : Value} {l : List UInt8} {w w' : World} (h : Row B v l w) (hb : Below w.heap.size w w') : Row B v l w' := by
  have hlt := World.ownsRow.lt h
  obtain ⟨h1, h2⟩ := h
  refine ⟨h1, ?_⟩
  rcases h2 with h2 | ⟨g, cap, cur, hv, hg, hh, r⟩
  · exact Or.inl h2
  · have := hlt g (by simp [hv, Value.ownBlock])
    exact Or.inr ⟨g, cap, cur, hv, hg, (hb.block g this.2).trans hh, r⟩
theorem Row.str {B : Nat} {v : Value} {l : List UInt8} {w : World} (h : Row B v l w) : (convert 34 9 v).run Try.prog w = .ok (.string ⟨l.toArray⟩) w := by
  have e : strOfNums (l.map fun c => (c.toNat : Int)) = ⟨l.toArray⟩ := by
    simp only [strOfNums, List.map_map]
    have : ((fun n : Int => UInt8.ofNat n.toNat) ∘ fun b : UInt8 => (b.toNat : Int)) = id := by funext b; simp
    rw [this, List.map_id]
  rw [← e]
  rcases h.2 with ⟨hv, hn⟩ | ⟨g, cap, cur, hv, _⟩
  · have : l = [] := List.length_eq_zero_iff.1 hn
    subst this; subst hv
    exact run_convert_bytes_nil w 34 5 Try.underlying34 Try.underlying5 0 0 9 Try.underlying9
  · subst hv
    have hcl := World.ownsRow.cells h (g := g) rfl
    refine run_convert_bytes_arg w 34 5 Try.underlying34 Try.underlying5 g 0 l.length cap (l.map fun c => (c.toNat : Int)) (by simp) (fun i hi => ?_) 9 Try.underlying9
    have := hcl i (.int .u8 ((l.map fun c => (c.toNat : Int)).getD i 0)) (by simp [vals, List.getElem?_eq_getElem (by simpa using hi)])
    rw [← this]; unfold Addr.add; split <;> simp_all

/-- A row that stays. -/
structure Kept (v : Value) (l : List UInt8) (w0 w : World) : Prop where
  row : Row w0.heap.size v l w
  below : Below w0.heap.size w0 w
theorem Kept.call {v : Value} {l : List UInt8} {w0 w w' : World} (h : Kept v l w0 w) (hb : Below w.heap.size w w') : Kept v l w0 w' := ⟨h.row.below hb, h.below.trans (hb.mono h.below.size)⟩
theorem Kept.drew {v : Value} {l : List UInt8} {w0 w : World} (h : Kept v l w0 w) : Kept v l w0 w.drew := ⟨h.row, h.below.drew⟩
theorem Kept.both {v : Value} {l : List UInt8} {w0 w : World} {d : ByteArray} (h : Kept v l w0 w) (hd : d = ⟨l.toArray⟩) : Kept v l w0 w ∧ (convert 34 9 v).run Try.prog w = .ok (.string d) w := ⟨h, by rw [hd]; exact h.row.str⟩

/-- Bytes of three texts, one by one. -/
def zip3 (a b c : ByteArray) (n : Nat) : List UInt8 := List.zipWith (· ^^^ ·) (List.zipWith (· ^^^ ·) (a.data.toList.take n) (b.data.toList.take n)) (c.data.toList.take n)
theorem zip3_length (a b c : ByteArray) (n : Nat) (ha : n ≤ a.size) (hb : n ≤ b.size) (hc : n ≤ c.size) : (zip3 a b c n).length = n := by
  have h1 : (a.data.toList.take n).length = n := by rw [List.length_take]; exact Nat.min_eq_left ha
  have h2 : (b.data.toList.take n).length = n := by rw [List.length_take]; exact Nat.min_eq_left hb
  have h3 : (c.data.toList.take n).length = n := by rw [List.length_take]; exact Nat.min_eq_left hc
  simp only [zip3, List.length_zipWith, h1, h2, h3]
  omega
theorem zip3_succ (a b c : ByteArray) (n : Nat) (ha : n < a.size) (hb : n < b.size) (hc : n < c.size) : zip3 a b c (n + 1) = zip3 a b c n ++ [a[n] ^^^ b[n] ^^^ c[n]] := by
  have h1 : (a.data.toList.take n).length = n := by rw [List.length_take]; exact Nat.min_eq_left (Nat.le_of_lt ha)
  have h2 : (b.data.toList.take n).length = n := by rw [List.length_take]; exact Nat.min_eq_left (Nat.le_of_lt hb)
  have h3 : (c.data.toList.take n).length = n := by rw [List.length_take]; exact Nat.min_eq_left (Nat.le_of_lt hc)
  simp only [zip3]
  rw [take_snoc a n ha, take_snoc b n hb, take_snoc c n hc, List.zipWith_append (by omega), List.zipWith_append (by rw [List.length_zipWith]; omega)]
  rfl
theorem take_extract (a : ByteArray) (n : Nat) : (a.extract 0 n).data.toList = a.data.toList.take n := by
  rw [ByteArray.data_extract, Array.toList_extract]; simp
theorem linear_eq (a b c : ByteArray) (n : Nat) (ha : n ≤ a.size) (hb : n ≤ b.size) (hc : n ≤ c.size) :
    crc (⟨(zip3 a b c n).toArray⟩ : ByteArray).data.toList = crc (a.extract 0 n).data.toList ^^^ crc (b.extract 0 n).data.toList ^^^ crc (c.extract 0 n).data.toList := by
  rw [take_extract a n, take_extract b n, take_extract c n]
  have h1 : (a.data.toList.take n).length = n := by rw [List.length_take]; exact Nat.min_eq_left ha
  have h2 : (b.data.toList.take n).length = n := by rw [List.length_take]; exact Nat.min_eq_left hb
  have h3 : (c.data.toList.take n).length = n := by rw [List.length_take]; exact Nat.min_eq_left hc
  show crc (zip3 a b c n) = _
  exact crc_xor3 _ _ _ (by omega) (by omega)

set_option maxHeartbeats 2000000 in
theorem linear_walk (a b c : ByteArray) (_wa : a.size ≤ maxLen) (_wb : b.size ≤ maxLen) (_wc : c.size ≤ maxLen) (w : World) :
    Calls Try.prog 6 #[.string a, .string b, .string c] w fun e w' => e = .returned (.bool true) ∧ Below w.heap.size w w' := by
  clear _wa _wb _wc
  obtain ⟨i0, hi, hz0, hz1, hz2⟩ := info_parts Try.info5
  go_enter Try.func6, Try.ntmps6
  go_upto_region 1 with fail
  go_cut [7] from 10 to 61 (fun t7 wc => (∃ n : Nat, t7 = .int .i64 n ∧ n ≤ a.size ∧ n ≤ b.size ∧ n ≤ c.size) ∧ wc = w)
  case first =>
    go_wp2_with fail
    all_goals (go_meet; exact ⟨⟨_, rfl, by omega, by omega, by omega⟩, rfl⟩)
  case rest =>
    obtain ⟨⟨n, rfl, hna, hnb, hnc⟩, rfl⟩ := hcut
    by_cases hl : (500 : Int) < n
    · go_wp2_with (go_at_call 9; refine (shown_any _).mono ?_; rintro e w1 ⟨rfl, hb1⟩)
      go_ret
      exact ⟨rfl, hb1⟩
    · go_wp2_with (go_at_call 9; refine (shown_any _).mono ?_; rintro e w1 ⟨rfl, hb1⟩)
      have hz1' := hb1.size
      go_loopg [8, 9] n (fun gk t8 t9 wr => ∃ k : Nat, k + gk = n ∧ t9 = .int .i64 k ∧ Row wc.heap.size t8 (zip3 a b c k) wr ∧ Below wc.heap.size wc wr)
      case atStart =>
        refine ⟨0, by omega, rfl, ?_, hb1.alloc hz1' _⟩
        exact ⟨rfl, Or.inr ⟨w1.heap.size, 0, #[], rfl, hz1', by show (w1.heap.push _)[w1.heap.size]? = _; simp, Nat.le_refl _, by decide, rfl, rfl⟩⟩
      case round =>
        obtain ⟨k, hk, rfl, hO, hB⟩ := hrel
        have hll := zip3_length a b c k (by omega) (by omega) (by omega)
        have hBz := hB.size
        by_cases hlt : (k : Int) < n
        · have hlo : (0 : Int) ≤ k := by omega
          have ka : k < a.size := by omega
          have kb : k < b.size := by omega
          have kc : k < c.size := by omega
          have ia : (k : Int) < a.size := by omega
          have ib : (k : Int) < b.size := by omega
          have ic : (k : Int) < c.size := by omega
          have hx1 := u8_xor a[k] b[k]
          have hx2 := u8_xor (a[k] ^^^ b[k]) c[k]
          have HZ : Hid _ := zip3_succ a b c k ka kb kc
          generalize a[k] ^^^ b[k] = p at hx1 hx2 HZ
          generalize p ^^^ c[k] = q at hx2 HZ
          have hm1 : k + 1 ≤ maxLen := by unfold maxLen; omega
          have hm2 : (k + 1) * 1 ≤ 140737488355328 := by omega
          have hown : ∀ o, (wr.drew.alloc o).ownsRow wc.heap.size 5 1 u8 k (vals (zip3 a b c k)) := fun o => by
            have := World.ownsRow.alloc hO o
            rw [hll] at this
            exact this
          have hbs : ∀ o, wc.heap.size ≤ (wr.drew.alloc o).heap.size := fun o => by simp; omega
          go_wp2_with fail
          go_region_held3 (fun _ => True) (trivial) ((refine step_append_lies _ (by rfl) (.tmp 30) (.tmp 42) 34 (by rfl) wc.heap.size 5 i0 (.int .u8 0) 1 1 Try.underlying34 hi hz0 hz1 hz2 rfl (by decide) u8 k (vals (zip3 a b c k)) (by rfl) (hown _) ⟨wr.heap.size, 0, none⟩ 1 1 [.int .u8 (q.toNat : Int)] (by rfl) rfl (cell_one_new _ _ _) (by intro v hv; simp at hv; subst hv; rfl) (by omega) hm1 hm2 (hbs _) (wr.heap.size + 1) (by simp) ?_; intro g cap w2 hown2 hgrow2 hat2 hlt2))
          all_goals
            have hB2 : Below wc.heap.size wc w2 := ((hB.alloc hBz _).drew).grown hgrow2 (by simp; omega) (fun q hq => (World.ownsRow.lt hO q hq).1)
            clear hgrow2 hat2 hlt2 hown hbs
            go_wp2_with fail
            go_roundg (gk - 1)
            case measure => omega
            case rel =>
              refine ⟨k + 1, by omega, by go_num, ?_, hB2⟩
              show World.ownsRow _ _ _ _ _ _ _
              rw [HZ.out, vals_snoc, List.length_append, hll]
              exact hown2
        · obtain rfl : k = n := by omega
          have sa : (a.extract 0 k).size ≤ 1000000000 := by rw [ByteArray.size_extract]; omega
          have sb : (b.extract 0 k).size ≤ 1000000000 := by rw [ByteArray.size_extract]; omega
          have sc : (c.extract 0 k).size ≤ 1000000000 := by rw [ByteArray.size_extract]; omega
          have sd : (⟨(zip3 a b c k).toArray⟩ : ByteArray).size ≤ 1000000000 := by show (zip3 a b c k).toArray.size ≤ _; rw [List.size_toArray, hll]; omega
          have HE : Hid _ := linear_eq a b c k hna hnb hnc
          have ia : (k : Int) ≤ a.size := by omega
          have ib : (k : Int) ≤ b.size := by omega
          have ic : (k : Int) ≤ c.size := by omega
          have i0' : (0 : Int) ≤ k := by omega
          have hux := u_xor
          obtain ⟨d, hd⟩ : ∃ d, d = (⟨(zip3 a b c k).toArray⟩ : ByteArray) := ⟨_, rfl⟩
          rw [← hd] at sd HE
          have HD : Hid _ := hd
          clear hd
          have hK : Kept u8 (zip3 a b c k) wc wr := ⟨hO, hB⟩
          clear hO hB
          go_wp2_with fail
          go_region_held3 (fun w' => Kept u8 (zip3 a b c k) wc w' ∧ (convert 34 9 u8).run Try.prog w' = .ok (.string d) w') (first | exact Kept.both hK HD.out | exact Kept.both (Kept.drew hK) HD.out) ((go_at_call 12; refine (sum_any _ _ (by assumption)).mono ?_; (try rw [HE.out]); rintro e w' ⟨rfl, hb⟩; (first | have hK := Kept.call hK hb | have hK := Kept.call (Kept.drew hK) hb)))
          all_goals go_wp2_with fail
          all_goals go_ret
          all_goals exact ⟨rfl, hK.below⟩
end Go.Proofs.Ytlklobapdljpkaa
