/-
  The walk of LotActs.
-/
import Derived.Test.YtfmnnfmcibnhpaaRfs
import Derived.Test.YtfmnnfmcibnhpaaOps
import Derived.Deep.RegionHeld3
namespace Go.Proofs.Ytfmnnfmcibnhpaa
open Go.RowKit

/-- How things stand: the lots at p, the reference's at q, what is asked now at b. -/
structure St (w0 : World) (B p q : Nat) (a : Option Addr) (cap : Nat) (l m m' : List Int) (b o : Nat) (A : Ask) (w : World) : Prop where
  lt : Lt B p m w
  lf : Lf w0 q (.slice a l.length cap) l m' w
  at0 : AskAt w0 b o A
  g0 : w0.heap.size ≤ B
  g2 : p < q
  g3 : b < w0.heap.size
section
variable {w0 : World} {B p q : Nat} {a : Option Addr} {cap : Nat} {l m m' : List Int} {b o : Nat} {A : Ask} {w w' : World}
theorem St.act (h : St w0 B p q a cap l m m' b o A w) : AskAt w b o A := h.at0.below h.lf.below h.g3
theorem St.drew (h : St w0 B p q a cap l m m' b o A w) : St w0 B p q a cap l m m' b o A w.drew := ⟨h.lt.drew, h.lf.drew, h.at0, h.g0, h.g2, h.g3⟩
theorem St.one {m2 : List Int} (h : St w0 B p q a cap l m m' b o A w) (h1 : Lt B p m2 w') (hb : But w.heap.size p w w') : St w0 B p q a cap l m2 m' b o A w' :=
  ⟨h1, h.lf.but hb (by have := h.g2; omega) (Nat.le_trans h.g0 h.lt.le), h.at0, h.g0, h.g2, h.g3⟩
theorem St.two {m2 : List Int} (h : St w0 B p q a cap l m m' b o A w) (h1 : Lf w0 q (.slice a l.length cap) l m2 w') (hb : But w.heap.size q w w') : St w0 B p q a cap l m m2 b o A w' :=
  ⟨h.lt.but hb (Or.inr h.g2), h1, h.at0, h.g0, h.g2, h.g3⟩
theorem St.later (h : St w0 B p q a cap l m m' b o A w) (hb : Below w.heap.size w w') : St w0 B p q a cap l m m' b o A w' :=
  ⟨h.lt.below hb, h.lf.later hb, h.at0, h.g0, h.g2, h.g3⟩
theorem St.c1 (h : St w0 B p q a cap l m m' b o A w) : w.cell? ⟨b, o + 1, none⟩ = some (.int .i64 A.n) := h.act.c1
theorem St.c2 (h : St w0 B p q a cap l m m' b o A w) : w.cell? ⟨b, o + 2, none⟩ = some (.slice A.a A.l.length A.cap) := h.act.c2
theorem St.rd (h : St w0 B p q a cap l m m' b o A w) : Rd .i64 (.slice A.a A.l.length A.cap) A.l w := h.act.rd
end

set_option maxRecDepth 100000 in
set_option maxHeartbeats 4000000 in
theorem acts_core (a : Option Addr) (cap : Nat) (l : List Int) (b off len cap' : Nat) (I : Nat → Ask) (w : World) (hR : Rd .u64 (.slice a l.length cap) l w) (hok : Ok l) (hl : (l.length : Int) ≤ 300) (hlen : (len : Int) ≤ 60) (hb : b < w.heap.size) (hat : Hid (∀ i, i < len → AskAt w b (off + i * 3) (I i))) :
    Calls Try.prog 3 #[.slice a l.length cap, .slice (some ⟨b, off, none⟩) len cap'] w fun e w' => e = .returned (.bool true) ∧ Below w.heap.size w w' := by
  have hl9 : l.length ≤ 1000000 := by omega
  go_enter Try.func3, Try.ntmps3
  go_wp2_with fail
  refine (shown_any _).mono ?_
  rintro e w1 ⟨rfl, hb1⟩
  go_wp2_with fail
  refine (new_any _ l _ (by omega) (hR.below hb1)).mono ?_
  rintro e w2 ⟨⟨p, rfl, hL2⟩, hb2⟩
  have z1 := hb1.size
  have z2 := hb2.size
  have b2 : Below w.heap.size w w2 := hb1.trans (hb2.mono z1)
  have hpq := hL2.lt
  have hL3 := hL2.below ((Below.refl _ _).alloc (Nat.le_refl _) (.cells #[.slice a l.length cap, .int .i64 0] 28))
  have hF3 : Lf w w2.heap.size (.slice a l.length cap) l l (w2.alloc (.cells #[.slice a l.length cap, .int .i64 0] 28)) := ⟨⟨0, Nat.zero_le _, rfl, heap_alloc_new w2 _⟩, b2.alloc (by omega) _, by omega⟩
  go_wp2_with fail
  generalize w2.alloc _ = w3 at hL3 hF3
  generalize w2.heap.size = q at *
  go_loopg [7] len (fun gk t7 wr => ∃ (k : Nat) (m : List Int), k + gk = len ∧ t7 = .int .i64 k ∧ Ok m ∧ Lt w1.heap.size p m wr ∧ Lf w q (.slice a l.length cap) l m wr)
  case atStart => exact ⟨0, l, by omega, rfl, hok, hL3, hF3⟩
  case round =>
    clear hL3 hF3 hL2 hb1 hb2 b2
    obtain ⟨k, m, hk, rfl, hm, hP, hQ⟩ := hrel
    by_cases hlt : (k : Int) < len
    · have hS : St w w1.heap.size p q a cap l m m b (off + k * 3) (I k) wr := ⟨hP, hQ, hat.out k (by omega), z1, hpq, hb⟩
      clear hP hQ
      have k0 : (0 : Int) ≤ k := by omega
      generalize I k = A at hS
      have c0 := hS.act.c0
      have c1 := hS.act.c1
      have c2 := hS.act.c2
      have hn := hS.act.lt
      have hqz := hS.lf.lt
      by_cases hA : (100 : Int) < A.l.length
      · go_wp2_with (go_at_call 9; refine (shown_any _).mono ?_; rintro e w5 ⟨rfl, hb5⟩)
        go_ret
        exact ⟨rfl, hS.lf.below.trans (hb5.mono hS.lf.below.size)⟩
      have hA9 : A.l.length ≤ 1000000 := by omega
      by_cases hk0 : A.kind = 0
      · have hk0' : (A.kind == 0) = true := by simp [hk0]
        clear hk0
        obtain ⟨x, HX⟩ : ∃ x, Hid (m.headD 0 = x) := ⟨_, rfl⟩
        go_wp2_with fail
        refine (next_any _ p m _ hS.lt).mono ?_
        rw [HX.out]
        rintro e w4 ⟨rfl, h4, hb4⟩
        have hS := hS.one h4 hb4
        go_wp2_with fail
        refine (fnext_any w q a cap l m _ hl9 hR hS.lf).mono ?_
        rw [HX.out]
        rintro e w5 ⟨rfl, h5, hb5⟩
        have hS := hS.two h5 hb5
        obtain ⟨LL, HLL⟩ : ∃ n : Nat, Hid (List.length m.tail = n) := ⟨_, rfl⟩
        go_wp2_with fail
        refine (left_any _ p m.tail _ hS.lt).mono ?_
        rw [HLL.out]
        rintro e w' ⟨rfl, rfl⟩
        go_wp2_with fail
        refine (fleft_any w q a cap l m.tail _ hl9 hS.lf).mono ?_
        rw [HLL.out]
        rintro e wz ⟨rfl, hbz⟩
        have hS := hS.later hbz
        go_wp2_with fail
        go_roundg (gk - 1)
        case rel => exact ⟨k + 1, m.tail, by omega, by go_num, hm.tail, hS.lt, hS.lf⟩
        case measure => omega
      · have hk0' : (A.kind == 0) = false := by simp [hk0]
        clear hk0
        by_cases hk1 : A.kind = 1
        · have hk1' : (A.kind == 1) = true := by simp [hk1]
          clear hk1
          obtain ⟨x, HX⟩ : ∃ x, Hid ((belowS m A.n).1 = x) := ⟨_, rfl⟩
          go_wp2_with fail
          go_region_held3 (fun w' => w'.cell? ⟨b, off + k * 3 + 1, none⟩ = some (.int .i64 A.n)) (first | exact St.c1 hS | exact St.c1 (St.drew hS)) ((first
            | (go_at_call 13; refine (below_any _ p m A.n _ (by first | exact St.lt hS | exact St.lt (St.drew hS)) hm hn).mono ?_; rw [HX.out]; rintro e w4 ⟨rfl, h4, hb4⟩; first | have hS := St.one hS h4 hb4 | have hS := St.one (St.drew hS) h4 hb4)
            | (go_at_call 14; refine (fbelow_any w q a cap l m A.n _ hl9 hR (by first | exact St.lf hS | exact St.lf (St.drew hS)) hm hn).mono ?_; rw [HX.out]; rintro e w5 ⟨rfl, h5, hb5⟩; first | have hS := St.two hS h5 hb5 | have hS := St.two (St.drew hS) h5 hb5)))
          all_goals obtain ⟨LL, HLL⟩ : ∃ n : Nat, Hid (List.length (belowS m A.n).2 = n) := ⟨_, rfl⟩
          all_goals go_wp2_with fail
          all_goals refine (left_any _ p (belowS m A.n).2 _ hS.lt).mono ?_
          all_goals rw [HLL.out]
          all_goals rintro e w' ⟨rfl, rfl⟩
          all_goals go_wp2_with fail
          all_goals refine (fleft_any w q a cap l (belowS m A.n).2 _ hl9 hS.lf).mono ?_
          all_goals rw [HLL.out]
          all_goals rintro e wz ⟨rfl, hbz⟩
          all_goals have hS := hS.later hbz
          all_goals go_wp2_with fail
          all_goals go_roundg (gk - 1)
          case rel => exact ⟨k + 1, (belowS m A.n).2, by omega, by go_num, hm.below _, hS.lt, hS.lf⟩
          case measure => omega
        · have hk1' : (A.kind == 1) = false := by simp [hk1]
          clear hk1
          by_cases hk2 : A.kind = 2
          · have hk2' : (A.kind == 2) = true := by simp [hk2]
            clear hk2
            have hsl := shufS_length A.l m
            go_wp2_with fail
            go_region_held3 (fun w' => w'.cell? ⟨b, off + k * 3 + 2, none⟩ = some (.slice A.a A.l.length A.cap)) (first | exact St.c2 hS | exact St.c2 (St.drew hS)) ((first
              | (go_at_call 16; refine (shuffle_any _ p _ A.l m _ hA9 (by first | exact St.rd hS | exact St.rd (St.drew hS)) (by first | exact St.lt hS | exact St.lt (St.drew hS)) hm).mono ?_; rintro e w4 ⟨⟨v4, rfl, r4, o4⟩, h4, hb4⟩; first | have hS := St.one hS h4 hb4 | have hS := St.one (St.drew hS) h4 hb4)
              | (go_at_call 17; refine (fshuffle_any w q a cap l m _ A.l _ hl9 hR (by first | exact St.lf hS | exact St.lf (St.drew hS)) hm hA9 (by first | exact St.rd hS | exact St.rd (St.drew hS))).mono ?_; rintro e w5 ⟨⟨v5, rfl, r5, o5⟩, h5, hb5⟩; have r4 := Rd.but r4 hb5 (fun g hg => Nat.ne_of_gt (Nat.lt_of_lt_of_le hqz (o4 g hg).1)); first | have hS := St.two hS h5 hb5 | have hS := St.two (St.drew hS) h5 hb5)
              | (go_at_call 15; refine (same_any _ _ _ _ (by rw [hsl]; exact hA9) (by first | exact r4 | exact Rd.drew r4) (by first | exact r5 | exact Rd.drew r5)).mono ?_; rintro e w6 ⟨rfl, hb6⟩; first | have hS := St.later hS hb6 | have hS := St.later (St.drew hS) hb6)))
            all_goals obtain ⟨LL, HLL⟩ : ∃ n : Nat, Hid (List.length (shufS A.l m).2 = n) := ⟨_, rfl⟩
            all_goals go_wp2_with fail
            all_goals refine (left_any _ p (shufS A.l m).2 _ hS.lt).mono ?_
            all_goals rw [HLL.out]
            all_goals rintro e w' ⟨rfl, rfl⟩
            all_goals go_wp2_with fail
            all_goals refine (fleft_any w q a cap l (shufS A.l m).2 _ hl9 hS.lf).mono ?_
            all_goals rw [HLL.out]
            all_goals rintro e wz ⟨rfl, hbz⟩
            all_goals have hS := hS.later hbz
            all_goals go_wp2_with fail
            all_goals go_roundg (gk - 1)
            case rel => exact ⟨k + 1, (shufS A.l m).2, by omega, by go_num, shufS_ok _ hm, hS.lt, hS.lf⟩
            case measure => omega
          · have hk2' : (A.kind == 2) = false := by simp [hk2]
            clear hk2
            by_cases hk3 : A.kind = 3
            · have hk3' : (A.kind == 3) = true := by simp [hk3]
              clear hk3
              have hsl : (someS A.l m A.n).1.length ≤ 1000000 := by
                unfold someS; split
                · simp
                · rw [List.length_take, shufS_length]; omega
              go_wp2_with fail
              go_region_held3 (fun w' => w'.cell? ⟨b, off + k * 3 + 2, none⟩ = some (.slice A.a A.l.length A.cap) ∧ w'.cell? ⟨b, off + k * 3 + 1, none⟩ = some (.int .i64 A.n)) (first | exact ⟨St.c2 hS, St.c1 hS⟩ | exact ⟨St.c2 (St.drew hS), St.c1 (St.drew hS)⟩) ((first
                | (go_at_call 18; refine (some_any _ p _ A.l m A.n _ hA9 hn (by first | exact St.rd hS | exact St.rd (St.drew hS)) (by first | exact St.lt hS | exact St.lt (St.drew hS)) hm).mono ?_; rintro e w4 ⟨⟨v4, rfl, r4, o4⟩, h4, hb4⟩; first | have hS := St.one hS h4 hb4 | have hS := St.one (St.drew hS) h4 hb4)
                | (go_at_call 19; refine (fsome_any w q a cap l m _ A.l A.n _ hl9 hR (by first | exact St.lf hS | exact St.lf (St.drew hS)) hm hA9 hn (by first | exact St.rd hS | exact St.rd (St.drew hS))).mono ?_; rintro e w5 ⟨⟨v5, rfl, r5, o5⟩, h5, hb5⟩; have r4 := Rd.but r4 hb5 (fun g hg => Nat.ne_of_gt (Nat.lt_of_lt_of_le hqz (o4 g hg).1)); first | have hS := St.two hS h5 hb5 | have hS := St.two (St.drew hS) h5 hb5)
                | (go_at_call 15; refine (same_any _ _ _ _ hsl (by first | exact r4 | exact Rd.drew r4) (by first | exact r5 | exact Rd.drew r5)).mono ?_; rintro e w6 ⟨rfl, hb6⟩; first | have hS := St.later hS hb6 | have hS := St.later (St.drew hS) hb6)))
              all_goals obtain ⟨LL, HLL⟩ : ∃ n : Nat, Hid (List.length (someS A.l m A.n).2 = n) := ⟨_, rfl⟩
              all_goals go_wp2_with fail
              all_goals refine (left_any _ p (someS A.l m A.n).2 _ hS.lt).mono ?_
              all_goals rw [HLL.out]
              all_goals rintro e w' ⟨rfl, rfl⟩
              all_goals go_wp2_with fail
              all_goals refine (fleft_any w q a cap l (someS A.l m A.n).2 _ hl9 hS.lf).mono ?_
              all_goals rw [HLL.out]
              all_goals rintro e wz ⟨rfl, hbz⟩
              all_goals have hS := hS.later hbz
              all_goals go_wp2_with fail
              all_goals go_roundg (gk - 1)
              case rel => exact ⟨k + 1, (someS A.l m A.n).2, by omega, by go_num, someS_ok _ _ hm, hS.lt, hS.lf⟩
              case measure => omega
            · have hk3' : (A.kind == 3) = false := by simp [hk3]
              clear hk3
              obtain ⟨LL, HLL⟩ : ∃ n : Nat, Hid (List.length m = n) := ⟨_, rfl⟩
              go_wp2_with fail
              refine (left_any _ p m _ hS.lt).mono ?_
              rw [HLL.out]
              rintro e w' ⟨rfl, rfl⟩
              go_wp2_with fail
              refine (fleft_any w q a cap l m _ hl9 hS.lf).mono ?_
              rw [HLL.out]
              rintro e wz ⟨rfl, hbz⟩
              have hS := hS.later hbz
              go_wp2_with fail
              go_roundg (gk - 1)
              case rel => exact ⟨k + 1, m, by omega, by go_num, hm, hS.lt, hS.lf⟩
              case measure => omega
    · go_wp2_with fail
      refine (left_any _ p _ _ hP).mono ?_
      rintro e w' ⟨rfl, rfl⟩
      go_wp2_with fail
      refine (fleft_any w q a cap l _ _ hl9 hQ).mono ?_
      generalize m.length = LL
      rintro e wz ⟨rfl, hbz⟩
      go_wp2_with fail
      go_ret
      exact ⟨rfl, hQ.below.trans (hbz.mono hQ.below.size)⟩

set_option maxRecDepth 100000 in
set_option maxHeartbeats 1000000 in
theorem acts_long (a : Option Addr) (cap : Nat) (l : List Int) (a' : Option Addr) (len' cap' : Nat) (w : World) (h : (300 : Int) < l.length ∨ ((l.length : Int) ≤ 300 ∧ (60 : Int) < len')) :
    Calls Try.prog 3 #[.slice a l.length cap, .slice a' len' cap'] w fun e w' => e = .returned (.bool true) ∧ Below w.heap.size w w' := by
  rcases h with h | ⟨h, h'⟩
  all_goals
    go_enter Try.func3, Try.ntmps3
    go_wp2_with (go_at_call 9; refine (shown_any _).mono ?_; rintro e w1 ⟨rfl, hB1⟩)
    go_ret
    exact ⟨rfl, hB1⟩

set_option maxRecDepth 100000 in
set_option maxHeartbeats 1000000 in
theorem acts_none (a : Option Addr) (cap : Nat) (l : List Int) (a' : Option Addr) (cap' : Nat) (w : World) (hR : Rd .u64 (.slice a l.length cap) l w) (hl : (l.length : Int) ≤ 300) :
    Calls Try.prog 3 #[.slice a l.length cap, .slice a' 0 cap'] w fun e w' => e = .returned (.bool true) ∧ Below w.heap.size w w' := by
  have hl9 : l.length ≤ 1000000 := by omega
  go_enter Try.func3, Try.ntmps3
  go_wp2_with fail
  refine (shown_any _).mono ?_
  rintro e w1 ⟨rfl, hb1⟩
  go_wp2_with fail
  refine (new_any _ l _ (by omega) (hR.below hb1)).mono ?_
  rintro e w2 ⟨⟨p, rfl, hL2⟩, hb2⟩
  have z1 := hb1.size
  have z2 := hb2.size
  have b2 : Below w.heap.size w w2 := hb1.trans (hb2.mono z1)
  have hP := hL2.below ((Below.refl _ _).alloc (Nat.le_refl _) (.cells #[.slice a l.length cap, .int .i64 0] 28))
  have hQ : Lf w w2.heap.size (.slice a l.length cap) l l (w2.alloc (.cells #[.slice a l.length cap, .int .i64 0] 28)) := ⟨⟨0, Nat.zero_le _, rfl, heap_alloc_new w2 _⟩, b2.alloc (by omega) _, by omega⟩
  go_wp2_with fail
  generalize w2.alloc _ = w3 at hP hQ
  generalize w2.heap.size = q at *
  go_loopg [7] 0 (fun gk t7 wr => t7 = .int .i64 0 ∧ wr = w3)
  case atStart => exact ⟨rfl, rfl⟩
  case round =>
    obtain ⟨rfl, rfl⟩ := hrel
    go_wp2_with fail
    refine (left_any _ p _ _ hP).mono ?_
    rintro e w' ⟨rfl, rfl⟩
    go_wp2_with fail
    refine (fleft_any w q a cap l _ _ hl9 hQ).mono ?_
    generalize l.length = LL
    rintro e wz ⟨rfl, hbz⟩
    go_wp2_with fail
    go_ret
    exact ⟨rfl, hQ.below.trans (hbz.mono hQ.below.size)⟩

theorem acts_walk (a : Option Addr) (len cap : Nat) (l : List Int) (a' : Option Addr) (len' cap' : Nat) (I : Nat → Ask) (w : World) (h : Lots w a len cap l) (h' : IsAsks w a' len' cap' I) :
    Calls Try.prog 3 #[.slice a len cap, .slice a' len' cap'] w fun e w' => e = .returned (.bool true) ∧ Below w.heap.size w w' := by
  obtain ⟨hR, hok⟩ := h
  obtain rfl := hR.len
  obtain ⟨_, _, h3⟩ := h'
  by_cases hl : (300 : Int) < l.length
  · exact acts_long a cap l a' len' cap' w (Or.inl hl)
  · by_cases hk : (60 : Int) < len'
    · exact acts_long a cap l a' len' cap' w (Or.inr ⟨by omega, hk⟩)
    · rcases h3 with rfl | ⟨b, off, rfl, hb, hc⟩
      · exact acts_none a cap l a' cap' w hR (by omega)
      · exact acts_core a cap l b off len' cap' I w hR hok (by omega) (by omega) hb hc
end Go.Proofs.Ytfmnnfmcibnhpaa
