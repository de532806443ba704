/-
  A detector as plain data, and what each call answers, and makes of it, as plain functions. No program is known here.
-/
import Derived.Test.YtpoofjnfaijjjaaGreatDoorMRRrf
import Derived.Test.YtpoofjnfaijjjaaGreatDoorMURfq
import Derived.Test.YtpoofjnfaijjjaaGreatDoorMDErb
namespace Go.Proofs.YtpoofjnfaijjjaaGreatDoor
open Go.RowKit Go.Proofs.YtpoofjnfaijjjaaGreatDoor.Ro
structure Wch where
  n : Int
  q : Int
  a : Int
  h : Bool
structure Ern where
  n : Int
  q : Int
  a : Int
  f : Int
  t : Int
structure Nte where
  k : Int
  f : Int
  t : Int
  q : Int
  o : Int
  u : List Upd
structure Det where
  f : Tab
  s : List Int
  Q : List Ru.Itm
  D : List Do.Dbt
  W : List Wch
  E : List Ern
  la : Int
  no : Int
  le : Bool
abbrev two : Nat := 4611686018427387904
def Det.live (d : Det) : Nat := bandS (allS d.f)
def Det.many (d : Det) : Int := Bnd.manyS d.live
def Det.mine (k : Nat) (d : Det) : Upd := ud (d.f k)
def u64w (x : Int) : Int := IntKind.u64.wrap x
def triple (u : Upd) : Int × Int × Int := (u.n, u.i, u.s)
def Det.susp (d : Det) (u : Upd) (from_ : Int) : Det := { d with D := (Do.raiseS d.D u.n u.i u.s from_ d.no d.many two).2.2 }
def Det.tell (d : Det) (u : Upd) : Det := { d with Q := Ru.putQ d.Q (triple u) }
def Det.knows (d : Det) (u : Upd) : Bool := (getS d.f u.n).isSome && eqU (ud (getS d.f u.n)) u
def Det.learn (d : Det) (u : Upd) (from_ : Int) (was : Bool) (l : List Int) : Det × List Int :=
  if u.s = 1 then ((d.tell u).susp u from_, l)
  else if u.s = 0 ∧ was = false then
    ({ d.tell u with D := Do.lessD d.D u.n, s := (Rn.joinS d.s u.n l).1 }, (Rn.joinS d.s u.n l).2)
  else ({ d.tell u with D := Do.lessD d.D u.n }, l)
def Det.take (k : Nat) (d : Det) (u : Upd) (from_ : Int) (l : List Int) : Int × Det × List Int :=
  if (hearS k d.f u).1.2 = 1 ∨ (hearS k d.f u).1.2 = 60 then ((hearS k d.f u).1.2, { d with f := (hearS k d.f u).2 }, l)
  else if (hearS k d.f u).1.1 = true then (0, ({ d with f := (hearS k d.f u).2 } : Det).learn u from_ (Bnd.hasS d.live u.n) l)
  else if (hearS k d.f u).1.2 = 0 then (0, ({ d with f := (hearS k d.f u).2 } : Det).tell (ud ((hearS k d.f u).2 k)), l)
  else if u.s = 1 ∧ ({ d with f := (hearS k d.f u).2 } : Det).knows u = true then (0, ({ d with f := (hearS k d.f u).2 } : Det).susp u from_, l)
  else (0, { d with f := (hearS k d.f u).2 }, l)
def Det.pre (k : Nat) (d : Det) (x : Int) : List Upd :=
  if (getS d.f x).isSome = true ∧ ((ud (getS d.f x)).s = 1 ∨ (ud (getS d.f x)).s = 3) then [d.mine k, ud (getS d.f x)] else [d.mine k]
def Det.news (k : Nat) (d : Det) (x : Int) : List Upd := d.pre k x ++ (d.Q.take (8 - (d.pre k x).length)).map Ru.updOf
def Det.told (k : Nat) (d : Det) (x : Int) : Det := { d with Q := Ru.takeQ d.Q (8 - (d.pre k x).length : Nat) (Ru.capS d.many) }
def Det.next (d : Det) : Det := { d with la := u64w (d.la + 1) }
def Det.ping (k : Nat) (d : Det) (x : Int) : Nte := ⟨1, k, x, u64w (d.la + 1), 0, d.news k x⟩
def Det.pinged (k : Nat) (d : Det) (n : Nte) : List Nte × Det := ([⟨2, k, n.f, n.q, k, d.news k n.f⟩], d.told k n.f)
def ackE (n : Nte) (x : Ern) : Bool := x.q == n.q && x.n == n.f
def ackW (n : Nte) (x : Wch) : Bool := x.q == n.q && x.n == n.o
def Det.acked (k : Nat) (d : Det) (n : Nte) : List Nte × Det :=
  match d.E.find? (ackE n) with
  | some x => ([⟨2, k, x.f, x.t, n.f, d.news k x.f⟩], ({ d with E := d.E.eraseP (ackE n) } : Det).told k x.f)
  | none => ([], { d with W := d.W.filter (fun x => !ackW n x) })
def Det.helped (k : Nat) (d : Det) (n : Nte) : List Nte × Det :=
  if n.o = k then d.pinged k n
  else ([d.ping k n.o], { (d.next).told k n.o with E := (if 32 ≤ d.E.length then d.E.tail else d.E) ++ [⟨n.o, u64w (d.la + 1), d.no, n.f, n.q⟩] })
def Det.takes (k : Nat) (d : Det) (from_ : Int) : List Upd → List Int → Int × Det × List Int
  | [], l => (0, d, l)
  | u :: r, l => if (d.take k u from_ l).1 = 60 then (60, (d.take k u from_ l).2) else (d.take k u from_ l).2.1.takes k from_ r (d.take k u from_ l).2.2
def Det.first (k : Nat) (d : Det) (from_ : Int) (l : List Int) : Det × List Int :=
  if (getS d.f from_).isSome = true then (d, l) else (d.take k ⟨from_, 0, 0⟩ from_ l).2
def nodeB (n : Int) : Bool := decide (0 ≤ n) && decide (n < 64)
def Det.fault (k : Nat) (d : Det) (n : Nte) : Int :=
  if d.le = true then 5
  else if n.t ≠ k ∨ n.f = k ∨ nodeB n.f = false ∨ nodeB n.o = false then 1
  else if n.k < 1 ∨ 3 < n.k then 150
  else 0
def Det.answer (k : Nat) (d : Det) (n : Nte) : List Nte × Det :=
  if n.k = 1 then d.pinged k n else if n.k = 2 then d.acked k n else d.helped k n
def Det.hear (k : Nat) (d : Det) (n : Nte) (l : List Int) : (List Nte × Int) × Det × List Int :=
  if d.fault k n ≠ 0 then (([], d.fault k n), d, l)
  else
    let r := (d.first k n.f l).1.takes k n.f n.u (d.first k n.f l).2
    if r.1 ≠ 0 then (([], r.1), r.2)
    else (((r.2.1.answer k n).1, 0), (r.2.1.answer k n).2, r.2.2)
def Det.miss (k : Nat) (d : Det) (n : Int) (l : List Int) : Det × List Int :=
  if (getS d.f n).isSome = true ∧ (ud (getS d.f n)).s = 0 then (d.take k ⟨n, (ud (getS d.f n)).i, 1⟩ k l).2 else (d, l)
def Det.helps (k : Nat) (d : Det) (w : Wch) : List Int → List Nte × Det
  | [] => ([], d)
  | h :: r => (⟨3, k, h, w.q, w.n, d.news k h⟩ :: ((d.told k h).helps k w r).1, ((d.told k h).helps k w r).2)
def Det.ask (k : Nat) (d : Det) (w : Wch) (l : List Int) : List Nte × Det × List Int :=
  ((d.helps k w (Rn.helpS (othS k d.f) w.n 2 l).1).1, (d.helps k w (Rn.helpS (othS k d.f) w.n 2 l).1).2, (Rn.helpS (othS k d.f) w.n 2 l).2)
def Det.look (k : Nat) (d : Det) : List Wch → List Int → List Nte × List Wch × Det × List Int
  | [], l => ([], [], d, l)
  | w :: r, l =>
    if 4 ≤ u64w (d.no - w.a) then (d.miss k w.n l).1.look k r (d.miss k w.n l).2
    else if 2 ≤ u64w (d.no - w.a) ∧ w.h = false then
      ((d.ask k w l).1 ++ ((d.ask k w l).2.1.look k r (d.ask k w l).2.2).1, { w with h := true } :: ((d.ask k w l).2.1.look k r (d.ask k w l).2.2).2.1, ((d.ask k w l).2.1.look k r (d.ask k w l).2.2).2.2)
    else ((d.look k r l).1, w :: (d.look k r l).2.1, (d.look k r l).2.2)
def Det.lookAfter (k : Nat) (d : Det) (l : List Int) : List Nte × Det × List Int :=
  ((d.look k d.W l).1, { (d.look k d.W l).2.2.1 with W := (d.look k d.W l).2.1 }, (d.look k d.W l).2.2.2)
def Det.dead (k : Nat) (d : Det) : List Upd → List Int → Det × List Int
  | [], l => (d, l)
  | u :: r, l => (d.take k u k l).2.1.dead k r (d.take k u k l).2.2
def Det.pingNext (k : Nat) (d : Det) (l : List Int) : List Nte × Det × List Int :=
  if (Rn.nxtS d.s (othS k d.f) l).1.2 = false then ([], { d with s := (Rn.nxtS d.s (othS k d.f) l).2.1 }, (Rn.nxtS d.s (othS k d.f) l).2.2)
  else
    let d1 : Det := { d with s := (Rn.nxtS d.s (othS k d.f) l).2.1 }
    let n := (Rn.nxtS d.s (othS k d.f) l).1.1
    ([d1.ping k n], { (d1.next).told k n with W := d.W ++ [⟨n, u64w (d.la + 1), d.no, false⟩] }, (Rn.nxtS d.s (othS k d.f) l).2.2)
def Det.tick (k : Nat) (d : Det) (l : List Int) : List Nte × Det × List Int :=
  if d.le = true then ([], d, l)
  else
    let d0 : Det := { d with no := u64w (d.no + 1) }
    let r := d0.lookAfter k l
    let d1 : Det := { r.2.1 with E := r.2.1.E.filter (fun x => !decide (4 ≤ u64w (r.2.1.no - x.a))) }
    let d2 : Det := { d1 with D := Do.stayD d1.D d1.no }
    let x := d2.dead k ((Do.overD d1.D d1.no).map Do.deadOf) r.2.2
    let y := x.1.pingNext k x.2
    (r.1 ++ y.1, y.2)
def Det.new (k : Nat) : Det := (⟨newS k, [], [], [], [], [], 0, 0, false⟩ : Det).tell ⟨k, 0, 0⟩
end Go.Proofs.YtpoofjnfaijjjaaGreatDoor
