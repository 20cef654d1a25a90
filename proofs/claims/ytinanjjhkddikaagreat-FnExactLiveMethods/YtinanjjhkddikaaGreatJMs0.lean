/- The machine, plainly: one step as the specification does it. -/
import Derived.Test.YtinanjjhkddikaaGreatJSu0
namespace Go.Proofs.YtinanjjhkddikaaGreat
namespace Pg
open Go.ChangeShapes Go.WideShapes Go.ChangeAt Go.RowKit St Wd

def takesS (op : Int) : Nat := if op = 3 ∨ op = 8 ∨ op = 9 ∨ op = 12 ∨ op = 15 ∨ op = 18 ∨ op = 19 ∨ op = 20 then 1 else if op = 4 ∨ op = 5 ∨ op = 6 ∨ op = 7 ∨ op = 10 ∨ op = 16 then 2 else 0
def putsS (op : Int) : Nat := if op = 1 ∨ op = 2 ∨ op = 4 ∨ op = 5 ∨ op = 6 ∨ op = 7 ∨ op = 13 ∨ op = 14 ∨ op = 15 ∨ op = 18 then 1 else if op = 8 ∨ op = 10 then 2 else 0
/-- Is it an object of a class or one under it? -/
def objS (p : Prg) (h : List Ob) (v : Vl) (c : Int) : Bool :=
  decide (v.1 = 2) && (match h[v.2.toNat]? with | none => false | some o => decide (0 ≤ o.cls) && decide (o.cls < (p.length : Int)) && undB p o.cls c)
def isS (p : Prg) (h : List Ob) (v : Vl) (t : Int) : Bool := if t = -1 then decide (v.1 = 1) else decide (v.1 = 3) || objS p h v t
/-- A class's own field, where there is one. -/
def fldS (p : Prg) (A B : Int) : Option Int := match p[A.toNat]? with | none => none | some c => c.fields[B.toNat]?
def placeS (p : Prg) (A B : Int) : Nat := match p[A.toNat]? with | none => 0 | some c => (fieldsR p 6 c.super).length + B.toNat
/-- The method that a frame runs. -/
def ownS (p : Prg) (f : Fr) : Option Meth := if f.cls < 0 then none else match p[f.cls.toNat]? with | none => none | some c => ownF c f.name
def methS (p : Prg) (c n : Int) : Option Meth := if c < 0 then none else match p[c.toNat]? with | none => none | some k => ownF k n
def topV (s : List Vl) : Vl := s.getLast?.getD (0, 0)
def nextV (s : List Vl) : Vl := s.dropLast.getLast?.getD (0, 0)
def withTop (m : Mc) (f : Fr) : Mc := { m with frames := m.frames.dropLast ++ [f] }
/-- On, with these put in the place of what was taken. -/
def onS (m : Mc) (f : Fr) (take : Nat) (put : List Vl) (pos : Int) : Mc × Int := (withTop m { f with stk := f.stk.take (f.stk.length - take) ++ put, pos := pos }, 0)
def callS (p : Prg) (m : Mc) (f : Fr) (A B : Int) : Mc × Int :=
  match methS p (selF p A B) B with
  | none => (m, 6)
  | some own =>
    if (p.length : Int) ≤ A then (m, 6) else
    if f.stk.length < own.args.length + 1 ∨ 8 < f.stk.length - own.args.length then (m, 6) else
    let keep := f.stk.length - own.args.length - 1
    if !((List.range own.args.length).all fun k => isS p m.heap ((f.stk[keep + 1 + k]?).getD (0, 0)) ((own.args[k]?).getD 0)) then (m, 6) else
    let who := (f.stk[keep]?).getD (0, 0)
    if who.1 = 3 then (m, 3) else
    if !(objS p m.heap who A) then (m, 6) else
    if m.frames.length = 30 then (m, 5) else
    let to := selF p ((m.heap[who.2.toNat]?).getD default).cls B
    ({ m with frames := (m.frames.dropLast ++ [{ f with stk := f.stk.take keep }]) ++ [⟨to, B, 0, [], frmV (f.stk.drop keep)⟩] }, 0)
def giveS (m : Mc) (v : Vl) : Mc × Int :=
  match m.frames.dropLast.getLast? with
  | none => ({ m with frames := [], code := v.2 }, 1)
  | some b => if b.stk.length = 8 then (m, 6) else ({ m with frames := m.frames.dropLast.dropLast ++ [{ b with stk := b.stk ++ [v], pos := b.pos + 1 }] }, 0)
def stepI (p : Prg) (m : Mc) (f : Fr) (own : Meth) (i : Tx.Ins) : Mc × Int :=
  let op := i.1; let A := i.2.1; let B := i.2.2
  let n := f.stk.length
  if n < takesS op ∨ 8 < n - takesS op + putsS op then (m, 6) else
  let top := topV f.stk
  let next := nextV f.stk
  if op = 1 then onS m f 0 [(1, A)] (f.pos + 1)
  else if op = 2 then onS m f 0 [(f.loc[A.toNat]?).getD (0, 0)] (f.pos + 1)
  else if op = 3 then onS m { f with loc := f.loc.set A.toNat top } 1 [] (f.pos + 1)
  else if op = 4 ∨ op = 5 ∨ op = 6 ∨ op = 7 then
    (if top.1 ≠ 1 ∨ next.1 ≠ 1 then (m, 6) else if op = 7 ∧ top.2 = 0 then (m, 2) else onS m f 2 [(1, sumS op next.2 top.2)] (f.pos + 1))
  else if op = 8 then onS m f 1 [top, top] (f.pos + 1)
  else if op = 9 then onS m f 1 [] (f.pos + 1)
  else if op = 10 then onS m f 2 [top, next] (f.pos + 1)
  else if op = 11 then onS m f 0 [] A
  else if op = 12 then (if top.1 ≠ 1 then (m, 6) else onS m f 1 [] (if top.2 = 0 then A else f.pos + 1))
  else if op = 13 then onS m f 0 [(3, 0)] (f.pos + 1)
  else if op = 14 then
    (if (p.length : Int) ≤ A then (m, 6) else if m.heap.length = 50 then (m, 4) else
      onS { m with heap := m.heap ++ [⟨A, (fieldsR p 6 A).map valF⟩] } f 0 [(2, (m.heap.length : Int))] (f.pos + 1))
  else if op = 15 then
    (if (fldS p A B).isNone then (m, 6) else if top.1 = 3 then (m, 3) else
      if !(objS p m.heap top A) then (m, 6) else
      match ((m.heap[top.2.toNat]?).getD default).flds[placeS p A B]? with
      | none => (m, 6)
      | some v => onS m f 1 [v] (f.pos + 1))
  else if op = 16 then
    (match fldS p A B with
    | none => (m, 6)
    | some t => if !(isS p m.heap top t) then (m, 6) else if next.1 = 3 then (m, 3) else
      if !(objS p m.heap next A) ∨ ((m.heap[next.2.toNat]?).getD default).flds.length ≤ placeS p A B then (m, 6) else
      let o := (m.heap[next.2.toNat]?).getD default
      onS { m with heap := m.heap.set next.2.toNat { o with flds := o.flds.set (placeS p A B) top } } f 2 [] (f.pos + 1))
  else if op = 17 then callS p m f A B
  else if op = 18 then (if top.1 = 1 then (m, 6) else onS m f 1 [(1, if top.1 = 3 then 1 else 0)] (f.pos + 1))
  else if op = 19 then
    (if top.1 ≠ 1 ∨ m.said.length = 20000 then (m, 6) else onS { m with said := m.said ++ [top.2] } f 1 [] (f.pos + 1))
  else (if !(isS p m.heap top own.gives) then (m, 6) else giveS m top)
/-- One step of a right machine that runs: what becomes of it, and how it ended. -/
def stepS (p : Prg) (m : Mc) : Mc × Int :=
  match m.frames.getLast? with
  | none => (m, 6)
  | some f => match ownS p f with
    | none => (m, 6)
    | some own => if f.pos < 0 ∨ (own.code.length : Int) ≤ f.pos then (m, 6) else stepI p m f own ((own.code[f.pos.toNat]?).getD (0, 0, 0))
def steppedS (p : Prg) (m : Mc) : Mc := if okP p && machB m then (if m.fin = 0 then { (stepS p m).1 with fin := (stepS p m).2 } else m) else zeroM
/-- A run: n steps at most, and how many were done. -/
def ranS (p : Prg) : Nat → Mc → Mc × Nat
  | 0, m => (m, 0)
  | n + 1, m => if m.fin = 0 then (let r := ranS p n { (stepS p m).1 with fin := (stepS p m).2 }; (r.1, r.2 + 1)) else (m, 0)
end Pg
end Go.Proofs.YtinanjjhkddikaaGreat
