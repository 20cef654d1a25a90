/- The machine, plainly: one step as the specification does it. -/
import Derived.Test.YtffkkhaiedhaiaaJMa0
import Derived.Test.YtffkkhaiedhaiaaJSu0
import Derived.Test.YtffkkhaiedhaiaaJNx3
import Derived.Deep.LoopGhost
import Derived.Deep.RegionHeld3
namespace Go.Proofs.Ytffkkhaiedhaiaa
namespace Pg
open Go.ChangeShapes Go.WideShapes Go.ChangeAt Go.RowKit St Wd

def takesS (op : Int) : Nat := if op = 3 ∨ op = 8 ∨ op = 9 ∨ op = 12 ∨ op = 15 ∨ op = 18 ∨ op = 19 ∨ op = 20 then 1 else if op = 4 ∨ op = 5 ∨ op = 6 ∨ op = 7 ∨ op = 10 ∨ op = 16 then 2 else 0
def putsS (op : Int) : Nat := if op = 1 ∨ op = 2 ∨ op = 4 ∨ op = 5 ∨ op = 6 ∨ op = 7 ∨ op = 13 ∨ op = 14 ∨ op = 15 ∨ op = 18 then 1 else if op = 8 ∨ op = 10 then 2 else 0
/-- Is it an object of a class or one under it? -/
def objS (p : Prg) (h : List Ob) (v : Vl) (c : Int) : Bool :=
  decide (v.1 = 2) && (match h[v.2.toNat]? with | none => false | some o => decide (0 ≤ o.cls) && decide (o.cls < (p.length : Int)) && undB p o.cls c)
def isS (p : Prg) (h : List Ob) (v : Vl) (t : Int) : Bool := if t = -1 then decide (v.1 = 1) else decide (v.1 = 3) || objS p h v t
/-- A class's own field, where there is one. -/
def fldS (p : Prg) (A B : Int) : Option Int := match p[A.toNat]? with | none => none | some c => c.fields[B.toNat]?
def placeS (p : Prg) (A B : Int) : Nat := match p[A.toNat]? with | none => 0 | some c => (fieldsR p 6 c.super).length + B.toNat
/-- The method that a frame runs. -/
def ownS (p : Prg) (f : Fr) : Option Meth := if f.cls < 0 then none else match p[f.cls.toNat]? with | none => none | some c => ownF c f.name
def methS (p : Prg) (c n : Int) : Option Meth := if c < 0 then none else match p[c.toNat]? with | none => none | some k => ownF k n
def topV (s : List Vl) : Vl := s.getLast?.getD (0, 0)
def nextV (s : List Vl) : Vl := s.dropLast.getLast?.getD (0, 0)
def withTop (m : Mc) (f : Fr) : Mc := { m with frames := m.frames.dropLast ++ [f] }
/-- On, with these put in the place of what was taken. -/
def onS (m : Mc) (f : Fr) (take : Nat) (put : List Vl) (pos : Int) : Mc × Int := (withTop m { f with stk := f.stk.take (f.stk.length - take) ++ put, pos := pos }, 0)
def callS (p : Prg) (m : Mc) (f : Fr) (A B : Int) : Mc × Int :=
  match methS p (selF p A B) B with
  | none => (m, 6)
  | some own =>
    if (p.length : Int) ≤ A then (m, 6) else
    if f.stk.length < own.args.length + 1 ∨ 8 < f.stk.length - own.args.length then (m, 6) else
    let keep := f.stk.length - own.args.length - 1
    if !((List.range own.args.length).all fun k => isS p m.heap ((f.stk[keep + 1 + k]?).getD (0, 0)) ((own.args[k]?).getD 0)) then (m, 6) else
    let who := (f.stk[keep]?).getD (0, 0)
    if who.1 = 3 then (m, 3) else
    if !(objS p m.heap who A) then (m, 6) else
    if m.frames.length = 30 then (m, 5) else
    let to := selF p ((m.heap[who.2.toNat]?).getD default).cls B
    ({ m with frames := (m.frames.dropLast ++ [{ f with stk := f.stk.take keep }]) ++ [⟨to, B, 0, [], frmV (f.stk.drop keep)⟩] }, 0)
def giveS (m : Mc) (v : Vl) : Mc × Int :=
  match m.frames.dropLast.getLast? with
  | none => ({ m with frames := [], code := v.2 }, 1)
  | some b => if b.stk.length = 8 then (m, 6) else ({ m with frames := m.frames.dropLast.dropLast ++ [{ b with stk := b.stk ++ [v], pos := b.pos + 1 }] }, 0)
def stepI (p : Prg) (m : Mc) (f : Fr) (own : Meth) (i : Tx.Ins) : Mc × Int :=
  let op := i.1; let A := i.2.1; let B := i.2.2
  let n := f.stk.length
  if n < takesS op ∨ 8 < n - takesS op + putsS op then (m, 6) else
  let top := topV f.stk
  let next := nextV f.stk
  if op = 1 then onS m f 0 [(1, A)] (f.pos + 1)
  else if op = 2 then onS m f 0 [(f.loc[A.toNat]?).getD (0, 0)] (f.pos + 1)
  else if op = 3 then onS m { f with loc := f.loc.set A.toNat top } 1 [] (f.pos + 1)
  else if op = 4 ∨ op = 5 ∨ op = 6 ∨ op = 7 then
    (if top.1 ≠ 1 ∨ next.1 ≠ 1 then (m, 6) else if op = 7 ∧ top.2 = 0 then (m, 2) else onS m f 2 [(1, sumS op next.2 top.2)] (f.pos + 1))
  else if op = 8 then onS m f 1 [top, top] (f.pos + 1)
  else if op = 9 then onS m f 1 [] (f.pos + 1)
  else if op = 10 then onS m f 2 [top, next] (f.pos + 1)
  else if op = 11 then onS m f 0 [] A
  else if op = 12 then (if top.1 ≠ 1 then (m, 6) else onS m f 1 [] (if top.2 = 0 then A else f.pos + 1))
  else if op = 13 then onS m f 0 [(3, 0)] (f.pos + 1)
  else if op = 14 then
    (if (p.length : Int) ≤ A then (m, 6) else if m.heap.length = 50 then (m, 4) else
      onS { m with heap := m.heap ++ [⟨A, (fieldsR p 6 A).map valF⟩] } f 0 [(2, (m.heap.length : Int))] (f.pos + 1))
  else if op = 15 then
    (if (fldS p A B).isNone then (m, 6) else if top.1 = 3 then (m, 3) else
      if !(objS p m.heap top A) then (m, 6) else
      match ((m.heap[top.2.toNat]?).getD default).flds[placeS p A B]? with
      | none => (m, 6)
      | some v => onS m f 1 [v] (f.pos + 1))
  else if op = 16 then
    (match fldS p A B with
    | none => (m, 6)
    | some t => if !(isS p m.heap top t) then (m, 6) else if next.1 = 3 then (m, 3) else
      if !(objS p m.heap next A) ∨ ((m.heap[next.2.toNat]?).getD default).flds.length ≤ placeS p A B then (m, 6) else
      let o := (m.heap[next.2.toNat]?).getD default
      onS { m with heap := m.heap.set next.2.toNat { o with flds := o.flds.set (placeS p A B) top } } f 2 [] (f.pos + 1))
  else if op = 17 then callS p m f A B
  else if op = 18 then (if top.1 = 1 then (m, 6) else onS m f 1 [(1, if top.1 = 3 then 1 else 0)] (f.pos + 1))
  else if op = 19 then
    (if top.1 ≠ 1 ∨ m.said.length = 20000 then (m, 6) else onS { m with said := m.said ++ [top.2] } f 1 [] (f.pos + 1))
  else (if !(isS p m.heap top own.gives) then (m, 6) else giveS m top)
/-- One step of a right machine that runs: what becomes of it, and how it ended. -/
def stepS (p : Prg) (m : Mc) : Mc × Int :=
  match m.frames.getLast? with
  | none => (m, 6)
  | some f => match ownS p f with
    | none => (m, 6)
    | some own => if f.pos < 0 ∨ (own.code.length : Int) ≤ f.pos then (m, 6) else stepI p m f own ((own.code[f.pos.toNat]?).getD (0, 0, 0))
def steppedS (p : Prg) (m : Mc) : Mc := if okP p && machB m then (if m.fin = 0 then { (stepS p m).1 with fin := (stepS p m).2 } else m) else zeroM
end Pg
end Go.Proofs.Ytffkkhaiedhaiaa

/- Contracts: what is reached, on both sides. -/
namespace Go.Proofs.Ytffkkhaiedhaiaa
namespace Pg
open Go.ChangeShapes Go.WideShapes Go.ChangeAt Go.RowKit St

inductive Rch (code : List Tx.Ins) : Nat → Prop
  | zero : Rch code 0
  | step {a j : Nat} : Rch code a → nxB code a j = true → Rch code j
open Classical in
noncomputable def rchB (code : List Tx.Ins) (j : Nat) : Bool := decide (Rch code j)
theorem rchB_iff {code : List Tx.Ins} {j : Nat} : rchB code j = true ↔ Rch code j := by simp [rchB]
theorem nxB_lt {code : List Tx.Ins} {a j : Nat} (h : nxB code a j = true) : j < code.length := by
  unfold nxB at h
  simp only [Bool.and_eq_true, decide_eq_true_eq] at h
  exact h.2
theorem Rch.lt {code : List Tx.Ins} (h0 : 0 < code.length) {j : Nat} (h : Rch code j) : j < code.length := by
  cases h with
  | zero => exact h0
  | step _ h => exact nxB_lt h
theorem Rch.least {code : List Tx.Ins} {S : Nat → Prop} (h0 : S 0) (hs : ∀ a, S a → ∀ j, nxB code a j = true → S j) {j : Nat} (h : Rch code j) : S j := by
  induction h with
  | zero => exact h0
  | step _ h ih => exact hs _ ih _ h

def cntS (n : Nat) (P : Nat → Bool) : Nat := (List.range n).countP P
theorem cnt_le (n : Nat) (P : Nat → Bool) : cntS n P ≤ n := by
  have := List.countP_le_length (p := P) (l := List.range n)
  simpa [cntS] using this
/-- Where the program stands in a round: P what was there when it began, Q by now. -/
structure Swp9 (code : List Tx.Ins) (P Q : Nat → Bool) (k : Nat) : Prop where
  up : ∀ j, P j = true → Q j = true
  sub : ∀ j, Q j = true → Rch code j
  zero : P 0 = true
  done : ∀ a, a < k → P a = true → ∀ j, nxB code a j = true → Q j = true
theorem Swp9.no {code : List Tx.Ins} {P Q : Nat → Bool} {k : Nat} (h : Swp9 code P Q k) (hk : Q k = false) : Swp9 code P Q (k + 1) :=
  ⟨h.up, h.sub, h.zero, fun a ha hp j hj => by
    rcases Nat.lt_or_ge a k with h1 | h1
    · exact h.done a h1 hp j hj
    · rw [show a = k by omega] at hp
      rw [h.up k hp] at hk; simp at hk⟩
theorem Swp9.ends {code : List Tx.Ins} (hok : Lay.codeOk code = true) {P Q : Nat → Bool} (h : Swp9 code P Q code.length) (ha : alike 40 Q P = true) : chi 40 Q = chi 40 (rchB code) := by
  have hl := Lay.ok_len hok
  refine chi_congr fun j hj => ?_
  rw [Bool.eq_iff_iff, rchB_iff]
  refine ⟨h.sub j, fun hr => ?_⟩
  have key : Q j = true ∧ j < code.length := by
    refine Rch.least (S := fun j => Q j = true ∧ j < code.length) ⟨h.up 0 h.zero, hl.1⟩ ?_ hr
    rintro a ⟨h1, h2⟩ j hj
    refine ⟨h.done a h2 ?_ j hj, nxB_lt hj⟩
    rw [← alike_iff.1 ha a (by omega)]; exact h1
  exact key.1

end Pg
end Go.Proofs.Ytffkkhaiedhaiaa

/- What a step does to the frames, plainly; what runs is reached and goes to one of what may come next. -/
namespace Go.Proofs.Ytffkkhaiedhaiaa
namespace Pg
open Go.ChangeShapes Go.WideShapes Go.ChangeAt Go.RowKit St Wd

/-- How a step may turn the frames. -/
inductive Kind (p : Prg) (m : Mc) (f : Fr) (i : Tx.Ins) (r : Mc × Int) : Prop
  | ends (h : r.2 ≠ 0)
  | on (f' : Fr) (h0 : r.2 = 0) (h : r.1.frames = m.frames.dropLast ++ [f']) (hc : f'.cls = f.cls) (hn : f'.name = f.name) (hp : (f'.pos = f.pos + 1 ∧ i.1 ≠ 11 ∧ i.1 ≠ 20) ∨ (f'.pos = i.2.1 ∧ (i.1 = 11 ∨ i.1 = 12)))
  | call (f' : Fr) (g : Fr) (h0 : r.2 = 0) (h17 : i.1 = 17) (h : r.1.frames = (m.frames.dropLast ++ [f']) ++ [g]) (hc : f'.cls = f.cls) (hn : f'.name = f.name) (hp : f'.pos = f.pos) (hg : g.name = i.2.2 ∧ g.pos = 0 ∧ g.cls = selF p ((m.heap[((f.stk[f'.stk.length]?).getD (0, 0)).2.toNat]?).getD default).cls i.2.2) (ho : objS p m.heap ((f.stk[f'.stk.length]?).getD (0, 0)) i.2.1 = true) (hm : ∃ own', methS p (selF p i.2.1 i.2.2) i.2.2 = some own')
  | give (b b' : Fr) (h0 : r.2 = 0) (h20 : i.1 = 20) (hb : m.frames.dropLast.getLast? = some b) (h : r.1.frames = m.frames.dropLast.dropLast ++ [b']) (hc : b'.cls = b.cls) (hn : b'.name = b.name) (hp : b'.pos = b.pos + 1)
theorem kind_on {p : Prg} {m : Mc} {f : Fr} {i : Tx.Ins} {m' : Mc} (hm : m'.frames = m.frames) {f1 : Fr} (hc : f1.cls = f.cls) (hn : f1.name = f.name) (t : Nat) (put : List Vl) {q : Int} (hp : (q = f.pos + 1 ∧ i.1 ≠ 11 ∧ i.1 ≠ 20) ∨ (q = i.2.1 ∧ (i.1 = 11 ∨ i.1 = 12))) : Kind p m f i (onS m' f1 t put q) :=
  .on { f1 with stk := f1.stk.take (f1.stk.length - t) ++ put, pos := q } rfl (by simp [onS, withTop, hm]) hc hn hp
theorem kind_call (p : Prg) (m : Mc) (f : Fr) (i : Tx.Ins) (h17 : i.1 = 17) : Kind p m f i (callS p m f i.2.1 i.2.2) := by
  unfold callS
  split
  · exact .ends (by simp)
  · rename_i own hown
    split
    · exact .ends (by simp)
    · split
      · exact .ends (by simp)
      · rename_i hst
        dsimp only
        split
        · exact .ends (by simp)
        · split
          · exact .ends (by simp)
          · split
            · exact .ends (by simp)
            · rename_i hob
              split
              · exact .ends (by simp)
              · have hl : (f.stk.take (f.stk.length - own.args.length - 1)).length = f.stk.length - own.args.length - 1 := by rw [List.length_take]; omega
                refine .call { f with stk := f.stk.take (f.stk.length - own.args.length - 1) } _ rfl h17 rfl rfl rfl rfl ?_ ?_ ⟨own, hown⟩
                · refine ⟨rfl, rfl, ?_⟩
                  dsimp only
                  rw [hl]
                · dsimp only
                  rw [hl]
                  simpa using hob
theorem kind_give (p : Prg) (m : Mc) (f : Fr) (i : Tx.Ins) (h20 : i.1 = 20) (v : Vl) : Kind p m f i (giveS m v) := by
  unfold giveS
  split
  · exact .ends (by simp)
  · rename_i b hb
    split
    · exact .ends (by simp)
    · exact .give b _ rfl h20 hb rfl rfl rfl rfl
theorem step_kind (p : Prg) (m : Mc) (f : Fr) (own : Meth) (i : Tx.Ins) (h20 : i.1 ≤ 20) (h1 : 1 ≤ i.1) : Kind p m f i (stepI p m f own i) := by
  obtain ⟨op, A, B⟩ := i
  dsimp only at h20 h1
  unfold stepI
  dsimp only
  by_cases hst : f.stk.length < takesS op ∨ 8 < f.stk.length - takesS op + putsS op
  · rw [if_pos hst]; exact .ends (by simp)
  · rw [if_neg hst]
    by_cases e1 : op = 1
    · rw [if_pos e1]; exact kind_on (p := p) (m := m) (f := f) (i := (op, A, B)) (by rfl) (by rfl) (by rfl) _ _ (.inl ⟨rfl, (show op ≠ 11 by omega), (show op ≠ 20 by omega)⟩)
    rw [if_neg e1]
    by_cases e2 : op = 2
    · rw [if_pos e2]; exact kind_on (p := p) (m := m) (f := f) (i := (op, A, B)) (by rfl) (by rfl) (by rfl) _ _ (.inl ⟨rfl, (show op ≠ 11 by omega), (show op ≠ 20 by omega)⟩)
    rw [if_neg e2]
    by_cases e3 : op = 3
    · rw [if_pos e3]; exact kind_on (p := p) (m := m) (f := f) (i := (op, A, B)) (by rfl) (by rfl) (by rfl) _ _ (.inl ⟨rfl, (show op ≠ 11 by omega), (show op ≠ 20 by omega)⟩)
    rw [if_neg e3]
    by_cases e4 : op = 4 ∨ op = 5 ∨ op = 6 ∨ op = 7
    · rw [if_pos e4]
      split
      · exact .ends (by simp)
      · split
        · exact .ends (by simp)
        · exact kind_on (p := p) (m := m) (f := f) (i := (op, A, B)) (by rfl) (by rfl) (by rfl) _ _ (.inl ⟨rfl, (show op ≠ 11 by omega), (show op ≠ 20 by omega)⟩)
    rw [if_neg e4]
    by_cases e8 : op = 8
    · rw [if_pos e8]; exact kind_on (p := p) (m := m) (f := f) (i := (op, A, B)) (by rfl) (by rfl) (by rfl) _ _ (.inl ⟨rfl, (show op ≠ 11 by omega), (show op ≠ 20 by omega)⟩)
    rw [if_neg e8]
    by_cases e9 : op = 9
    · rw [if_pos e9]; exact kind_on (p := p) (m := m) (f := f) (i := (op, A, B)) (by rfl) (by rfl) (by rfl) _ _ (.inl ⟨rfl, (show op ≠ 11 by omega), (show op ≠ 20 by omega)⟩)
    rw [if_neg e9]
    by_cases e10 : op = 10
    · rw [if_pos e10]; exact kind_on (p := p) (m := m) (f := f) (i := (op, A, B)) (by rfl) (by rfl) (by rfl) _ _ (.inl ⟨rfl, (show op ≠ 11 by omega), (show op ≠ 20 by omega)⟩)
    rw [if_neg e10]
    by_cases e11 : op = 11
    · rw [if_pos e11]; exact kind_on (p := p) (m := m) (f := f) (i := (op, A, B)) (by rfl) (by rfl) (by rfl) _ _ (.inr ⟨rfl, .inl e11⟩)
    rw [if_neg e11]
    by_cases e12 : op = 12
    · rw [if_pos e12]
      split
      · exact .ends (by simp)
      · split
        · exact kind_on (p := p) (m := m) (f := f) (i := (op, A, B)) (by rfl) (by rfl) (by rfl) _ _ (.inr ⟨rfl, .inr e12⟩)
        · exact kind_on (p := p) (m := m) (f := f) (i := (op, A, B)) (by rfl) (by rfl) (by rfl) _ _ (.inl ⟨rfl, (show op ≠ 11 by omega), (show op ≠ 20 by omega)⟩)
    rw [if_neg e12]
    by_cases e13 : op = 13
    · rw [if_pos e13]; exact kind_on (p := p) (m := m) (f := f) (i := (op, A, B)) (by rfl) (by rfl) (by rfl) _ _ (.inl ⟨rfl, (show op ≠ 11 by omega), (show op ≠ 20 by omega)⟩)
    rw [if_neg e13]
    by_cases e14 : op = 14
    · rw [if_pos e14]
      split
      · exact .ends (by simp)
      · split
        · exact .ends (by simp)
        · exact kind_on (p := p) (m := m) (f := f) (i := (op, A, B)) (by rfl) (by rfl) (by rfl) _ _ (.inl ⟨rfl, (show op ≠ 11 by omega), (show op ≠ 20 by omega)⟩)
    rw [if_neg e14]
    by_cases e15 : op = 15
    · rw [if_pos e15]
      split
      · exact .ends (by simp)
      · split
        · exact .ends (by simp)
        · split
          · exact .ends (by simp)
          · split
            · exact .ends (by simp)
            · exact kind_on (p := p) (m := m) (f := f) (i := (op, A, B)) (by rfl) (by rfl) (by rfl) _ _ (.inl ⟨rfl, (show op ≠ 11 by omega), (show op ≠ 20 by omega)⟩)
    rw [if_neg e15]
    by_cases e16 : op = 16
    · rw [if_pos e16]
      split
      · exact .ends (by simp)
      · split
        · exact .ends (by simp)
        · split
          · exact .ends (by simp)
          · split
            · exact .ends (by simp)
            · exact kind_on (p := p) (m := m) (f := f) (i := (op, A, B)) (by rfl) (by rfl) (by rfl) _ _ (.inl ⟨rfl, (show op ≠ 11 by omega), (show op ≠ 20 by omega)⟩)
    rw [if_neg e16]
    by_cases e17 : op = 17
    · rw [if_pos e17]; exact kind_call p m f (op, A, B) e17
    rw [if_neg e17]
    by_cases e18 : op = 18
    · rw [if_pos e18]
      split
      · exact .ends (by simp)
      · exact kind_on (p := p) (m := m) (f := f) (i := (op, A, B)) (by rfl) (by rfl) (by rfl) _ _ (.inl ⟨rfl, (show op ≠ 11 by omega), (show op ≠ 20 by omega)⟩)
    rw [if_neg e18]
    by_cases e19 : op = 19
    · rw [if_pos e19]
      split
      · exact .ends (by simp)
      · exact kind_on (p := p) (m := m) (f := f) (i := (op, A, B)) (by rfl) (by rfl) (by rfl) _ _ (.inl ⟨rfl, (show op ≠ 11 by omega), (show op ≠ 20 by omega)⟩)
    rw [if_neg e19]
    split
    · exact .ends (by simp)
    · exact kind_give p m f (op, A, B) (show op = 20 by omega) _

/-- The program that the laws make of code. -/
def mainP (a : List Tx.Ins) : Prg := [⟨-1, [-1], [⟨0, [], -1, a⟩]⟩]
theorem meth_main {a : List Tx.Ins} {c n : Int} {own : Meth} (h : methS (mainP a) c n = some own) : c = 0 ∧ n = 0 ∧ own = ⟨0, [], -1, a⟩ := by
  unfold methS mainP at h
  split at h
  · simp at h
  · rename_i hc
    obtain ⟨k, rfl⟩ := Int.eq_ofNat_of_zero_le (show 0 ≤ c by omega)
    rw [Int.toNat_natCast] at h
    cases k with
    | zero =>
      simp only [List.getElem?_cons_zero, ownF, List.find?_cons] at h
      by_cases e : n = 0
      · subst e
        simp at h
        exact ⟨rfl, rfl, h.symm⟩
      · have e' : ¬ ((0 : Int) = n) := fun h => e h.symm
        simp [e'] at h
    | succ k => simp at h
theorem own_main {a : List Tx.Ins} {f : Fr} {own : Meth} (h : ownS (mainP a) f = some own) : f.cls = 0 ∧ f.name = 0 ∧ own = ⟨0, [], -1, a⟩ := meth_main (n := f.name) (c := f.cls) h
theorem nx_next {a : List Tx.Ins} {k : Nat} (hk : k + 1 < a.length) (h11 : (insF a k).1 ≠ 11) (h20 : (insF a k).1 ≠ 20) : nxB a k (k + 1) = true := by
  unfold nxB waysF
  simp only [h11, h20, if_false, Bool.and_eq_true, decide_eq_true_eq]
  refine ⟨?_, hk⟩
  split <;> simp
theorem nx_jump {a : List Tx.Ins} (hok : Lay.codeOk a = true) {k : Nat} (hk : k < a.length) (h : (insF a k).1 = 11 ∨ (insF a k).1 = 12) : nxB a k (insF a k).2.1.toNat = true := by
  have hj := jump_in hok hk h
  unfold nxB waysF
  simp only [Bool.and_eq_true, decide_eq_true_eq]
  refine ⟨?_, by omega⟩
  rcases h with h | h <;> simp [h]
/-- What holds of the frames while code runs. -/
structure WayI (a : List Tx.Ins) (m : Mc) : Prop where
  all : ∀ f ∈ m.frames, f.cls = 0 ∧ f.name = 0 ∧ 0 ≤ f.pos ∧ (f.pos < (a.length : Int) → Rch a f.pos.toNat)
  low : ∀ f ∈ m.frames.dropLast, f.pos < (a.length : Int) ∧ (insF a f.pos.toNat).1 = 17
theorem WayI.start (a : List Tx.Ins) : WayI a (startM (mainP a)) := by
  refine ⟨fun f hf => ?_, fun f hf => ?_⟩
  · simp only [startM, List.mem_singleton] at hf
    subst hf
    exact ⟨rfl, rfl, by decide, fun _ => .zero⟩
  · simp [startM] at hf
theorem last_split {α : Type} {l : List α} {x : α} (h : l.getLast? = some x) : l = l.dropLast ++ [x] := by
  obtain ⟨ys, rfl⟩ := List.getLast?_eq_some_iff.1 h
  rw [List.dropLast_concat]
theorem mem_dropLast {α : Type} {l : List α} {x : α} (h : x ∈ l.dropLast) : x ∈ l := (List.dropLast_sublist l).subset h
theorem way_end {a : List Tx.Ins} {m : Mc} {f : Fr} (hl : m.frames.getLast? = some f) (hf : (a.length : Int) ≤ f.pos) : (stepS (mainP a) m).2 = 6 := by
  unfold stepS
  rw [hl]
  dsimp only
  split
  · rfl
  · rename_i own ho
    obtain ⟨_, _, rfl⟩ := own_main ho
    rw [if_pos (.inr hf)]
theorem way_step {a : List Tx.Ins} (hok : Lay.codeOk a = true) {m : Mc} (h : WayI a m) {f : Fr} (hl : m.frames.getLast? = some f) (h0 : (stepS (mainP a) m).2 = 0) :
    WayI a (stepS (mainP a) m).1 ∧ ∀ f', (stepS (mainP a) m).1.frames.getLast? = some f' → (stepS (mainP a) m).1.frames.length = m.frames.length → f.pos + 1 < (a.length : Int) → nxB a f.pos.toNat f'.pos.toNat = true ∧ 0 ≤ f'.pos := by
  have hsp := last_split hl
  have hfm : f ∈ m.frames := by rw [hsp]; simp
  obtain ⟨f1, f2, f3, f4⟩ := h.all f hfm
  have hfl : f.pos < (a.length : Int) := by
    rcases Int.lt_or_le f.pos a.length with h1 | h1
    · exact h1
    · rw [way_end hl h1] at h0; simp at h0
  obtain ⟨k, hk⟩ := Int.eq_ofNat_of_zero_le f3
  have hkl : k < a.length := by omega
  have hkn : f.pos.toNat = k := by omega
  have hrk : Rch a k := by rw [← hkn]; exact f4 hfl
  have hstep : ∃ own, stepS (mainP a) m = stepI (mainP a) m f own (insF a k) := by
    unfold stepS at h0 ⊢
    rw [hl] at h0 ⊢
    dsimp only at h0 ⊢
    split
    · rename_i hn; rw [hn] at h0; simp at h0
    · rename_i own ho
      obtain ⟨_, _, rfl⟩ := own_main ho
      refine ⟨⟨0, [], -1, a⟩, ?_⟩
      rw [if_neg (by dsimp only; omega), hkn]
      unfold insF
      rw [List.getD_eq_getElem?_getD]
  obtain ⟨own, hs⟩ := hstep
  have hop := Lay.ok_at hok (ins_is hkl)
  have hop2 := Tx.ok_op hop
  rw [hs] at h0 ⊢
  have hdl : ∀ g ∈ m.frames.dropLast, g ∈ m.frames := fun g hg => mem_dropLast hg
  cases step_kind (mainP a) m f own (insF a k) hop2.2 hop2.1 with
  | ends he => exact absurd h0 he
  | on f' _ hfr hc hn hp =>
    have hpos : 0 ≤ f'.pos ∧ (f'.pos < (a.length : Int) → nxB a k f'.pos.toNat = true) := by
      rcases hp with ⟨hp, h11, h20⟩ | ⟨hp, hj⟩
      · refine ⟨by omega, fun hlt => ?_⟩
        rw [show f'.pos.toNat = k + 1 by omega]
        exact nx_next (by omega) h11 h20
      · have := jump_in hok hkl hj
        refine ⟨by omega, fun _ => ?_⟩
        rw [hp]
        exact nx_jump hok hkl hj
    refine ⟨⟨fun g hg => ?_, fun g hg => ?_⟩, fun g hg hlen hlt => ?_⟩
    · rw [hfr] at hg
      rcases List.mem_append.1 hg with hg | hg
      · exact h.all g (hdl g hg)
      · simp at hg; subst hg
        exact ⟨hc.trans f1, hn.trans f2, hpos.1, fun hl => .step hrk (hpos.2 hl)⟩
    · rw [hfr, List.dropLast_concat] at hg
      exact h.low g hg
    · rw [hfr, List.getLast?_concat] at hg
      injection hg with hg
      subst hg
      rw [hkn]
      refine ⟨hpos.2 ?_, hpos.1⟩
      rcases hp with ⟨hp, _⟩ | ⟨hp, hj⟩
      · omega
      · have := jump_in hok hkl hj; omega
  | call f' g _ h17 hfr hc hn hp hg ho hm =>
    have hgg : g.cls = 0 ∧ g.name = 0 ∧ g.pos = 0 := by
      obtain ⟨own', hm⟩ := hm
      obtain ⟨_, hB, _⟩ := meth_main hm
      obtain ⟨g1, g2, g3⟩ := hg
      refine ⟨?_, g1.trans hB, g2⟩
      rw [g3, hB]
      unfold objS at ho
      rw [Bool.and_eq_true] at ho
      have h2 := ho.2
      cases hh : m.heap[((f.stk[f'.stk.length]?).getD (0, 0)).2.toNat]? with
      | none => rw [hh] at h2; simp at h2
      | some o =>
        rw [hh] at h2
        simp only [Bool.and_eq_true, decide_eq_true_eq] at h2
        have h3 := h2.1.1
        have h4 := h2.1.2
        have hl1 : (mainP a).length = 1 := rfl
        rw [hl1] at h4
        have hc0 : o.cls = 0 := by omega
        simp only [Option.getD_some, hc0]
        simp [selF, upL, upF, mainP, hasM, ownF]
    refine ⟨⟨fun x hx => ?_, fun x hx => ?_⟩, fun x hx hlen _ => ?_⟩
    · rw [hfr] at hx
      rcases List.mem_append.1 hx with hx | hx
      · rcases List.mem_append.1 hx with hx | hx
        · exact h.all x (hdl x hx)
        · simp at hx; subst hx
          exact ⟨hc.trans f1, hn.trans f2, by rw [hp]; exact f3, fun _ => by rw [hp, hkn]; exact hrk⟩
      · simp at hx; subst hx
        obtain ⟨g1, g2, g3⟩ := hgg
        exact ⟨g1, g2, by rw [g3]; decide, fun _ => by rw [g3]; exact .zero⟩
    · rw [hfr, List.dropLast_concat] at hx
      rcases List.mem_append.1 hx with hx | hx
      · exact h.low x hx
      · simp at hx; subst hx
        rw [hp, hkn]
        exact ⟨hfl, h17⟩
    · rw [hfr] at hlen
      have := congrArg List.length hsp
      simp at hlen this
      omega
  | give b b' _ h20 hb hfr hc hn hp =>
    have hbl := last_split hb
    have hbm : b ∈ m.frames.dropLast := by rw [hbl]; simp
    obtain ⟨b1, b2, b3, b4⟩ := h.all b (hdl b hbm)
    obtain ⟨b5, b6⟩ := h.low b hbm
    refine ⟨⟨fun x hx => ?_, fun x hx => ?_⟩, fun x hx hlen _ => ?_⟩
    · rw [hfr] at hx
      rcases List.mem_append.1 hx with hx | hx
      · exact h.all x (hdl x (mem_dropLast hx))
      · obtain rfl : x = b' := by simpa using hx
        refine ⟨hc.trans b1, hn.trans b2, by omega, fun hlt => ?_⟩
        have hnx : nxB a b.pos.toNat (b.pos.toNat + 1) = true := nx_next (by omega) (by rw [b6]; decide) (by rw [b6]; decide)
        rw [show x.pos.toNat = b.pos.toNat + 1 by omega]
        exact .step (b4 b5) hnx
    · rw [hfr, List.dropLast_concat] at hx
      exact h.low x (by rw [hbl]; exact List.mem_append_left _ hx)
    · rw [hfr] at hlen
      have e1 := congrArg List.length hsp
      have e2 := congrArg List.length hbl
      simp at hlen e1 e2
      omega
end Pg
end Go.Proofs.Ytffkkhaiedhaiaa
