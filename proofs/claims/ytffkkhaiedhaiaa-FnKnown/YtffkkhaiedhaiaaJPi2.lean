/- Contracts of the program's own small functions on programs. -/
import Derived.Test.YtffkkhaiedhaiaaJMv1
import Derived.Test.YtffkkhaiedhaiaaJLo1
import Derived.Deep.RegionWith
import Derived.BigQuiet
namespace Go.Proofs.Ytffkkhaiedhaiaa
namespace Pg
open Go.ChangeShapes Go.WideShapes Go.ChangeAt Go.RowKit St

theorem diff_no {l r : List Int} {k : Nat} (h1 : k < l.length) (h2 : k < r.length) (h : l[k] ≠ r[k]) : decide (l = r) = false := by
  simp only [decide_eq_false_iff_not]
  intro e
  subst e
  exact h rfl
theorem same_take {l r : List Int} {k : Nat} (h1 : k < l.length) (h2 : k < r.length) (h : l.take k = r.take k) (he : l[k] = r[k]) : l.take (k + 1) = r.take (k + 1) := by
  rw [List.take_succ_eq_append_getElem h1, List.take_succ_eq_append_getElem h2, h, he]

/-- What looking for a class's own method answers. -/
def OwnPost (B : Nat) (c : Cls) (name : Int) (w0 w : World) (e : Ending) (w' : World) : Prop :=
  ((∃ m va vc, ownF c name = some m ∧ m ∈ c.meths ∧ e = .returned (.tuple #[.agg #[.int .i64 m.name, va, .int .i64 m.gives, vc], .bool true]) ∧ MV front B w0 va vc m) ∨
   (ownF c name = none ∧ e = .returned (.tuple #[.agg #[.int .i64 0, .slice none 0 0, .int .i64 0, .slice none 0 0], .bool false]))) ∧ Below w.heap.size w w'

end Pg
end Go.Proofs.Ytffkkhaiedhaiaa

/- Contracts of the program's own account of what a method above must agree with. -/
namespace Go.Proofs.Ytffkkhaiedhaiaa
namespace Pg
open Go.ChangeShapes Go.WideShapes Go.ChangeAt Go.RowKit St

/-- The same, in one form. -/
def OwnR (B : Nat) (c : Cls) (name : Int) (w0 : World) (n : Int) (x1 : Option Addr) (l1 y1 : Nat) (g : Int) (x2 : Option Addr) (l2 y2 : Nat) (q : Bool) : Prop :=
  (q = true ∧ ∃ m, ownF c name = some m ∧ n = m.name ∧ l1 = m.args.length ∧ g = m.gives ∧ l2 = m.code.length ∧ MV front B w0 (.slice x1 l1 y1) (.slice x2 l2 y2) m) ∨ (q = false ∧ ownF c name = none)
theorem own_mem {c : Cls} {name : Int} {m : Meth} (h : ownF c name = some m) : m ∈ c.meths := List.mem_of_find?_eq_some h

theorem Cells.newD (w : World) (vs : List Value) (t : TypeId) : Cells (w.alloc (.cells vs.toArray t)).drew w.heap.size vs := fun i x hx => Cells.new w _ rfl vs t i x hx
end Pg
end Go.Proofs.Ytffkkhaiedhaiaa

/- Contracts of the program's own account of which classes and which programs are right. -/
namespace Go.Proofs.Ytffkkhaiedhaiaa
namespace Pg
open Go.ChangeShapes Go.WideShapes Go.ChangeAt Go.RowKit St

theorem okC_split (p : Prg) (i : Nat) (c : Cls) : okCB p i c = (decide (-1 ≤ c.super) && decide (c.super < (i : Int)) && decide (c.fields.length ≤ 4) && c.fields.all (tyB p.length) && decide (c.meths.length ≤ 4) && (List.range c.meths.length).all (okK p c)) := rfl
theorem okK_zero {p : Prg} {c : Cls} {m : Meth} (h : c.meths[0]? = some m) : okK p c 0 = (okMB p.length m && agreeF p m 6 c.super) := by simp [okK, h]
theorem okK_succ {p : Prg} {c : Cls} {j : Nat} {m q : Meth} (h : c.meths[j + 1]? = some m) (hq : c.meths[j]? = some q) : okK p c (j + 1) = (okMB p.length m && decide (q.name < m.name) && agreeF p m 6 c.super) := by simp [okK, h, hq]
theorem okC_done {p : Prg} {i : Nat} {c : Cls} (h1 : -1 ≤ c.super) (h2 : c.super < (i : Int)) (h3 : c.fields.length ≤ 4) (h4 : c.fields.all (tyB p.length) = true) (h5 : c.meths.length ≤ 4) (h : ∀ j, j < c.meths.length → okK p c j = true) : okCB p i c = true := by
  have : (List.range c.meths.length).all (okK p c) = true := List.all_eq_true.2 fun j hj => h j (List.mem_range.1 hj)
  rw [okC_split, this, h4]
  simp [h1, h2, h3, h5]

end Pg
end Go.Proofs.Ytffkkhaiedhaiaa
