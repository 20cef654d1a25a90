/- Contracts of the program's own small functions on programs. -/
import Derived.Test.YtffkkhaiedhaiaaJPg5
import Derived.Test.YtffkkhaiedhaiaaJNx1
import Derived.Deep.RegionWith
import Derived.BigQuiet
namespace Go.Proofs.Ytffkkhaiedhaiaa
namespace Pg
open Go.ChangeShapes Go.WideShapes Go.ChangeAt Go.RowKit St

theorem diff_no {l r : List Int} {k : Nat} (h1 : k < l.length) (h2 : k < r.length) (h : l[k] ≠ r[k]) : decide (l = r) = false := by
  simp only [decide_eq_false_iff_not]
  intro e
  subst e
  exact h rfl
theorem same_take {l r : List Int} {k : Nat} (h1 : k < l.length) (h2 : k < r.length) (h : l.take k = r.take k) (he : l[k] = r[k]) : l.take (k + 1) = r.take (k + 1) := by
  rw [List.take_succ_eq_append_getElem h1, List.take_succ_eq_append_getElem h2, h, he]

/-- What looking for a class's own method answers. -/
def OwnPost (B : Nat) (c : Cls) (name : Int) (w0 w : World) (e : Ending) (w' : World) : Prop :=
  ((∃ m va vc, ownF c name = some m ∧ m ∈ c.meths ∧ e = .returned (.tuple #[.agg #[.int .i64 m.name, va, .int .i64 m.gives, vc], .bool true]) ∧ MV front B w0 va vc m) ∨
   (ownF c name = none ∧ e = .returned (.tuple #[.agg #[.int .i64 0, .slice none 0 0, .int .i64 0, .slice none 0 0], .bool false]))) ∧ Below w.heap.size w w'

end Pg
end Go.Proofs.Ytffkkhaiedhaiaa

/- Contracts of the program's own account of what a method above must agree with. -/
namespace Go.Proofs.Ytffkkhaiedhaiaa
namespace Pg
open Go.ChangeShapes Go.WideShapes Go.ChangeAt Go.RowKit St

/-- The same, in one form. -/
def OwnR (B : Nat) (c : Cls) (name : Int) (w0 : World) (n : Int) (x1 : Option Addr) (l1 y1 : Nat) (g : Int) (x2 : Option Addr) (l2 y2 : Nat) (q : Bool) : Prop :=
  (q = true ∧ ∃ m, ownF c name = some m ∧ n = m.name ∧ l1 = m.args.length ∧ g = m.gives ∧ l2 = m.code.length ∧ MV front B w0 (.slice x1 l1 y1) (.slice x2 l2 y2) m) ∨ (q = false ∧ ownF c name = none)
theorem own_mem {c : Cls} {name : Int} {m : Meth} (h : ownF c name = some m) : m ∈ c.meths := List.mem_of_find?_eq_some h

theorem Cells.newD (w : World) (vs : List Value) (t : TypeId) : Cells (w.alloc (.cells vs.toArray t)).drew w.heap.size vs := fun i x hx => Cells.new w _ rfl vs t i x hx
end Pg
end Go.Proofs.Ytffkkhaiedhaiaa
