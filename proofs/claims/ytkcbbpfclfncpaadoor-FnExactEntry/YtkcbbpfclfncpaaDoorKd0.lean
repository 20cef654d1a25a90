/- Kinds, as plain functions. -/
import Derived.Test.YtkcbbpfclfncpaaDoorHi0
namespace Go.Proofs.YtkcbbpfclfncpaaDoor
namespace Pg
open Go.ChangeShapes Go.WideShapes Go.ChangeAt Go.RowKit St

/-- Of kinds of a right program. -/
def fitB (p : Prg) (a b : Int) : Bool := decide (a = b) || decide (b = -3) || (decide (a = -2) && decide (0 ≤ b)) || (decide (0 ≤ a) && decide (0 ≤ b) && undB p a b)
def joinF (p : Prg) (a b : Int) : Int :=
  if fitB p a b then b else if fitB p b a then a else if 0 ≤ a ∧ 0 ≤ b then (if 0 ≤ lowF p a b then lowF p a b else -3) else -3
/-- A kind where there are so many classes. -/
def kindB (n : Nat) (t : Int) : Bool := decide (-3 ≤ t) && decide (t < (n : Int))
end Pg
end Go.Proofs.YtkcbbpfclfncpaaDoor
