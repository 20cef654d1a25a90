/- Contracts of both sides' question whether a program and a class of it are right. -/
import Derived.Test.YtobaeenngffndaaPi3
import Derived.Test.YtobaeenngffndaaPs1
import Derived.Test.YtobaeenngffndaaPf0
namespace Go.Proofs.Ytobaeenngffndaa
namespace Pg
open Go.ChangeShapes Go.WideShapes Go.ChangeAt Go.RowKit St

def inB (p : Prg) (t : Int) : Bool := decide (0 ≤ t) && decide (t < (p.length : Int))
theorem okIn {p : Prg} {t : Int} (h : (okP p && inB p t) = true) : okP p = true ∧ 0 ≤ t ∧ t < (p.length : Int) := by
  simp only [Bool.and_eq_true, inB, decide_eq_true_eq] at h
  exact h
end Pg
end Go.Proofs.Ytobaeenngffndaa
