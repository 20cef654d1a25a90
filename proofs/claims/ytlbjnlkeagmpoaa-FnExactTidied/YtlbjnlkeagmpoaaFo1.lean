/- Contracts: the program's Folded. -/
import Derived.Test.YtlbjnlkeagmpoaaKn0
import Derived.Test.YtlbjnlkeagmpoaaCo0
import Derived.Test.YtlbjnlkeagmpoaaAr0
import Derived.Test.YtlbjnlkeagmpoaaOv0
import Derived.Lib.SliceRun
namespace Go.Proofs.Ytlbjnlkeagmpoaa
namespace Pg
open Go.ChangeShapes Go.WideShapes Go.ChangeAt Go.RowKit St Wd

theorem ret2B {x y : Int} {b c : Bool} (h : x = y) (h' : b = c) : Ending.returned (.tuple #[.int .i64 x, .bool b]) = .returned (.tuple #[.int .i64 y, .bool c]) := by rw [h, h']
def okW (op b : Int) : Bool := decide (4 ≤ op ∧ op ≤ 7) && !(decide (op = 7 ∧ b = 0))
def wrkF (op a b : Int) : Int := if okW op b then sumS op a b else 0
end Pg
end Go.Proofs.Ytlbjnlkeagmpoaa
