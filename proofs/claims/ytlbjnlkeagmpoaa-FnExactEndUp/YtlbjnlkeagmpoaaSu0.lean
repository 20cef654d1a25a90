/- What comes out of two numbers, as the specification tells it. -/
import Derived.Test.YtlbjnlkeagmpoaaWordB
namespace Go.Proofs.Ytlbjnlkeagmpoaa
namespace Pg
open Go.ChangeShapes Go.WideShapes Go.ChangeAt Go.RowKit Wd

def sumS (op a b : Int) : Int := if op = 4 then wrap32 (a + b) else if op = 5 then wrap32 (a - b) else if op = 6 then wrap32 (a * b) else wrap32 (a.tdiv b)
end Pg
end Go.Proofs.Ytlbjnlkeagmpoaa
