/- The contracts of Over, of the program and of its specification. -/
import Derived.Test.YtlbjnlkeagmpoaaWordB
namespace Go.Proofs.Ytlbjnlkeagmpoaa
namespace Wd
open Go.ChangeShapes Go.WideShapes Go.ChangeAt Go.RowKit

theorem ret_over {x y : Int} (h : x = y) : Ending.returned (.tuple #[.int .i64 x, .bool true]) = .returned (.tuple #[.int .i64 y, .bool true]) := by rw [h]

end Wd
end Go.Proofs.Ytlbjnlkeagmpoaa
