/- The contracts of Plus, Minus and Times, of the program and of its specification. -/
import Derived.Test.YtlbjnlkeagmpoaaWordB
namespace Go.Proofs.Ytlbjnlkeagmpoaa
namespace Wd
open Go.ChangeShapes Go.WideShapes Go.ChangeAt Go.RowKit

end Wd
end Go.Proofs.Ytlbjnlkeagmpoaa
