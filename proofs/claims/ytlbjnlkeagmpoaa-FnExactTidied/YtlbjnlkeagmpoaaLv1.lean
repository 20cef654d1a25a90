/- Contracts of the program's sets of locals: two as one, and as bits. -/
import Derived.Test.YtlbjnlkeagmpoaaLv0
namespace Go.Proofs.Ytlbjnlkeagmpoaa
namespace Pg
open Go.ChangeShapes Go.WideShapes Go.ChangeAt Go.RowKit St

end Pg
end Go.Proofs.Ytlbjnlkeagmpoaa
