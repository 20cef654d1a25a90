/- Contracts of the program's sets of locals: two as one, and as bits. -/
import Derived.Test.YtemjicmpkkhklaaLv0
namespace Go.Proofs.Ytemjicmpkkhklaa
namespace Pg
open Go.ChangeShapes Go.WideShapes Go.ChangeAt Go.RowKit St

end Pg
end Go.Proofs.Ytemjicmpkkhklaa
