/- The contracts of Plus, Minus and Times, of the program and of its specification. -/
import Derived.Test.YtemjicmpkkhklaaWordB
namespace Go.Proofs.Ytemjicmpkkhklaa
namespace Wd
open Go.ChangeShapes Go.WideShapes Go.ChangeAt Go.RowKit

end Wd
end Go.Proofs.Ytemjicmpkkhklaa
