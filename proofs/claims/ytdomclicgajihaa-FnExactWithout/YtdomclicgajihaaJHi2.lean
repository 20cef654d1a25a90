/- Contracts of the program's questions that go up. -/
import Derived.Test.YtdomclicgajihaaJHi1
namespace Go.Proofs.Ytdomclicgajihaa
namespace Pg
open Go.ChangeShapes Go.WideShapes Go.ChangeAt Go.RowKit Go.Shelf St
attribute [local go_sem] Oper.semAt_some

end Pg
end Go.Proofs.Ytdomclicgajihaa
