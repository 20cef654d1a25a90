/- A region that draws its order, in a round of a loop over a function: as in a plain body. -/
import Derived.Test.YtcbbpmknomhedaaJHi3
import Derived.Test.YtcbbpmknomhedaaJHi1
import Derived.Deep.RegionHeld3
import Derived.OrdersIn
namespace Go.Proofs.Ytcbbpmknomhedaa
namespace Pg
open Go.ChangeShapes Go.WideShapes Go.ChangeAt Go.RowKit Go.Shelf St

end Pg
end Go.Proofs.Ytcbbpmknomhedaa
