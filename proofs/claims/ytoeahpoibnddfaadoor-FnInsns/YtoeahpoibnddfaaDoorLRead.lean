/- The walk of the law FnExactReadInsn. -/
import Derived.Test.YtoeahpoibnddfaaDoorSRead
namespace Go.Proofs.YtoeahpoibnddfaaDoor
namespace St
open Go.ChangeShapes Go.WideShapes Go.ChangeAt Go.RowKit

end St
end Go.Proofs.YtoeahpoibnddfaaDoor
