/- The walk of the law FnExactReadInsn. -/
import Derived.Test.YtnlanikjlokboaaGreatDoorSRead
namespace Go.Proofs.YtnlanikjlokboaaGreatDoor
namespace St
open Go.ChangeShapes Go.WideShapes Go.ChangeAt Go.RowKit

end St
end Go.Proofs.YtnlanikjlokboaaGreatDoor
