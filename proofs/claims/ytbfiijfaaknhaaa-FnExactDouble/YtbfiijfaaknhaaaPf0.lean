/- Contracts of both sides' account of the fields of a class. -/
import Derived.Test.YtbfiijfaaknhaaaPg5
import Derived.Test.YtbfiijfaaknhaaaMa0
import Derived.Deep.RegionLaw
namespace Go.Proofs.Ytbfiijfaaknhaaa
namespace Pg
open Go.ChangeShapes Go.WideShapes Go.ChangeAt Go.RowKit St

end Pg
end Go.Proofs.Ytbfiijfaaknhaaa
