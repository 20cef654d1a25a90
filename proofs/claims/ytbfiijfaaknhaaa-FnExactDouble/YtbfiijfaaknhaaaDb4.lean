/- Both sides' Double, together. -/
import Derived.Test.YtbfiijfaaknhaaaDb2
import Derived.Test.YtbfiijfaaknhaaaDb3
namespace Go.Proofs.Ytbfiijfaaknhaaa
namespace Pg
end Pg
end Go.Proofs.Ytbfiijfaaknhaaa
