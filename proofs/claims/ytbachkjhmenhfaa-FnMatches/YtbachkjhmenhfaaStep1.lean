/- Contracts of the two sides' tests whether a step is right. -/
import Derived.Test.YtbachkjhmenhfaaStep0
import Derived.Handy
namespace Go.Proofs.Ytbachkjhmenhfaa
namespace St
open Go.ChangeShapes Go.WideShapes Go.ChangeAt Go.RowKit

theorem retB {p q : Bool} (h : p = q) : Ending.returned (.bool p) = .returned (.bool q) := by rw [h]

end St
end Go.Proofs.Ytbachkjhmenhfaa
