/- The walk of the law FnExactReadInsn. -/
import Derived.Test.YtfgiemhbkbllmabDoorSRead
namespace Go.Proofs.YtfgiemhbkbllmabDoor
namespace St
open Go.ChangeShapes Go.WideShapes Go.ChangeAt Go.RowKit

set_option maxHeartbeats 800000 in
theorem eqSame (op a b : Int) (w : World) :
    Calls Tryd.prog 13 #[.agg #[.int .i64 op, .int .i64 a, .int .i64 b], .agg #[.int .i64 op, .int .i64 a, .int .i64 b]] w fun e w' => e = .returned (.bool true) ∧ Below w.heap.size w w' := by
  go_enter Tryd.func13, Tryd.ntmps13
  go_wp2
  go_ret
  exact ⟨rfl, by go_grown⟩

end St
end Go.Proofs.YtfgiemhbkbllmabDoor
