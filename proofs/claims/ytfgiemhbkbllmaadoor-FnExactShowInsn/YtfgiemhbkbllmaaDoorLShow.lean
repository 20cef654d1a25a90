/- The walk of the law FnExactShowInsn. -/
import Derived.Test.YtfgiemhbkbllmaaDoorShow4
import Derived.Test.YtfgiemhbkbllmaaDoorLaw0
namespace Go.Proofs.YtfgiemhbkbllmaaDoor
namespace St
open Go.ChangeShapes Go.WideShapes Go.ChangeAt Go.RowKit

set_option maxHeartbeats 800000 in
theorem showLaw (op a b : Int) (a0 : -9223372036854775808 ≤ a) (a1 : a ≤ 9223372036854775807) (b0 : -9223372036854775808 ≤ b) (b1 : b ≤ 9223372036854775807) (w : World) (hT : Tab w.heap.size w) :
    Calls Tryd.prog 4 #[.agg #[.int .i64 op, .int .i64 a, .int .i64 b]] w fun e w' => e = .returned (.bool true) ∧ Below w.heap.size w w' := by
  have HT : Hid (Tab w.heap.size w) := hT
  clear hT
  go_enter Tryd.func4, Tryd.ntmps4
  go_wp2_with fail
  refine (toInsn op a b _).mono ?_
  rintro e w1 ⟨rfl, hb1⟩
  have hw1 : Below w.heap.size w w1 := below_over (by go_grown) hb1
  have HC : Hid (w1.cell? ⟨w.heap.size, 0, none⟩ = some (.int .i64 op) ∧ w1.cell? ⟨w.heap.size, 1, none⟩ = some (.int .i64 a) ∧ w1.cell? ⟨w.heap.size, 2, none⟩ = some (.int .i64 b)) := box3 hb1
  clear hb1
  go_wp2_with fail
  refine (specShow op a b a0 a1 b0 b1 _).mono ?_
  rintro e w2 ⟨rfl, hb2⟩
  have hw2 : Below w.heap.size w w2 := below_over hw1 hb2
  have hc := keep3 hb2 HC.out
  have c0 := hc.1
  have c1 := hc.2.1
  have c2 := hc.2.2
  clear hc hb2 hw1 HC
  go_wp2_with fail
  refine (toInsn op a b _).mono ?_
  rintro e w3 ⟨rfl, hb3⟩
  have hw3 : Below w.heap.size w w3 := below_over hw2 hb3
  clear hb3 hw2 c0 c1 c2
  go_wp2_with fail
  refine (implShow op a b a0 a1 b0 b1 w.heap.size _ hw3.size (HT.out.on hw3)).mono ?_
  rintro e w4 ⟨rfl, hb4⟩
  have hw4 : Below w.heap.size w w4 := below_over hw3 hb4
  clear hb4 hw3
  go_wp2
  go_ret
  exact ⟨rfl, hw4⟩
end St
end Go.Proofs.YtfgiemhbkbllmaaDoor
