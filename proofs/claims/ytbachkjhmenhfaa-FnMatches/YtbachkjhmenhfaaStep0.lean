/- Contracts of the two sides' tests whether a step is right. -/
import Derived.Test.YtbachkjhmenhfaaWordB
import Derived.Test.YtbachkjhmenhfaaTx
namespace Go.Proofs.Ytbachkjhmenhfaa
namespace St
open Go.ChangeShapes Go.WideShapes Go.ChangeAt Go.RowKit

theorem tup2 {a b c d : Int} (h : a = c) (k : b = d) : (#[.int .i64 a, .int .i64 b] : Array Value) = #[.int .i64 c, .int .i64 d] := by rw [h, k]

theorem op_cases (op : Int) : op = 1 ∨ op = 2 ∨ op = 3 ∨ op = 4 ∨ op = 5 ∨ op = 6 ∨ op = 7 ∨ op = 8 ∨ op = 9 ∨ op = 10 ∨ op = 11 ∨ op = 12 ∨ op = 13 ∨ op = 14 ∨ op = 15 ∨ op = 16 ∨ op = 17 ∨ op = 18 ∨ op = 19 ∨ op = 20 ∨ (op < 1 ∨ 20 < op) := by omega

theorem l1In (n a b : Int) (w : World) :
    Calls Try.prog 49 #[.int .i64 n, .int .i64 a, .int .i64 b] w fun e w' => e = .returned (.bool (decide (a ≤ n) && decide (n ≤ b))) ∧ w = w' := by
  go_enter Try.func49, Try.ntmps49
  go_wp2
  all_goals go_ret
  all_goals (simp_all; try omega)

end St
end Go.Proofs.Ytbachkjhmenhfaa
