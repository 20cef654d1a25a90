/- The contracts of the two sides' showing of a step, right or not. -/
import Derived.Test.YtkjoljcgbjodlaaDoorShow3
namespace Go.Proofs.YtkjoljcgbjodlaaDoor
namespace St
open Go.ChangeShapes Go.WideShapes Go.ChangeAt Go.RowKit

theorem tell_at (op a b : Int) (a0 : -9223372036854775808 ≤ a) (a1 : a ≤ 9223372036854775807) (b0 : -9223372036854775808 ≤ b) (b1 : b ≤ 9223372036854775807) (h : Tx.okI op a b = true) (w : World) :
    Calls Tryd.prog 42 #[.agg #[.int .i64 op, .int .i64 a, .int .i64 b]] w fun e w' => e = .returned (.string ⟨(Tx.showI op a b).toArray⟩) ∧ Below w.heap.size w w' := by
  rcases op_cases op with rfl | rfl | rfl | rfl | rfl | rfl | rfl | rfl | rfl | rfl | rfl | rfl | rfl | rfl | rfl | rfl | rfl | rfl | rfl | rfl | ho
  · exact tell1 a b a0 a1 b0 b1 w
  · exact tell2 a b a0 a1 b0 b1 w
  · exact tell3 a b a0 a1 b0 b1 w
  · exact tell4 a b a0 a1 b0 b1 w
  · exact tell5 a b a0 a1 b0 b1 w
  · exact tell6 a b a0 a1 b0 b1 w
  · exact tell7 a b a0 a1 b0 b1 w
  · exact tell8 a b a0 a1 b0 b1 w
  · exact tell9 a b a0 a1 b0 b1 w
  · exact tell10 a b a0 a1 b0 b1 w
  · exact tell11 a b a0 a1 b0 b1 w
  · exact tell12 a b a0 a1 b0 b1 w
  · exact tell13 a b a0 a1 b0 b1 w
  · exact tell14 a b a0 a1 b0 b1 w
  · exact tell15 a b a0 a1 b0 b1 w
  · exact tell16 a b a0 a1 b0 b1 w
  · exact tell17 a b a0 a1 b0 b1 w
  · exact tell18 a b a0 a1 b0 b1 w
  · exact tell19 a b a0 a1 b0 b1 w
  · exact tell20 a b a0 a1 b0 b1 w
  · have := Tx.ok_op h; omega

set_option maxHeartbeats 800000 in
theorem implShow (op a b : Int) (a0 : -9223372036854775808 ≤ a) (a1 : a ≤ 9223372036854775807) (b0 : -9223372036854775808 ≤ b) (b1 : b ≤ 9223372036854775807) (B : Nat) (w : World) (hB : B ≤ w.heap.size) (hT : Tab B w) :
    Calls Tryd.prog 49 #[.agg #[.int .i64 op, .int .i64 a, .int .i64 b]] w fun e w' => e = .returned (.string ⟨(Tx.shownI op a b).toArray⟩) ∧ Below w.heap.size w w' := by
  cases h : Tx.okI op a b
  · have e : Tx.shownI op a b = [] := by simp [Tx.shownI, h]
    rw [e]
    clear e hT hB
    go_enter Tryd.func49, Tryd.ntmps49
    go_wp2_with fail
    refine (implOk op a b _).mono ?_
    rw [h]
    rintro e w1 ⟨rfl, hb1⟩
    go_wp2_with fail
    go_ret
    exact ⟨rfl, below_over (by go_grown) hb1⟩
  · have e : Tx.shownI op a b = Tx.showI op a b := by simp [Tx.shownI, h]
    rw [e]
    clear e
    rcases op_cases op with rfl | rfl | rfl | rfl | rfl | rfl | rfl | rfl | rfl | rfl | rfl | rfl | rfl | rfl | rfl | rfl | rfl | rfl | rfl | rfl | ho
    · exact impl1 a b a0 a1 b0 b1 h B w hB hT
    · exact impl2 a b a0 a1 b0 b1 h B w hB hT
    · exact impl3 a b a0 a1 b0 b1 h B w hB hT
    · exact impl4 a b a0 a1 b0 b1 h B w hB hT
    · exact impl5 a b a0 a1 b0 b1 h B w hB hT
    · exact impl6 a b a0 a1 b0 b1 h B w hB hT
    · exact impl7 a b a0 a1 b0 b1 h B w hB hT
    · exact impl8 a b a0 a1 b0 b1 h B w hB hT
    · exact impl9 a b a0 a1 b0 b1 h B w hB hT
    · exact impl10 a b a0 a1 b0 b1 h B w hB hT
    · exact impl11 a b a0 a1 b0 b1 h B w hB hT
    · exact impl12 a b a0 a1 b0 b1 h B w hB hT
    · exact impl13 a b a0 a1 b0 b1 h B w hB hT
    · exact impl14 a b a0 a1 b0 b1 h B w hB hT
    · exact impl15 a b a0 a1 b0 b1 h B w hB hT
    · exact impl16 a b a0 a1 b0 b1 h B w hB hT
    · exact impl17 a b a0 a1 b0 b1 h B w hB hT
    · exact impl18 a b a0 a1 b0 b1 h B w hB hT
    · exact impl19 a b a0 a1 b0 b1 h B w hB hT
    · exact impl20 a b a0 a1 b0 b1 h B w hB hT
    · have := Tx.ok_op h; omega
end St
end Go.Proofs.YtkjoljcgbjodlaaDoor
