/- Contracts of the two sides' small functions on the layout: which step is a jump, and its bytes. -/
import Derived.Test.YtbfiijfaaknhaaaIRow0
import Derived.Test.YtbfiijfaaknhaaaLay
namespace Go.Proofs.Ytbfiijfaaknhaaa
namespace St
open Go.ChangeShapes Go.WideShapes Go.ChangeAt Go.RowKit

theorem jump_cases (op : Int) : (op = 11 ∧ Lay.jumpB op = true) ∨ (op = 12 ∧ Lay.jumpB op = true) ∨ (¬ op = 11 ∧ ¬ op = 12 ∧ Lay.jumpB op = false) := by
  unfold Lay.jumpB
  by_cases h1 : op = 11
  · simp [h1]
  · by_cases h2 : op = 12
    · simp [h2]
    · simp [h1, h2]
theorem boxC {w w1 : World} {x y z : Value} {t : TypeId} (hb : Below (w.alloc (.cells #[x, y, z] t)).heap.size (w.alloc (.cells #[x, y, z] t)) w1) :
    w1.cell? ⟨w.heap.size, 0, none⟩ = some x ∧ w1.cell? ⟨w.heap.size, 1, none⟩ = some y ∧ w1.cell? ⟨w.heap.size, 2, none⟩ = some z :=
  ⟨(hb.cell (by simp)).trans (by simp), (hb.cell (by simp)).trans (by simp), (hb.cell (by simp)).trans (by simp)⟩
theorem allocC (w : World) (x y z : Value) (t : TypeId) : (w.alloc (.cells #[x, y, z] t)).cell? ⟨w.heap.size, 0, none⟩ = some x ∧ (w.alloc (.cells #[x, y, z] t)).cell? ⟨w.heap.size, 1, none⟩ = some y ∧ (w.alloc (.cells #[x, y, z] t)).cell? ⟨w.heap.size, 2, none⟩ = some z := ⟨by simp, by simp, by simp⟩
theorem retI {a b : Int} (h : a = b) : Ending.returned (.int .i64 a) = .returned (.int .i64 b) := by rw [h]

set_option maxHeartbeats 800000 in
theorem isJump (op a b : Int) (w : World) :
    Calls Try.prog 95 #[.agg #[.int .i64 op, .int .i64 a, .int .i64 b]] w fun e w' => e = .returned (.bool (Lay.jumpB op)) ∧ Below w.heap.size w w' := by
  by_cases h : op = 11
  · subst h
    go_enter Try.func95, Try.ntmps95
    go_wp2
    go_ret
    exact ⟨rfl, by go_grown⟩
  · go_enter Try.func95, Try.ntmps95
    go_wp2
    go_ret
    exact ⟨rfl, by go_grown⟩
theorem l3Jump (op : Int) (w : World) :
    Calls Try.prog 88 #[.int .i64 op] w fun e w' => e = .returned (.bool (Lay.jumpB op)) ∧ w = w' := by
  by_cases h : op = 11
  · subst h
    go_enter Try.func88, Try.ntmps88
    go_wp2
    go_ret
    exact ⟨rfl, rfl⟩
  · go_enter Try.func88, Try.ntmps88
    go_wp2
    go_ret
    exact ⟨rfl, rfl⟩
end St
end Go.Proofs.Ytbfiijfaaknhaaa
