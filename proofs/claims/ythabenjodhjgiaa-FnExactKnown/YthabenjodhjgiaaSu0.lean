/- What comes out of two numbers, as the specification tells it. -/
import Derived.Test.YthabenjodhjgiaaWordB
namespace Go.Proofs.Ythabenjodhjgiaa
namespace Pg
open Go.ChangeShapes Go.WideShapes Go.ChangeAt Go.RowKit Wd

def sumS (op a b : Int) : Int := if op = 4 then wrap32 (a + b) else if op = 5 then wrap32 (a - b) else if op = 6 then wrap32 (a * b) else wrap32 (a.tdiv b)
theorem specWrap8 (n : Int) (w : World) : Calls Try.prog 82 #[.int .i64 n] w fun e w' => e = .returned (.int .i64 (wrap32 n)) ∧ w = w' := by
  have hb := (wrap_bd n).1
  have hc := (wrap_bd n).2
  go_enter Try.func82, Try.ntmps82
  go_wp2
  go_ret
  exact ⟨rfl, rfl⟩
set_option maxHeartbeats 1000000 in
theorem l8Sum_at (op a b : Int) (hop : op = 4 ∨ op = 5 ∨ op = 6 ∨ op = 7) (ha : okB a = true) (hb : okB b = true) (h0 : op = 7 → b ≠ 0) (w : World) :
    Calls Try.prog 75 #[.int .i64 op, .int .i64 a, .int .i64 b] w fun e w' => e = .returned (.int .i64 (sumS op a b)) ∧ w = w' := by
  have a1 := (ok_yes ha).1
  have a2 := (ok_yes ha).2
  have b1 := (ok_yes hb).1
  have b2 := (ok_yes hb).2
  clear ha hb
  rcases hop with rfl | rfl | rfl | rfl
  · clear h0
    go_enter Try.func75, Try.ntmps75
    go_wp2_with fail
    refine (specWrap8 _ _).mono ?_
    rintro e w1 ⟨rfl, rfl⟩
    go_wp2
    go_ret
    exact ⟨rfl, rfl⟩
  · clear h0
    go_enter Try.func75, Try.ntmps75
    go_wp2_with fail
    refine (specWrap8 _ _).mono ?_
    rintro e w1 ⟨rfl, rfl⟩
    go_wp2
    go_ret
    exact ⟨rfl, rfl⟩
  · clear h0
    go_enter Try.func75, Try.ntmps75
    go_wp2_with fail
    refine (specWrap8 _ _).mono ?_
    rintro e w1 ⟨rfl, rfl⟩
    go_wp2
    go_ret
    exact ⟨ret_int (w32_64 _), rfl⟩
  · have hz := h0 rfl
    clear h0
    go_enter Try.func75, Try.ntmps75
    go_wp2_with fail
    refine (specWrap8 _ _).mono ?_
    rintro e w1 ⟨rfl, rfl⟩
    go_wp2
    go_ret
    exact ⟨ret_int (w32_64 _), rfl⟩
end Pg
end Go.Proofs.Ythabenjodhjgiaa
