/- The contracts of Over, of the program and of its specification. -/
import Derived.Test.YthabenjodhjgiaaWordB
namespace Go.Proofs.Ythabenjodhjgiaa
namespace Wd
open Go.ChangeShapes Go.WideShapes Go.ChangeAt Go.RowKit

theorem divided_no (b : Int) (v : Value) (w : World) (h : okB b = false) :
    Calls Try.prog 93 #[v, .int .i64 b] w fun e w' => e = .returned (.tuple #[.int .i64 0, .bool false]) ∧ w = w' := by
  go_enter Try.func93, Try.ntmps93
  go_wp2_with (go_at_call 70; refine (implWordOk _ _).mono ?_; rintro e w' ⟨rfl, rfl⟩)
  go_ret2
  exact ⟨rfl, rfl⟩
theorem divided_zero (b : Int) (v : Value) (w : World) (h : okB b = true) (hb : (b == 0) = true) :
    Calls Try.prog 93 #[v, .int .i64 b] w fun e w' => e = .returned (.tuple #[.int .i64 0, .bool false]) ∧ w = w' := by
  go_enter Try.func93, Try.ntmps93
  go_wp2_with (go_at_call 70; refine (implWordOk _ _).mono ?_; rintro e w' ⟨rfl, rfl⟩)
  go_ret2
  exact ⟨rfl, rfl⟩
theorem divided_yes (a b : Int) (w : World) (h : okB a = true) (h' : okB b = true) (hb : (b == 0) = false) :
    Calls Try.prog 93 #[.func (.func 94) #[.int .i32 a] #[], .int .i64 b] w fun e w' => e = .returned (.tuple #[.int .i64 (wrap32 (a.tdiv b)), .bool true]) ∧ w = w' := by
  have a1 := (ok_yes h).1
  have a2 := (ok_yes h).2
  have b1 := (ok_yes h').1
  have b2 := (ok_yes h').2
  have hb0 : ¬ b = 0 := by simpa using hb
  have hb1 := (wrap_bd (a.tdiv b)).1
  have hc1 := (wrap_bd (a.tdiv b)).2
  go_enter Try.func93, Try.ntmps93
  go_wp2
  go_ret2
  exact ⟨rfl, rfl⟩

theorem implOver (a b : Int) (w : World) :
    Calls Try.prog 86 #[.int .i64 a, .int .i64 b] w fun e w' => e = .returned (.tuple #[.int .i64 (overF a b), .bool (overB a b)]) ∧ w = w' := by
  cases h : okB a
  · have e : overF a b = 0 := by simp [overF, overB, h]
    have e' : overB a b = false := by simp [overB, h]
    rw [e, e']
    clear e e'
    go_enter Try.func86, Try.ntmps86
    go_wp2_with (go_at_call 70; refine (implWordOk _ _).mono ?_; rintro e w' ⟨rfl, rfl⟩)
    go_ret2
    exact ⟨rfl, rfl⟩
  · have a1 := (ok_yes h).1
    have a2 := (ok_yes h).2
    cases h' : okB b
    · have e : overF a b = 0 := by simp [overF, overB, h']
      have e' : overB a b = false := by simp [overB, h']
      rw [e, e']
      clear e e'
      go_enter Try.func86, Try.ntmps86
      go_wp2_with (first | (go_at_call 70; refine (implWordOk _ _).mono ?_; rintro e w' ⟨rfl, rfl⟩) | (go_at_call 93; refine (divided_no _ _ _ h').mono ?_; rintro e w' ⟨rfl, rfl⟩))
      go_ret2
      exact ⟨rfl, rfl⟩
    · cases hb : (b == 0)
      · have e : overF a b = wrap32 (a.tdiv b) := by simp [overF, overB, h, h', hb]
        have e' : overB a b = true := by simp [overB, h, h', hb]
        rw [e, e']
        clear e e'
        go_enter Try.func86, Try.ntmps86
        go_wp2_with (first | (go_at_call 70; refine (implWordOk _ _).mono ?_; rintro e w' ⟨rfl, rfl⟩) | (go_at_call 93; refine (divided_yes _ _ _ h h' hb).mono ?_; rintro e w' ⟨rfl, rfl⟩))
        go_ret2
        exact ⟨rfl, rfl⟩
      · have e : overF a b = 0 := by simp [overF, overB, hb]
        have e' : overB a b = false := by simp [overB, hb]
        rw [e, e']
        clear e e'
        go_enter Try.func86, Try.ntmps86
        go_wp2_with (first | (go_at_call 70; refine (implWordOk _ _).mono ?_; rintro e w' ⟨rfl, rfl⟩) | (go_at_call 93; refine (divided_zero _ _ _ h' hb).mono ?_; rintro e w' ⟨rfl, rfl⟩))
        go_ret2
        exact ⟨rfl, rfl⟩

theorem ret_over {x y : Int} (h : x = y) : Ending.returned (.tuple #[.int .i64 x, .bool true]) = .returned (.tuple #[.int .i64 y, .bool true]) := by rw [h]

end Wd
end Go.Proofs.Ythabenjodhjgiaa
