/- The contracts of Plus, Minus and Times, of the program and of its specification. -/
import Derived.Test.YthabenjodhjgiaaWordB
namespace Go.Proofs.Ythabenjodhjgiaa
namespace Wd
open Go.ChangeShapes Go.WideShapes Go.ChangeAt Go.RowKit

theorem ofWords_no1 (a b : Int) (v : Value) (w : World) (h : okB a = false) :
    Calls Try.prog 89 #[.int .i64 a, .int .i64 b, v] w fun e w' => e = .returned (.int .i64 0) ∧ w = w' := by
  go_enter Try.func89, Try.ntmps89
  go_wp2_with (go_at_call 70; refine (implWordOk _ _).mono ?_; rintro e w' ⟨rfl, rfl⟩)
  go_ret
  exact ⟨rfl, rfl⟩
theorem ofWords_no2 (a b : Int) (v : Value) (w : World) (h : okB a = true) (h' : okB b = false) :
    Calls Try.prog 89 #[.int .i64 a, .int .i64 b, v] w fun e w' => e = .returned (.int .i64 0) ∧ w = w' := by
  go_enter Try.func89, Try.ntmps89
  go_wp2_with (go_at_call 70; refine (implWordOk _ _).mono ?_; rintro e w' ⟨rfl, rfl⟩)
  go_ret
  exact ⟨rfl, rfl⟩

theorem ofWords_plus (a b : Int) (w : World) (h : okB a = true) (h' : okB b = true) :
    Calls Try.prog 89 #[.int .i64 a, .int .i64 b, .func (.func 90) #[] #[]] w fun e w' => e = .returned (.int .i64 (wrap32 (a + b))) ∧ w = w' := by
  have a1 := (ok_yes h).1
  have a2 := (ok_yes h).2
  have b1 := (ok_yes h').1
  have b2 := (ok_yes h').2
  have hb := (wrap_bd (a + b)).1
  have hc := (wrap_bd (a + b)).2
  go_enter Try.func89, Try.ntmps89
  go_wp2
  go_ret
  exact ⟨rfl, rfl⟩
theorem implPlus (a b : Int) (w : World) :
    Calls Try.prog 83 #[.int .i64 a, .int .i64 b] w fun e w' => e = .returned (.int .i64 (plusF a b)) ∧ w = w' := by
  cases h : okB a
  · have e : plusF a b = 0 := by simp [plusF, h]
    rw [e]
    clear e
    go_enter Try.func83, Try.ntmps83
    go_wp2_with (go_at_call 89; refine (ofWords_no1 _ _ _ _ h).mono ?_; rintro e w' ⟨rfl, rfl⟩)
    go_ret
    exact ⟨rfl, rfl⟩
  · cases h' : okB b
    · have e : plusF a b = 0 := by simp [plusF, h']
      rw [e]
      clear e
      go_enter Try.func83, Try.ntmps83
      go_wp2_with (go_at_call 89; refine (ofWords_no2 _ _ _ _ h h').mono ?_; rintro e w' ⟨rfl, rfl⟩)
      go_ret
      exact ⟨rfl, rfl⟩
    · have e : plusF a b = wrap32 (a + b) := by simp [plusF, h, h']
      rw [e]
      clear e
      go_enter Try.func83, Try.ntmps83
      go_wp2_with (go_at_call 89; refine (ofWords_plus _ _ _ h h').mono ?_; rintro e w' ⟨rfl, rfl⟩)
      go_ret
      exact ⟨rfl, rfl⟩
theorem ofWords_minus (a b : Int) (w : World) (h : okB a = true) (h' : okB b = true) :
    Calls Try.prog 89 #[.int .i64 a, .int .i64 b, .func (.func 91) #[] #[]] w fun e w' => e = .returned (.int .i64 (wrap32 (a - b))) ∧ w = w' := by
  have a1 := (ok_yes h).1
  have a2 := (ok_yes h).2
  have b1 := (ok_yes h').1
  have b2 := (ok_yes h').2
  have hb := (wrap_bd (a - b)).1
  have hc := (wrap_bd (a - b)).2
  go_enter Try.func89, Try.ntmps89
  go_wp2
  go_ret
  exact ⟨rfl, rfl⟩
theorem implMinus (a b : Int) (w : World) :
    Calls Try.prog 84 #[.int .i64 a, .int .i64 b] w fun e w' => e = .returned (.int .i64 (minusF a b)) ∧ w = w' := by
  cases h : okB a
  · have e : minusF a b = 0 := by simp [minusF, h]
    rw [e]
    clear e
    go_enter Try.func84, Try.ntmps84
    go_wp2_with (go_at_call 89; refine (ofWords_no1 _ _ _ _ h).mono ?_; rintro e w' ⟨rfl, rfl⟩)
    go_ret
    exact ⟨rfl, rfl⟩
  · cases h' : okB b
    · have e : minusF a b = 0 := by simp [minusF, h']
      rw [e]
      clear e
      go_enter Try.func84, Try.ntmps84
      go_wp2_with (go_at_call 89; refine (ofWords_no2 _ _ _ _ h h').mono ?_; rintro e w' ⟨rfl, rfl⟩)
      go_ret
      exact ⟨rfl, rfl⟩
    · have e : minusF a b = wrap32 (a - b) := by simp [minusF, h, h']
      rw [e]
      clear e
      go_enter Try.func84, Try.ntmps84
      go_wp2_with (go_at_call 89; refine (ofWords_minus _ _ _ h h').mono ?_; rintro e w' ⟨rfl, rfl⟩)
      go_ret
      exact ⟨rfl, rfl⟩
theorem ofWords_times (a b : Int) (w : World) (h : okB a = true) (h' : okB b = true) :
    Calls Try.prog 89 #[.int .i64 a, .int .i64 b, .func (.func 92) #[] #[]] w fun e w' => e = .returned (.int .i64 (wrap32 (a * b))) ∧ w = w' := by
  have a1 := (ok_yes h).1
  have a2 := (ok_yes h).2
  have b1 := (ok_yes h').1
  have b2 := (ok_yes h').2
  have hb := (wrap_bd (a * b)).1
  have hc := (wrap_bd (a * b)).2
  go_enter Try.func89, Try.ntmps89
  go_wp2
  go_ret
  exact ⟨rfl, rfl⟩
theorem implTimes (a b : Int) (w : World) :
    Calls Try.prog 85 #[.int .i64 a, .int .i64 b] w fun e w' => e = .returned (.int .i64 (timesF a b)) ∧ w = w' := by
  cases h : okB a
  · have e : timesF a b = 0 := by simp [timesF, h]
    rw [e]
    clear e
    go_enter Try.func85, Try.ntmps85
    go_wp2_with (go_at_call 89; refine (ofWords_no1 _ _ _ _ h).mono ?_; rintro e w' ⟨rfl, rfl⟩)
    go_ret
    exact ⟨rfl, rfl⟩
  · cases h' : okB b
    · have e : timesF a b = 0 := by simp [timesF, h']
      rw [e]
      clear e
      go_enter Try.func85, Try.ntmps85
      go_wp2_with (go_at_call 89; refine (ofWords_no2 _ _ _ _ h h').mono ?_; rintro e w' ⟨rfl, rfl⟩)
      go_ret
      exact ⟨rfl, rfl⟩
    · have e : timesF a b = wrap32 (a * b) := by simp [timesF, h, h']
      rw [e]
      clear e
      go_enter Try.func85, Try.ntmps85
      go_wp2_with (go_at_call 89; refine (ofWords_times _ _ _ h h').mono ?_; rintro e w' ⟨rfl, rfl⟩)
      go_ret
      exact ⟨rfl, rfl⟩
end Wd
end Go.Proofs.Ythabenjodhjgiaa
