/- The contracts of Plus, Minus and Times, of the program and of its specification. -/
import Derived.Test.YtmadhhjdplekaaaWord0
namespace Go.Proofs.Ytmadhhjdplekaaa
namespace Wd
open Go.ChangeShapes Go.WideShapes Go.ChangeAt Go.RowKit

theorem ofWords_no1 (a b : Int) (v : Value) (w : World) (h : okB a = false) :
    Calls Try.prog 27 #[.int .i64 a, .int .i64 b, v] w fun e w' => e = .returned (.int .i64 0) ∧ w = w' := by
  go_enter Try.func27, Try.ntmps27
  go_wp2_with (go_at_call 21; refine (implWordOk _ _).mono ?_; rintro e w' ⟨rfl, rfl⟩)
  go_ret
  exact ⟨rfl, rfl⟩
theorem ofWords_no2 (a b : Int) (v : Value) (w : World) (h : okB a = true) (h' : okB b = false) :
    Calls Try.prog 27 #[.int .i64 a, .int .i64 b, v] w fun e w' => e = .returned (.int .i64 0) ∧ w = w' := by
  go_enter Try.func27, Try.ntmps27
  go_wp2_with (go_at_call 21; refine (implWordOk _ _).mono ?_; rintro e w' ⟨rfl, rfl⟩)
  go_ret
  exact ⟨rfl, rfl⟩

theorem ofWords_plus (a b : Int) (w : World) (h : okB a = true) (h' : okB b = true) :
    Calls Try.prog 27 #[.int .i64 a, .int .i64 b, .func (.func 28) #[] #[]] w fun e w' => e = .returned (.int .i64 (wrap32 (a + b))) ∧ w = w' := by
  have a1 := (ok_yes h).1
  have a2 := (ok_yes h).2
  have b1 := (ok_yes h').1
  have b2 := (ok_yes h').2
  have hb := (wrap_bd (a + b)).1
  have hc := (wrap_bd (a + b)).2
  go_enter Try.func27, Try.ntmps27
  go_wp2
  go_ret
  exact ⟨rfl, rfl⟩
theorem implPlus (a b : Int) (w : World) :
    Calls Try.prog 11 #[.int .i64 a, .int .i64 b] w fun e w' => e = .returned (.int .i64 (plusF a b)) ∧ w = w' := by
  cases h : okB a
  · have e : plusF a b = 0 := by simp [plusF, h]
    rw [e]
    clear e
    go_enter Try.func11, Try.ntmps11
    go_wp2_with (go_at_call 27; refine (ofWords_no1 _ _ _ _ h).mono ?_; rintro e w' ⟨rfl, rfl⟩)
    go_ret
    exact ⟨rfl, rfl⟩
  · cases h' : okB b
    · have e : plusF a b = 0 := by simp [plusF, h']
      rw [e]
      clear e
      go_enter Try.func11, Try.ntmps11
      go_wp2_with (go_at_call 27; refine (ofWords_no2 _ _ _ _ h h').mono ?_; rintro e w' ⟨rfl, rfl⟩)
      go_ret
      exact ⟨rfl, rfl⟩
    · have e : plusF a b = wrap32 (a + b) := by simp [plusF, h, h']
      rw [e]
      clear e
      go_enter Try.func11, Try.ntmps11
      go_wp2_with (go_at_call 27; refine (ofWords_plus _ _ _ h h').mono ?_; rintro e w' ⟨rfl, rfl⟩)
      go_ret
      exact ⟨rfl, rfl⟩
theorem specPlus (a b : Int) (w : World) :
    Calls Try.prog 17 #[.int .i64 a, .int .i64 b] w fun e w' => e = .returned (.int .i64 (plusF a b)) ∧ w = w' := by
  cases h : okB a
  · have e : plusF a b = 0 := by simp [plusF, h]
    rw [e]
    clear e
    go_enter Try.func17, Try.ntmps17
    go_wp2_with (go_at_call 22; refine (specWordOk _ _).mono ?_; rintro e w' ⟨rfl, rfl⟩)
    go_ret
    exact ⟨rfl, rfl⟩
  · cases h' : okB b
    · have e : plusF a b = 0 := by simp [plusF, h']
      rw [e]
      clear e
      go_enter Try.func17, Try.ntmps17
      go_wp2_with (go_at_call 22; refine (specWordOk _ _).mono ?_; rintro e w' ⟨rfl, rfl⟩)
      go_ret
      exact ⟨rfl, rfl⟩
    · have e : plusF a b = wrap32 (a + b) := by simp [plusF, h, h']
      rw [e]
      clear e
      have a1 := (ok_yes h).1
      have a2 := (ok_yes h).2
      have b1 := (ok_yes h').1
      have b2 := (ok_yes h').2
      go_enter Try.func17, Try.ntmps17
      go_wp2_with (first | (go_at_call 22; refine (specWordOk _ _).mono ?_; rintro e w' ⟨rfl, rfl⟩) | (go_at_call 20; refine (specWrap _ _).mono ?_; rintro e w' ⟨rfl, rfl⟩))
      go_ret
      exact ⟨rfl, rfl⟩

theorem ofWords_minus (a b : Int) (w : World) (h : okB a = true) (h' : okB b = true) :
    Calls Try.prog 27 #[.int .i64 a, .int .i64 b, .func (.func 29) #[] #[]] w fun e w' => e = .returned (.int .i64 (wrap32 (a - b))) ∧ w = w' := by
  have a1 := (ok_yes h).1
  have a2 := (ok_yes h).2
  have b1 := (ok_yes h').1
  have b2 := (ok_yes h').2
  have hb := (wrap_bd (a - b)).1
  have hc := (wrap_bd (a - b)).2
  go_enter Try.func27, Try.ntmps27
  go_wp2
  go_ret
  exact ⟨rfl, rfl⟩
theorem implMinus (a b : Int) (w : World) :
    Calls Try.prog 12 #[.int .i64 a, .int .i64 b] w fun e w' => e = .returned (.int .i64 (minusF a b)) ∧ w = w' := by
  cases h : okB a
  · have e : minusF a b = 0 := by simp [minusF, h]
    rw [e]
    clear e
    go_enter Try.func12, Try.ntmps12
    go_wp2_with (go_at_call 27; refine (ofWords_no1 _ _ _ _ h).mono ?_; rintro e w' ⟨rfl, rfl⟩)
    go_ret
    exact ⟨rfl, rfl⟩
  · cases h' : okB b
    · have e : minusF a b = 0 := by simp [minusF, h']
      rw [e]
      clear e
      go_enter Try.func12, Try.ntmps12
      go_wp2_with (go_at_call 27; refine (ofWords_no2 _ _ _ _ h h').mono ?_; rintro e w' ⟨rfl, rfl⟩)
      go_ret
      exact ⟨rfl, rfl⟩
    · have e : minusF a b = wrap32 (a - b) := by simp [minusF, h, h']
      rw [e]
      clear e
      go_enter Try.func12, Try.ntmps12
      go_wp2_with (go_at_call 27; refine (ofWords_minus _ _ _ h h').mono ?_; rintro e w' ⟨rfl, rfl⟩)
      go_ret
      exact ⟨rfl, rfl⟩
theorem specMinus (a b : Int) (w : World) :
    Calls Try.prog 18 #[.int .i64 a, .int .i64 b] w fun e w' => e = .returned (.int .i64 (minusF a b)) ∧ w = w' := by
  cases h : okB a
  · have e : minusF a b = 0 := by simp [minusF, h]
    rw [e]
    clear e
    go_enter Try.func18, Try.ntmps18
    go_wp2_with (go_at_call 22; refine (specWordOk _ _).mono ?_; rintro e w' ⟨rfl, rfl⟩)
    go_ret
    exact ⟨rfl, rfl⟩
  · cases h' : okB b
    · have e : minusF a b = 0 := by simp [minusF, h']
      rw [e]
      clear e
      go_enter Try.func18, Try.ntmps18
      go_wp2_with (go_at_call 22; refine (specWordOk _ _).mono ?_; rintro e w' ⟨rfl, rfl⟩)
      go_ret
      exact ⟨rfl, rfl⟩
    · have e : minusF a b = wrap32 (a - b) := by simp [minusF, h, h']
      rw [e]
      clear e
      have a1 := (ok_yes h).1
      have a2 := (ok_yes h).2
      have b1 := (ok_yes h').1
      have b2 := (ok_yes h').2
      go_enter Try.func18, Try.ntmps18
      go_wp2_with (first | (go_at_call 22; refine (specWordOk _ _).mono ?_; rintro e w' ⟨rfl, rfl⟩) | (go_at_call 20; refine (specWrap _ _).mono ?_; rintro e w' ⟨rfl, rfl⟩))
      go_ret
      exact ⟨rfl, rfl⟩

theorem ofWords_times (a b : Int) (w : World) (h : okB a = true) (h' : okB b = true) :
    Calls Try.prog 27 #[.int .i64 a, .int .i64 b, .func (.func 30) #[] #[]] w fun e w' => e = .returned (.int .i64 (wrap32 (a * b))) ∧ w = w' := by
  have a1 := (ok_yes h).1
  have a2 := (ok_yes h).2
  have b1 := (ok_yes h').1
  have b2 := (ok_yes h').2
  have hb := (wrap_bd (a * b)).1
  have hc := (wrap_bd (a * b)).2
  go_enter Try.func27, Try.ntmps27
  go_wp2
  go_ret
  exact ⟨rfl, rfl⟩
theorem implTimes (a b : Int) (w : World) :
    Calls Try.prog 13 #[.int .i64 a, .int .i64 b] w fun e w' => e = .returned (.int .i64 (timesF a b)) ∧ w = w' := by
  cases h : okB a
  · have e : timesF a b = 0 := by simp [timesF, h]
    rw [e]
    clear e
    go_enter Try.func13, Try.ntmps13
    go_wp2_with (go_at_call 27; refine (ofWords_no1 _ _ _ _ h).mono ?_; rintro e w' ⟨rfl, rfl⟩)
    go_ret
    exact ⟨rfl, rfl⟩
  · cases h' : okB b
    · have e : timesF a b = 0 := by simp [timesF, h']
      rw [e]
      clear e
      go_enter Try.func13, Try.ntmps13
      go_wp2_with (go_at_call 27; refine (ofWords_no2 _ _ _ _ h h').mono ?_; rintro e w' ⟨rfl, rfl⟩)
      go_ret
      exact ⟨rfl, rfl⟩
    · have e : timesF a b = wrap32 (a * b) := by simp [timesF, h, h']
      rw [e]
      clear e
      go_enter Try.func13, Try.ntmps13
      go_wp2_with (go_at_call 27; refine (ofWords_times _ _ _ h h').mono ?_; rintro e w' ⟨rfl, rfl⟩)
      go_ret
      exact ⟨rfl, rfl⟩
theorem specTimes (a b : Int) (w : World) :
    Calls Try.prog 19 #[.int .i64 a, .int .i64 b] w fun e w' => e = .returned (.int .i64 (timesF a b)) ∧ w = w' := by
  cases h : okB a
  · have e : timesF a b = 0 := by simp [timesF, h]
    rw [e]
    clear e
    go_enter Try.func19, Try.ntmps19
    go_wp2_with (go_at_call 22; refine (specWordOk _ _).mono ?_; rintro e w' ⟨rfl, rfl⟩)
    go_ret
    exact ⟨rfl, rfl⟩
  · cases h' : okB b
    · have e : timesF a b = 0 := by simp [timesF, h']
      rw [e]
      clear e
      go_enter Try.func19, Try.ntmps19
      go_wp2_with (go_at_call 22; refine (specWordOk _ _).mono ?_; rintro e w' ⟨rfl, rfl⟩)
      go_ret
      exact ⟨rfl, rfl⟩
    · have e : timesF a b = wrap32 (a * b) := by simp [timesF, h, h']
      rw [e]
      clear e
      have a1 := (ok_yes h).1
      have a2 := (ok_yes h).2
      have b1 := (ok_yes h').1
      have b2 := (ok_yes h').2
      go_enter Try.func19, Try.ntmps19
      go_wp2_with (first | (go_at_call 22; refine (specWordOk _ _).mono ?_; rintro e w' ⟨rfl, rfl⟩) | (go_at_call 20; refine (specWrap _ _).mono ?_; rintro e w' ⟨rfl, rfl⟩))
      go_ret
      exact ⟨ret_int (w32_64 _), rfl⟩

end Wd
end Go.Proofs.Ytmadhhjdplekaaa
