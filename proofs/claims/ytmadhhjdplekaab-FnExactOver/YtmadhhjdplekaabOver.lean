/- The contracts of Over, of the program and of its specification. -/
import Derived.Test.YtmadhhjdplekaabWord0
namespace Go.Proofs.Ytmadhhjdplekaab
namespace Wd
open Go.ChangeShapes Go.WideShapes Go.ChangeAt Go.RowKit

theorem divided_no (b : Int) (v : Value) (w : World) (h : okB b = false) :
    Calls Try.prog 9 #[v, .int .i64 b] w fun e w' => e = .returned (.tuple #[.int .i64 0, .bool false]) ∧ w = w' := by
  go_enter Try.func9, Try.ntmps9
  go_wp2_with (go_at_call 8; refine (implWordOk _ _).mono ?_; rintro e w' ⟨rfl, rfl⟩)
  go_ret2
  exact ⟨rfl, rfl⟩
theorem divided_zero (b : Int) (v : Value) (w : World) (h : okB b = true) (hb : (b == 0) = true) :
    Calls Try.prog 9 #[v, .int .i64 b] w fun e w' => e = .returned (.tuple #[.int .i64 0, .bool false]) ∧ w = w' := by
  go_enter Try.func9, Try.ntmps9
  go_wp2_with (go_at_call 8; refine (implWordOk _ _).mono ?_; rintro e w' ⟨rfl, rfl⟩)
  go_ret2
  exact ⟨rfl, rfl⟩
theorem divided_yes (a b : Int) (w : World) (h : okB a = true) (h' : okB b = true) (hb : (b == 0) = false) :
    Calls Try.prog 9 #[.func (.func 10) #[.int .i32 a] #[], .int .i64 b] w fun e w' => e = .returned (.tuple #[.int .i64 (wrap32 (a.tdiv b)), .bool true]) ∧ w = w' := by
  have a1 := (ok_yes h).1
  have a2 := (ok_yes h).2
  have b1 := (ok_yes h').1
  have b2 := (ok_yes h').2
  have hb0 : ¬ b = 0 := by simpa using hb
  have hb1 := (wrap_bd (a.tdiv b)).1
  have hc1 := (wrap_bd (a.tdiv b)).2
  go_enter Try.func9, Try.ntmps9
  go_wp2
  go_ret2
  exact ⟨rfl, rfl⟩

theorem implOver (a b : Int) (w : World) :
    Calls Try.prog 5 #[.int .i64 a, .int .i64 b] w fun e w' => e = .returned (.tuple #[.int .i64 (overF a b), .bool (overB a b)]) ∧ w = w' := by
  cases h : okB a
  · have e : overF a b = 0 := by simp [overF, overB, h]
    have e' : overB a b = false := by simp [overB, h]
    rw [e, e']
    clear e e'
    go_enter Try.func5, Try.ntmps5
    go_wp2_with (go_at_call 8; refine (implWordOk _ _).mono ?_; rintro e w' ⟨rfl, rfl⟩)
    go_ret2
    exact ⟨rfl, rfl⟩
  · have a1 := (ok_yes h).1
    have a2 := (ok_yes h).2
    cases h' : okB b
    · have e : overF a b = 0 := by simp [overF, overB, h']
      have e' : overB a b = false := by simp [overB, h']
      rw [e, e']
      clear e e'
      go_enter Try.func5, Try.ntmps5
      go_wp2_with (first | (go_at_call 8; refine (implWordOk _ _).mono ?_; rintro e w' ⟨rfl, rfl⟩) | (go_at_call 9; refine (divided_no _ _ _ h').mono ?_; rintro e w' ⟨rfl, rfl⟩))
      go_ret2
      exact ⟨rfl, rfl⟩
    · cases hb : (b == 0)
      · have e : overF a b = wrap32 (a.tdiv b) := by simp [overF, overB, h, h', hb]
        have e' : overB a b = true := by simp [overB, h, h', hb]
        rw [e, e']
        clear e e'
        go_enter Try.func5, Try.ntmps5
        go_wp2_with (first | (go_at_call 8; refine (implWordOk _ _).mono ?_; rintro e w' ⟨rfl, rfl⟩) | (go_at_call 9; refine (divided_yes _ _ _ h h' hb).mono ?_; rintro e w' ⟨rfl, rfl⟩))
        go_ret2
        exact ⟨rfl, rfl⟩
      · have e : overF a b = 0 := by simp [overF, overB, hb]
        have e' : overB a b = false := by simp [overB, hb]
        rw [e, e']
        clear e e'
        go_enter Try.func5, Try.ntmps5
        go_wp2_with (first | (go_at_call 8; refine (implWordOk _ _).mono ?_; rintro e w' ⟨rfl, rfl⟩) | (go_at_call 9; refine (divided_zero _ _ _ h' hb).mono ?_; rintro e w' ⟨rfl, rfl⟩))
        go_ret2
        exact ⟨rfl, rfl⟩

theorem ret_over {x y : Int} (h : x = y) : Ending.returned (.tuple #[.int .i64 x, .bool true]) = .returned (.tuple #[.int .i64 y, .bool true]) := by rw [h]

theorem specOver (a b : Int) (w : World) :
    Calls Try.prog 4 #[.int .i64 a, .int .i64 b] w fun e w' => e = .returned (.tuple #[.int .i64 (overF a b), .bool (overB a b)]) ∧ w = w' := by
  cases h : okB a
  · have e : overF a b = 0 := by simp [overF, overB, h]
    have e' : overB a b = false := by simp [overB, h]
    rw [e, e']
    clear e e'
    go_enter Try.func4, Try.ntmps4
    go_wp2_with (go_at_call 6; refine (specWordOk _ _).mono ?_; rintro e w' ⟨rfl, rfl⟩)
    go_ret2
    exact ⟨rfl, rfl⟩
  · have a1 := (ok_yes h).1
    have a2 := (ok_yes h).2
    cases h' : okB b
    · have e : overF a b = 0 := by simp [overF, overB, h']
      have e' : overB a b = false := by simp [overB, h']
      rw [e, e']
      clear e e'
      go_enter Try.func4, Try.ntmps4
      go_wp2_with (go_at_call 6; refine (specWordOk _ _).mono ?_; rintro e w' ⟨rfl, rfl⟩)
      go_ret2
      exact ⟨rfl, rfl⟩
    · cases hb : (b == 0)
      · have e : overF a b = wrap32 (a.tdiv b) := by simp [overF, overB, h, h', hb]
        have e' : overB a b = true := by simp [overB, h, h', hb]
        rw [e, e']
        clear e e'
        have hb0 : ¬ b = 0 := by simpa using hb
        have b1 := (ok_yes h').1
        have b2 := (ok_yes h').2
        go_enter Try.func4, Try.ntmps4
        go_wp2_with (first | (go_at_call 6; refine (specWordOk _ _).mono ?_; rintro e w' ⟨rfl, rfl⟩) | (go_at_call 7; refine (specWrap _ _).mono ?_; rintro e w' ⟨rfl, rfl⟩))
        go_ret2
        exact ⟨ret_over (w32_64 _), rfl⟩
      · have e : overF a b = 0 := by simp [overF, overB, hb]
        have e' : overB a b = false := by simp [overB, hb]
        rw [e, e']
        clear e e'
        go_enter Try.func4, Try.ntmps4
        go_wp2_with (go_at_call 6; refine (specWordOk _ _).mono ?_; rintro e w' ⟨rfl, rfl⟩)
        go_ret2
        exact ⟨rfl, rfl⟩
end Wd
end Go.Proofs.Ytmadhhjdplekaab
