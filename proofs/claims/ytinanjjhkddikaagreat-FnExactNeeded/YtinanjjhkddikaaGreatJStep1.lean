/- Contracts of the two sides' tests whether a step is right. -/
import Derived.Test.YtinanjjhkddikaaGreatJStep0
import Derived.Handy
namespace Go.Proofs.YtinanjjhkddikaaGreat
namespace St
open Go.ChangeShapes Go.WideShapes Go.ChangeAt Go.RowKit

theorem retB {p q : Bool} (h : p = q) : Ending.returned (.bool p) = .returned (.bool q) := by rw [h]

theorem implOk (op a b : Int) (w : World) :
    Calls Tryz.prog 101 #[.agg #[.int .i64 op, .int .i64 a, .int .i64 b]] w fun e w' => e = .returned (.bool (Tx.okI op a b)) ∧ Below w.heap.size w w' := by
  by_cases h1 : op = 1
  · subst h1
    by_cases hb : b = 0
    · subst hb
      have e : Tx.okI 1 a 0 = Wd.okB a := by simp [Tx.okI, Wd.okB]
      rw [e]
      clear e
      cases h : Wd.okB a
      all_goals
        go_enter Tryz.func101, Tryz.ntmps101
        go_wp2_with (first
          | (go_at_call 113; refine (Wd.implWordOk _ _).mono ?_; rintro e w' ⟨rfl, rfl⟩))
        go_ret
        exact ⟨rfl, by go_grown⟩
    · have e : Tx.okI 1 a b = false := by simp [Tx.okI, hb]
      rw [e]
      clear e
      have hb' : (b == 0) = false := by simp [hb]
      cases h : Wd.okB a
      all_goals
        go_enter Tryz.func101, Tryz.ntmps101
        go_wp2_with (first
          | (go_at_call 113; refine (Wd.implWordOk _ _).mono ?_; rintro e w' ⟨rfl, rfl⟩))
        go_ret
        exact ⟨by first | rfl | simp, by go_grown⟩
  · have hok : Tx.okI op a b = ((decide (0 ≤ a) && decide (a < Tx.limA op)) && (decide (0 ≤ b) && decide (b < Tx.limB op))) := by
      unfold Tx.okI; rw [if_neg h1]; simp only [Bool.and_assoc]
    rw [hok]
    clear hok
    cases hp : (decide (0 ≤ a) && decide (a < Tx.limA op))
    · go_enter Tryz.func101, Tryz.ntmps101
      go_wp2_with (first
        | (go_at_call 114; refine (limits _ _).mono ?_; rintro e w' ⟨rfl, rfl⟩)
        | (go_at_call 62; refine (isBelow _ _ _).mono ?_; rw [hp]; rintro e w' ⟨rfl, rfl⟩))
      all_goals go_ret
      all_goals exact ⟨rfl, by go_grown⟩
    · go_enter Tryz.func101, Tryz.ntmps101
      go_wp2_with (first
        | (go_at_call 114; refine (limits _ _).mono ?_; rintro e w' ⟨rfl, rfl⟩)
        | (go_at_call 62; refine (isBelow _ _ _).mono ?_; rw [hp]; rintro e w' ⟨rfl, rfl⟩)
        | (go_at_call 62; refine (isBelow _ _ _).mono ?_; rintro e w' ⟨rfl, rfl⟩))
      all_goals go_ret
      all_goals exact ⟨rfl, by go_grown⟩

theorem count_at (op : Int) (c : Nat) (h : Tx.cnt op = c) (w : World) :
    Calls Tryz.prog 109 #[.int .i64 op] w fun e w' => e = .returned (.int .i64 c) ∧ w = w' := by
  subst h; exact count op w

theorem spec1 (a b : Int) (w : World) :
    Calls Tryz.prog 98 #[.agg #[.int .i64 1, .int .i64 a, .int .i64 b]] w fun e w' => e = .returned (.bool (Tx.okI 1 a b)) ∧ Below w.heap.size w w' := by
  by_cases hb : b = 0
  · subst hb
    go_enter Tryz.func98, Tryz.ntmps98
    go_wp2_with (first
    | (go_at_call 110; refine (Wd.specWordOk _ _).mono ?_; rintro e w' ⟨rfl, rfl⟩)
    | (go_at_call 109; refine (count_at _ 1 rfl _).mono ?_; rintro e w' ⟨rfl, rfl⟩)
    | (go_at_call 66; refine (l1In _ _ _ _).mono ?_; rintro e w' ⟨rfl, rfl⟩))
    all_goals go_ret
    all_goals exact ⟨retB (by simp [Tx.okI, Wd.okB]), by go_grown⟩
  · have hb' : (b == 0) = false := by simp [hb]
    go_enter Tryz.func98, Tryz.ntmps98
    go_wp2_with (first
    | (go_at_call 110; refine (Wd.specWordOk _ _).mono ?_; rintro e w' ⟨rfl, rfl⟩)
    | (go_at_call 109; refine (count_at _ 1 rfl _).mono ?_; rintro e w' ⟨rfl, rfl⟩)
    | (go_at_call 66; refine (l1In _ _ _ _).mono ?_; rintro e w' ⟨rfl, rfl⟩))
    all_goals go_ret
    all_goals exact ⟨retB (by simp [Tx.okI, hb]), by go_grown⟩

theorem spec2 (a b : Int) (w : World) :
    Calls Tryz.prog 98 #[.agg #[.int .i64 2, .int .i64 a, .int .i64 b]] w fun e w' => e = .returned (.bool (Tx.okI 2 a b)) ∧ Below w.heap.size w w' := by
  by_cases hb : b = 0
  · subst hb
    go_enter Tryz.func98, Tryz.ntmps98
    go_wp2_with (first
    | (go_at_call 110; refine (Wd.specWordOk _ _).mono ?_; rintro e w' ⟨rfl, rfl⟩)
    | (go_at_call 109; refine (count_at _ 1 rfl _).mono ?_; rintro e w' ⟨rfl, rfl⟩)
    | (go_at_call 66; refine (l1In _ _ _ _).mono ?_; rintro e w' ⟨rfl, rfl⟩))
    all_goals go_ret
    all_goals exact ⟨retB (by rw [Bool.eq_iff_iff]; simp [Tx.okI, Tx.limA, Tx.limB]; omega), by go_grown⟩
  · have hb' : (b == 0) = false := by simp [hb]
    go_enter Tryz.func98, Tryz.ntmps98
    go_wp2_with (first
    | (go_at_call 110; refine (Wd.specWordOk _ _).mono ?_; rintro e w' ⟨rfl, rfl⟩)
    | (go_at_call 109; refine (count_at _ 1 rfl _).mono ?_; rintro e w' ⟨rfl, rfl⟩)
    | (go_at_call 66; refine (l1In _ _ _ _).mono ?_; rintro e w' ⟨rfl, rfl⟩))
    all_goals go_ret
    all_goals exact ⟨retB (by simp [Tx.okI, Tx.limA, Tx.limB]; omega), by go_grown⟩

theorem spec3 (a b : Int) (w : World) :
    Calls Tryz.prog 98 #[.agg #[.int .i64 3, .int .i64 a, .int .i64 b]] w fun e w' => e = .returned (.bool (Tx.okI 3 a b)) ∧ Below w.heap.size w w' := by
  by_cases hb : b = 0
  · subst hb
    go_enter Tryz.func98, Tryz.ntmps98
    go_wp2_with (first
    | (go_at_call 110; refine (Wd.specWordOk _ _).mono ?_; rintro e w' ⟨rfl, rfl⟩)
    | (go_at_call 109; refine (count_at _ 1 rfl _).mono ?_; rintro e w' ⟨rfl, rfl⟩)
    | (go_at_call 66; refine (l1In _ _ _ _).mono ?_; rintro e w' ⟨rfl, rfl⟩))
    all_goals go_ret
    all_goals exact ⟨retB (by rw [Bool.eq_iff_iff]; simp [Tx.okI, Tx.limA, Tx.limB]; omega), by go_grown⟩
  · have hb' : (b == 0) = false := by simp [hb]
    go_enter Tryz.func98, Tryz.ntmps98
    go_wp2_with (first
    | (go_at_call 110; refine (Wd.specWordOk _ _).mono ?_; rintro e w' ⟨rfl, rfl⟩)
    | (go_at_call 109; refine (count_at _ 1 rfl _).mono ?_; rintro e w' ⟨rfl, rfl⟩)
    | (go_at_call 66; refine (l1In _ _ _ _).mono ?_; rintro e w' ⟨rfl, rfl⟩))
    all_goals go_ret
    all_goals exact ⟨retB (by simp [Tx.okI, Tx.limA, Tx.limB]; omega), by go_grown⟩

theorem spec4 (a b : Int) (w : World) :
    Calls Tryz.prog 98 #[.agg #[.int .i64 4, .int .i64 a, .int .i64 b]] w fun e w' => e = .returned (.bool (Tx.okI 4 a b)) ∧ Below w.heap.size w w' := by
  by_cases hb : b = 0
  · subst hb
    by_cases ha : a = 0
    · subst ha
      go_enter Tryz.func98, Tryz.ntmps98
      go_wp2_with (first
    | (go_at_call 110; refine (Wd.specWordOk _ _).mono ?_; rintro e w' ⟨rfl, rfl⟩)
    | (go_at_call 109; refine (count_at _ 0 rfl _).mono ?_; rintro e w' ⟨rfl, rfl⟩)
    | (go_at_call 66; refine (l1In _ _ _ _).mono ?_; rintro e w' ⟨rfl, rfl⟩))
      all_goals go_ret
      all_goals exact ⟨retB (by decide), by go_grown⟩
    · have ha' : (a == 0) = false := by simp [ha]
      go_enter Tryz.func98, Tryz.ntmps98
      go_wp2_with (first
    | (go_at_call 110; refine (Wd.specWordOk _ _).mono ?_; rintro e w' ⟨rfl, rfl⟩)
    | (go_at_call 109; refine (count_at _ 0 rfl _).mono ?_; rintro e w' ⟨rfl, rfl⟩)
    | (go_at_call 66; refine (l1In _ _ _ _).mono ?_; rintro e w' ⟨rfl, rfl⟩))
      all_goals go_ret
      all_goals exact ⟨retB (by simp [Tx.okI, Tx.limA, Tx.limB]; omega), by go_grown⟩
  · have hb' : (b == 0) = false := by simp [hb]
    go_enter Tryz.func98, Tryz.ntmps98
    go_wp2_with (first
    | (go_at_call 110; refine (Wd.specWordOk _ _).mono ?_; rintro e w' ⟨rfl, rfl⟩)
    | (go_at_call 109; refine (count_at _ 0 rfl _).mono ?_; rintro e w' ⟨rfl, rfl⟩)
    | (go_at_call 66; refine (l1In _ _ _ _).mono ?_; rintro e w' ⟨rfl, rfl⟩))
    all_goals go_ret
    all_goals exact ⟨retB (by simp [Tx.okI, Tx.limA, Tx.limB]; omega), by go_grown⟩

theorem spec5 (a b : Int) (w : World) :
    Calls Tryz.prog 98 #[.agg #[.int .i64 5, .int .i64 a, .int .i64 b]] w fun e w' => e = .returned (.bool (Tx.okI 5 a b)) ∧ Below w.heap.size w w' := by
  by_cases hb : b = 0
  · subst hb
    by_cases ha : a = 0
    · subst ha
      go_enter Tryz.func98, Tryz.ntmps98
      go_wp2_with (first
    | (go_at_call 110; refine (Wd.specWordOk _ _).mono ?_; rintro e w' ⟨rfl, rfl⟩)
    | (go_at_call 109; refine (count_at _ 0 rfl _).mono ?_; rintro e w' ⟨rfl, rfl⟩)
    | (go_at_call 66; refine (l1In _ _ _ _).mono ?_; rintro e w' ⟨rfl, rfl⟩))
      all_goals go_ret
      all_goals exact ⟨retB (by decide), by go_grown⟩
    · have ha' : (a == 0) = false := by simp [ha]
      go_enter Tryz.func98, Tryz.ntmps98
      go_wp2_with (first
    | (go_at_call 110; refine (Wd.specWordOk _ _).mono ?_; rintro e w' ⟨rfl, rfl⟩)
    | (go_at_call 109; refine (count_at _ 0 rfl _).mono ?_; rintro e w' ⟨rfl, rfl⟩)
    | (go_at_call 66; refine (l1In _ _ _ _).mono ?_; rintro e w' ⟨rfl, rfl⟩))
      all_goals go_ret
      all_goals exact ⟨retB (by simp [Tx.okI, Tx.limA, Tx.limB]; omega), by go_grown⟩
  · have hb' : (b == 0) = false := by simp [hb]
    go_enter Tryz.func98, Tryz.ntmps98
    go_wp2_with (first
    | (go_at_call 110; refine (Wd.specWordOk _ _).mono ?_; rintro e w' ⟨rfl, rfl⟩)
    | (go_at_call 109; refine (count_at _ 0 rfl _).mono ?_; rintro e w' ⟨rfl, rfl⟩)
    | (go_at_call 66; refine (l1In _ _ _ _).mono ?_; rintro e w' ⟨rfl, rfl⟩))
    all_goals go_ret
    all_goals exact ⟨retB (by simp [Tx.okI, Tx.limA, Tx.limB]; omega), by go_grown⟩

theorem spec6 (a b : Int) (w : World) :
    Calls Tryz.prog 98 #[.agg #[.int .i64 6, .int .i64 a, .int .i64 b]] w fun e w' => e = .returned (.bool (Tx.okI 6 a b)) ∧ Below w.heap.size w w' := by
  by_cases hb : b = 0
  · subst hb
    by_cases ha : a = 0
    · subst ha
      go_enter Tryz.func98, Tryz.ntmps98
      go_wp2_with (first
    | (go_at_call 110; refine (Wd.specWordOk _ _).mono ?_; rintro e w' ⟨rfl, rfl⟩)
    | (go_at_call 109; refine (count_at _ 0 rfl _).mono ?_; rintro e w' ⟨rfl, rfl⟩)
    | (go_at_call 66; refine (l1In _ _ _ _).mono ?_; rintro e w' ⟨rfl, rfl⟩))
      all_goals go_ret
      all_goals exact ⟨retB (by decide), by go_grown⟩
    · have ha' : (a == 0) = false := by simp [ha]
      go_enter Tryz.func98, Tryz.ntmps98
      go_wp2_with (first
    | (go_at_call 110; refine (Wd.specWordOk _ _).mono ?_; rintro e w' ⟨rfl, rfl⟩)
    | (go_at_call 109; refine (count_at _ 0 rfl _).mono ?_; rintro e w' ⟨rfl, rfl⟩)
    | (go_at_call 66; refine (l1In _ _ _ _).mono ?_; rintro e w' ⟨rfl, rfl⟩))
      all_goals go_ret
      all_goals exact ⟨retB (by simp [Tx.okI, Tx.limA, Tx.limB]; omega), by go_grown⟩
  · have hb' : (b == 0) = false := by simp [hb]
    go_enter Tryz.func98, Tryz.ntmps98
    go_wp2_with (first
    | (go_at_call 110; refine (Wd.specWordOk _ _).mono ?_; rintro e w' ⟨rfl, rfl⟩)
    | (go_at_call 109; refine (count_at _ 0 rfl _).mono ?_; rintro e w' ⟨rfl, rfl⟩)
    | (go_at_call 66; refine (l1In _ _ _ _).mono ?_; rintro e w' ⟨rfl, rfl⟩))
    all_goals go_ret
    all_goals exact ⟨retB (by simp [Tx.okI, Tx.limA, Tx.limB]; omega), by go_grown⟩

theorem spec7 (a b : Int) (w : World) :
    Calls Tryz.prog 98 #[.agg #[.int .i64 7, .int .i64 a, .int .i64 b]] w fun e w' => e = .returned (.bool (Tx.okI 7 a b)) ∧ Below w.heap.size w w' := by
  by_cases hb : b = 0
  · subst hb
    by_cases ha : a = 0
    · subst ha
      go_enter Tryz.func98, Tryz.ntmps98
      go_wp2_with (first
    | (go_at_call 110; refine (Wd.specWordOk _ _).mono ?_; rintro e w' ⟨rfl, rfl⟩)
    | (go_at_call 109; refine (count_at _ 0 rfl _).mono ?_; rintro e w' ⟨rfl, rfl⟩)
    | (go_at_call 66; refine (l1In _ _ _ _).mono ?_; rintro e w' ⟨rfl, rfl⟩))
      all_goals go_ret
      all_goals exact ⟨retB (by decide), by go_grown⟩
    · have ha' : (a == 0) = false := by simp [ha]
      go_enter Tryz.func98, Tryz.ntmps98
      go_wp2_with (first
    | (go_at_call 110; refine (Wd.specWordOk _ _).mono ?_; rintro e w' ⟨rfl, rfl⟩)
    | (go_at_call 109; refine (count_at _ 0 rfl _).mono ?_; rintro e w' ⟨rfl, rfl⟩)
    | (go_at_call 66; refine (l1In _ _ _ _).mono ?_; rintro e w' ⟨rfl, rfl⟩))
      all_goals go_ret
      all_goals exact ⟨retB (by simp [Tx.okI, Tx.limA, Tx.limB]; omega), by go_grown⟩
  · have hb' : (b == 0) = false := by simp [hb]
    go_enter Tryz.func98, Tryz.ntmps98
    go_wp2_with (first
    | (go_at_call 110; refine (Wd.specWordOk _ _).mono ?_; rintro e w' ⟨rfl, rfl⟩)
    | (go_at_call 109; refine (count_at _ 0 rfl _).mono ?_; rintro e w' ⟨rfl, rfl⟩)
    | (go_at_call 66; refine (l1In _ _ _ _).mono ?_; rintro e w' ⟨rfl, rfl⟩))
    all_goals go_ret
    all_goals exact ⟨retB (by simp [Tx.okI, Tx.limA, Tx.limB]; omega), by go_grown⟩

theorem spec8 (a b : Int) (w : World) :
    Calls Tryz.prog 98 #[.agg #[.int .i64 8, .int .i64 a, .int .i64 b]] w fun e w' => e = .returned (.bool (Tx.okI 8 a b)) ∧ Below w.heap.size w w' := by
  by_cases hb : b = 0
  · subst hb
    by_cases ha : a = 0
    · subst ha
      go_enter Tryz.func98, Tryz.ntmps98
      go_wp2_with (first
    | (go_at_call 110; refine (Wd.specWordOk _ _).mono ?_; rintro e w' ⟨rfl, rfl⟩)
    | (go_at_call 109; refine (count_at _ 0 rfl _).mono ?_; rintro e w' ⟨rfl, rfl⟩)
    | (go_at_call 66; refine (l1In _ _ _ _).mono ?_; rintro e w' ⟨rfl, rfl⟩))
      all_goals go_ret
      all_goals exact ⟨retB (by decide), by go_grown⟩
    · have ha' : (a == 0) = false := by simp [ha]
      go_enter Tryz.func98, Tryz.ntmps98
      go_wp2_with (first
    | (go_at_call 110; refine (Wd.specWordOk _ _).mono ?_; rintro e w' ⟨rfl, rfl⟩)
    | (go_at_call 109; refine (count_at _ 0 rfl _).mono ?_; rintro e w' ⟨rfl, rfl⟩)
    | (go_at_call 66; refine (l1In _ _ _ _).mono ?_; rintro e w' ⟨rfl, rfl⟩))
      all_goals go_ret
      all_goals exact ⟨retB (by simp [Tx.okI, Tx.limA, Tx.limB]; omega), by go_grown⟩
  · have hb' : (b == 0) = false := by simp [hb]
    go_enter Tryz.func98, Tryz.ntmps98
    go_wp2_with (first
    | (go_at_call 110; refine (Wd.specWordOk _ _).mono ?_; rintro e w' ⟨rfl, rfl⟩)
    | (go_at_call 109; refine (count_at _ 0 rfl _).mono ?_; rintro e w' ⟨rfl, rfl⟩)
    | (go_at_call 66; refine (l1In _ _ _ _).mono ?_; rintro e w' ⟨rfl, rfl⟩))
    all_goals go_ret
    all_goals exact ⟨retB (by simp [Tx.okI, Tx.limA, Tx.limB]; omega), by go_grown⟩

theorem spec9 (a b : Int) (w : World) :
    Calls Tryz.prog 98 #[.agg #[.int .i64 9, .int .i64 a, .int .i64 b]] w fun e w' => e = .returned (.bool (Tx.okI 9 a b)) ∧ Below w.heap.size w w' := by
  by_cases hb : b = 0
  · subst hb
    by_cases ha : a = 0
    · subst ha
      go_enter Tryz.func98, Tryz.ntmps98
      go_wp2_with (first
    | (go_at_call 110; refine (Wd.specWordOk _ _).mono ?_; rintro e w' ⟨rfl, rfl⟩)
    | (go_at_call 109; refine (count_at _ 0 rfl _).mono ?_; rintro e w' ⟨rfl, rfl⟩)
    | (go_at_call 66; refine (l1In _ _ _ _).mono ?_; rintro e w' ⟨rfl, rfl⟩))
      all_goals go_ret
      all_goals exact ⟨retB (by decide), by go_grown⟩
    · have ha' : (a == 0) = false := by simp [ha]
      go_enter Tryz.func98, Tryz.ntmps98
      go_wp2_with (first
    | (go_at_call 110; refine (Wd.specWordOk _ _).mono ?_; rintro e w' ⟨rfl, rfl⟩)
    | (go_at_call 109; refine (count_at _ 0 rfl _).mono ?_; rintro e w' ⟨rfl, rfl⟩)
    | (go_at_call 66; refine (l1In _ _ _ _).mono ?_; rintro e w' ⟨rfl, rfl⟩))
      all_goals go_ret
      all_goals exact ⟨retB (by simp [Tx.okI, Tx.limA, Tx.limB]; omega), by go_grown⟩
  · have hb' : (b == 0) = false := by simp [hb]
    go_enter Tryz.func98, Tryz.ntmps98
    go_wp2_with (first
    | (go_at_call 110; refine (Wd.specWordOk _ _).mono ?_; rintro e w' ⟨rfl, rfl⟩)
    | (go_at_call 109; refine (count_at _ 0 rfl _).mono ?_; rintro e w' ⟨rfl, rfl⟩)
    | (go_at_call 66; refine (l1In _ _ _ _).mono ?_; rintro e w' ⟨rfl, rfl⟩))
    all_goals go_ret
    all_goals exact ⟨retB (by simp [Tx.okI, Tx.limA, Tx.limB]; omega), by go_grown⟩

theorem spec10 (a b : Int) (w : World) :
    Calls Tryz.prog 98 #[.agg #[.int .i64 10, .int .i64 a, .int .i64 b]] w fun e w' => e = .returned (.bool (Tx.okI 10 a b)) ∧ Below w.heap.size w w' := by
  by_cases hb : b = 0
  · subst hb
    by_cases ha : a = 0
    · subst ha
      go_enter Tryz.func98, Tryz.ntmps98
      go_wp2_with (first
    | (go_at_call 110; refine (Wd.specWordOk _ _).mono ?_; rintro e w' ⟨rfl, rfl⟩)
    | (go_at_call 109; refine (count_at _ 0 rfl _).mono ?_; rintro e w' ⟨rfl, rfl⟩)
    | (go_at_call 66; refine (l1In _ _ _ _).mono ?_; rintro e w' ⟨rfl, rfl⟩))
      all_goals go_ret
      all_goals exact ⟨retB (by decide), by go_grown⟩
    · have ha' : (a == 0) = false := by simp [ha]
      go_enter Tryz.func98, Tryz.ntmps98
      go_wp2_with (first
    | (go_at_call 110; refine (Wd.specWordOk _ _).mono ?_; rintro e w' ⟨rfl, rfl⟩)
    | (go_at_call 109; refine (count_at _ 0 rfl _).mono ?_; rintro e w' ⟨rfl, rfl⟩)
    | (go_at_call 66; refine (l1In _ _ _ _).mono ?_; rintro e w' ⟨rfl, rfl⟩))
      all_goals go_ret
      all_goals exact ⟨retB (by simp [Tx.okI, Tx.limA, Tx.limB]; omega), by go_grown⟩
  · have hb' : (b == 0) = false := by simp [hb]
    go_enter Tryz.func98, Tryz.ntmps98
    go_wp2_with (first
    | (go_at_call 110; refine (Wd.specWordOk _ _).mono ?_; rintro e w' ⟨rfl, rfl⟩)
    | (go_at_call 109; refine (count_at _ 0 rfl _).mono ?_; rintro e w' ⟨rfl, rfl⟩)
    | (go_at_call 66; refine (l1In _ _ _ _).mono ?_; rintro e w' ⟨rfl, rfl⟩))
    all_goals go_ret
    all_goals exact ⟨retB (by simp [Tx.okI, Tx.limA, Tx.limB]; omega), by go_grown⟩

theorem spec11 (a b : Int) (w : World) :
    Calls Tryz.prog 98 #[.agg #[.int .i64 11, .int .i64 a, .int .i64 b]] w fun e w' => e = .returned (.bool (Tx.okI 11 a b)) ∧ Below w.heap.size w w' := by
  by_cases hb : b = 0
  · subst hb
    go_enter Tryz.func98, Tryz.ntmps98
    go_wp2_with (first
    | (go_at_call 110; refine (Wd.specWordOk _ _).mono ?_; rintro e w' ⟨rfl, rfl⟩)
    | (go_at_call 109; refine (count_at _ 1 rfl _).mono ?_; rintro e w' ⟨rfl, rfl⟩)
    | (go_at_call 66; refine (l1In _ _ _ _).mono ?_; rintro e w' ⟨rfl, rfl⟩))
    all_goals go_ret
    all_goals exact ⟨retB (by rw [Bool.eq_iff_iff]; simp [Tx.okI, Tx.limA, Tx.limB]; omega), by go_grown⟩
  · have hb' : (b == 0) = false := by simp [hb]
    go_enter Tryz.func98, Tryz.ntmps98
    go_wp2_with (first
    | (go_at_call 110; refine (Wd.specWordOk _ _).mono ?_; rintro e w' ⟨rfl, rfl⟩)
    | (go_at_call 109; refine (count_at _ 1 rfl _).mono ?_; rintro e w' ⟨rfl, rfl⟩)
    | (go_at_call 66; refine (l1In _ _ _ _).mono ?_; rintro e w' ⟨rfl, rfl⟩))
    all_goals go_ret
    all_goals exact ⟨retB (by simp [Tx.okI, Tx.limA, Tx.limB]; omega), by go_grown⟩

theorem spec12 (a b : Int) (w : World) :
    Calls Tryz.prog 98 #[.agg #[.int .i64 12, .int .i64 a, .int .i64 b]] w fun e w' => e = .returned (.bool (Tx.okI 12 a b)) ∧ Below w.heap.size w w' := by
  by_cases hb : b = 0
  · subst hb
    go_enter Tryz.func98, Tryz.ntmps98
    go_wp2_with (first
    | (go_at_call 110; refine (Wd.specWordOk _ _).mono ?_; rintro e w' ⟨rfl, rfl⟩)
    | (go_at_call 109; refine (count_at _ 1 rfl _).mono ?_; rintro e w' ⟨rfl, rfl⟩)
    | (go_at_call 66; refine (l1In _ _ _ _).mono ?_; rintro e w' ⟨rfl, rfl⟩))
    all_goals go_ret
    all_goals exact ⟨retB (by rw [Bool.eq_iff_iff]; simp [Tx.okI, Tx.limA, Tx.limB]; omega), by go_grown⟩
  · have hb' : (b == 0) = false := by simp [hb]
    go_enter Tryz.func98, Tryz.ntmps98
    go_wp2_with (first
    | (go_at_call 110; refine (Wd.specWordOk _ _).mono ?_; rintro e w' ⟨rfl, rfl⟩)
    | (go_at_call 109; refine (count_at _ 1 rfl _).mono ?_; rintro e w' ⟨rfl, rfl⟩)
    | (go_at_call 66; refine (l1In _ _ _ _).mono ?_; rintro e w' ⟨rfl, rfl⟩))
    all_goals go_ret
    all_goals exact ⟨retB (by simp [Tx.okI, Tx.limA, Tx.limB]; omega), by go_grown⟩

theorem spec13 (a b : Int) (w : World) :
    Calls Tryz.prog 98 #[.agg #[.int .i64 13, .int .i64 a, .int .i64 b]] w fun e w' => e = .returned (.bool (Tx.okI 13 a b)) ∧ Below w.heap.size w w' := by
  by_cases hb : b = 0
  · subst hb
    by_cases ha : a = 0
    · subst ha
      go_enter Tryz.func98, Tryz.ntmps98
      go_wp2_with (first
    | (go_at_call 110; refine (Wd.specWordOk _ _).mono ?_; rintro e w' ⟨rfl, rfl⟩)
    | (go_at_call 109; refine (count_at _ 0 rfl _).mono ?_; rintro e w' ⟨rfl, rfl⟩)
    | (go_at_call 66; refine (l1In _ _ _ _).mono ?_; rintro e w' ⟨rfl, rfl⟩))
      all_goals go_ret
      all_goals exact ⟨retB (by decide), by go_grown⟩
    · have ha' : (a == 0) = false := by simp [ha]
      go_enter Tryz.func98, Tryz.ntmps98
      go_wp2_with (first
    | (go_at_call 110; refine (Wd.specWordOk _ _).mono ?_; rintro e w' ⟨rfl, rfl⟩)
    | (go_at_call 109; refine (count_at _ 0 rfl _).mono ?_; rintro e w' ⟨rfl, rfl⟩)
    | (go_at_call 66; refine (l1In _ _ _ _).mono ?_; rintro e w' ⟨rfl, rfl⟩))
      all_goals go_ret
      all_goals exact ⟨retB (by simp [Tx.okI, Tx.limA, Tx.limB]; omega), by go_grown⟩
  · have hb' : (b == 0) = false := by simp [hb]
    go_enter Tryz.func98, Tryz.ntmps98
    go_wp2_with (first
    | (go_at_call 110; refine (Wd.specWordOk _ _).mono ?_; rintro e w' ⟨rfl, rfl⟩)
    | (go_at_call 109; refine (count_at _ 0 rfl _).mono ?_; rintro e w' ⟨rfl, rfl⟩)
    | (go_at_call 66; refine (l1In _ _ _ _).mono ?_; rintro e w' ⟨rfl, rfl⟩))
    all_goals go_ret
    all_goals exact ⟨retB (by simp [Tx.okI, Tx.limA, Tx.limB]; omega), by go_grown⟩

theorem spec14 (a b : Int) (w : World) :
    Calls Tryz.prog 98 #[.agg #[.int .i64 14, .int .i64 a, .int .i64 b]] w fun e w' => e = .returned (.bool (Tx.okI 14 a b)) ∧ Below w.heap.size w w' := by
  by_cases hb : b = 0
  · subst hb
    go_enter Tryz.func98, Tryz.ntmps98
    go_wp2_with (first
    | (go_at_call 110; refine (Wd.specWordOk _ _).mono ?_; rintro e w' ⟨rfl, rfl⟩)
    | (go_at_call 109; refine (count_at _ 1 rfl _).mono ?_; rintro e w' ⟨rfl, rfl⟩)
    | (go_at_call 66; refine (l1In _ _ _ _).mono ?_; rintro e w' ⟨rfl, rfl⟩))
    all_goals go_ret
    all_goals exact ⟨retB (by rw [Bool.eq_iff_iff]; simp [Tx.okI, Tx.limA, Tx.limB]; omega), by go_grown⟩
  · have hb' : (b == 0) = false := by simp [hb]
    go_enter Tryz.func98, Tryz.ntmps98
    go_wp2_with (first
    | (go_at_call 110; refine (Wd.specWordOk _ _).mono ?_; rintro e w' ⟨rfl, rfl⟩)
    | (go_at_call 109; refine (count_at _ 1 rfl _).mono ?_; rintro e w' ⟨rfl, rfl⟩)
    | (go_at_call 66; refine (l1In _ _ _ _).mono ?_; rintro e w' ⟨rfl, rfl⟩))
    all_goals go_ret
    all_goals exact ⟨retB (by simp [Tx.okI, Tx.limA, Tx.limB]; omega), by go_grown⟩

theorem spec15 (a b : Int) (w : World) :
    Calls Tryz.prog 98 #[.agg #[.int .i64 15, .int .i64 a, .int .i64 b]] w fun e w' => e = .returned (.bool (Tx.okI 15 a b)) ∧ Below w.heap.size w w' := by
  go_enter Tryz.func98, Tryz.ntmps98
  go_wp2_with (first
    | (go_at_call 110; refine (Wd.specWordOk _ _).mono ?_; rintro e w' ⟨rfl, rfl⟩)
    | (go_at_call 109; refine (count_at _ 2 rfl _).mono ?_; rintro e w' ⟨rfl, rfl⟩)
    | (go_at_call 66; refine (l1In _ _ _ _).mono ?_; rintro e w' ⟨rfl, rfl⟩))
  all_goals go_ret
  all_goals exact ⟨retB (by rw [Bool.eq_iff_iff]; simp [Tx.okI, Tx.limA, Tx.limB]; omega), by go_grown⟩

theorem spec16 (a b : Int) (w : World) :
    Calls Tryz.prog 98 #[.agg #[.int .i64 16, .int .i64 a, .int .i64 b]] w fun e w' => e = .returned (.bool (Tx.okI 16 a b)) ∧ Below w.heap.size w w' := by
  go_enter Tryz.func98, Tryz.ntmps98
  go_wp2_with (first
    | (go_at_call 110; refine (Wd.specWordOk _ _).mono ?_; rintro e w' ⟨rfl, rfl⟩)
    | (go_at_call 109; refine (count_at _ 2 rfl _).mono ?_; rintro e w' ⟨rfl, rfl⟩)
    | (go_at_call 66; refine (l1In _ _ _ _).mono ?_; rintro e w' ⟨rfl, rfl⟩))
  all_goals go_ret
  all_goals exact ⟨retB (by rw [Bool.eq_iff_iff]; simp [Tx.okI, Tx.limA, Tx.limB]; omega), by go_grown⟩

theorem spec17 (a b : Int) (w : World) :
    Calls Tryz.prog 98 #[.agg #[.int .i64 17, .int .i64 a, .int .i64 b]] w fun e w' => e = .returned (.bool (Tx.okI 17 a b)) ∧ Below w.heap.size w w' := by
  go_enter Tryz.func98, Tryz.ntmps98
  go_wp2_with (first
    | (go_at_call 110; refine (Wd.specWordOk _ _).mono ?_; rintro e w' ⟨rfl, rfl⟩)
    | (go_at_call 109; refine (count_at _ 2 rfl _).mono ?_; rintro e w' ⟨rfl, rfl⟩)
    | (go_at_call 66; refine (l1In _ _ _ _).mono ?_; rintro e w' ⟨rfl, rfl⟩))
  all_goals go_ret
  all_goals exact ⟨retB (by rw [Bool.eq_iff_iff]; simp [Tx.okI, Tx.limA, Tx.limB]; omega), by go_grown⟩

theorem spec18 (a b : Int) (w : World) :
    Calls Tryz.prog 98 #[.agg #[.int .i64 18, .int .i64 a, .int .i64 b]] w fun e w' => e = .returned (.bool (Tx.okI 18 a b)) ∧ Below w.heap.size w w' := by
  by_cases hb : b = 0
  · subst hb
    by_cases ha : a = 0
    · subst ha
      go_enter Tryz.func98, Tryz.ntmps98
      go_wp2_with (first
    | (go_at_call 110; refine (Wd.specWordOk _ _).mono ?_; rintro e w' ⟨rfl, rfl⟩)
    | (go_at_call 109; refine (count_at _ 0 rfl _).mono ?_; rintro e w' ⟨rfl, rfl⟩)
    | (go_at_call 66; refine (l1In _ _ _ _).mono ?_; rintro e w' ⟨rfl, rfl⟩))
      all_goals go_ret
      all_goals exact ⟨retB (by decide), by go_grown⟩
    · have ha' : (a == 0) = false := by simp [ha]
      go_enter Tryz.func98, Tryz.ntmps98
      go_wp2_with (first
    | (go_at_call 110; refine (Wd.specWordOk _ _).mono ?_; rintro e w' ⟨rfl, rfl⟩)
    | (go_at_call 109; refine (count_at _ 0 rfl _).mono ?_; rintro e w' ⟨rfl, rfl⟩)
    | (go_at_call 66; refine (l1In _ _ _ _).mono ?_; rintro e w' ⟨rfl, rfl⟩))
      all_goals go_ret
      all_goals exact ⟨retB (by simp [Tx.okI, Tx.limA, Tx.limB]; omega), by go_grown⟩
  · have hb' : (b == 0) = false := by simp [hb]
    go_enter Tryz.func98, Tryz.ntmps98
    go_wp2_with (first
    | (go_at_call 110; refine (Wd.specWordOk _ _).mono ?_; rintro e w' ⟨rfl, rfl⟩)
    | (go_at_call 109; refine (count_at _ 0 rfl _).mono ?_; rintro e w' ⟨rfl, rfl⟩)
    | (go_at_call 66; refine (l1In _ _ _ _).mono ?_; rintro e w' ⟨rfl, rfl⟩))
    all_goals go_ret
    all_goals exact ⟨retB (by simp [Tx.okI, Tx.limA, Tx.limB]; omega), by go_grown⟩

theorem spec19 (a b : Int) (w : World) :
    Calls Tryz.prog 98 #[.agg #[.int .i64 19, .int .i64 a, .int .i64 b]] w fun e w' => e = .returned (.bool (Tx.okI 19 a b)) ∧ Below w.heap.size w w' := by
  by_cases hb : b = 0
  · subst hb
    by_cases ha : a = 0
    · subst ha
      go_enter Tryz.func98, Tryz.ntmps98
      go_wp2_with (first
    | (go_at_call 110; refine (Wd.specWordOk _ _).mono ?_; rintro e w' ⟨rfl, rfl⟩)
    | (go_at_call 109; refine (count_at _ 0 rfl _).mono ?_; rintro e w' ⟨rfl, rfl⟩)
    | (go_at_call 66; refine (l1In _ _ _ _).mono ?_; rintro e w' ⟨rfl, rfl⟩))
      all_goals go_ret
      all_goals exact ⟨retB (by decide), by go_grown⟩
    · have ha' : (a == 0) = false := by simp [ha]
      go_enter Tryz.func98, Tryz.ntmps98
      go_wp2_with (first
    | (go_at_call 110; refine (Wd.specWordOk _ _).mono ?_; rintro e w' ⟨rfl, rfl⟩)
    | (go_at_call 109; refine (count_at _ 0 rfl _).mono ?_; rintro e w' ⟨rfl, rfl⟩)
    | (go_at_call 66; refine (l1In _ _ _ _).mono ?_; rintro e w' ⟨rfl, rfl⟩))
      all_goals go_ret
      all_goals exact ⟨retB (by simp [Tx.okI, Tx.limA, Tx.limB]; omega), by go_grown⟩
  · have hb' : (b == 0) = false := by simp [hb]
    go_enter Tryz.func98, Tryz.ntmps98
    go_wp2_with (first
    | (go_at_call 110; refine (Wd.specWordOk _ _).mono ?_; rintro e w' ⟨rfl, rfl⟩)
    | (go_at_call 109; refine (count_at _ 0 rfl _).mono ?_; rintro e w' ⟨rfl, rfl⟩)
    | (go_at_call 66; refine (l1In _ _ _ _).mono ?_; rintro e w' ⟨rfl, rfl⟩))
    all_goals go_ret
    all_goals exact ⟨retB (by simp [Tx.okI, Tx.limA, Tx.limB]; omega), by go_grown⟩

theorem spec20 (a b : Int) (w : World) :
    Calls Tryz.prog 98 #[.agg #[.int .i64 20, .int .i64 a, .int .i64 b]] w fun e w' => e = .returned (.bool (Tx.okI 20 a b)) ∧ Below w.heap.size w w' := by
  by_cases hb : b = 0
  · subst hb
    by_cases ha : a = 0
    · subst ha
      go_enter Tryz.func98, Tryz.ntmps98
      go_wp2_with (first
    | (go_at_call 110; refine (Wd.specWordOk _ _).mono ?_; rintro e w' ⟨rfl, rfl⟩)
    | (go_at_call 109; refine (count_at _ 0 rfl _).mono ?_; rintro e w' ⟨rfl, rfl⟩)
    | (go_at_call 66; refine (l1In _ _ _ _).mono ?_; rintro e w' ⟨rfl, rfl⟩))
      all_goals go_ret
      all_goals exact ⟨retB (by decide), by go_grown⟩
    · have ha' : (a == 0) = false := by simp [ha]
      go_enter Tryz.func98, Tryz.ntmps98
      go_wp2_with (first
    | (go_at_call 110; refine (Wd.specWordOk _ _).mono ?_; rintro e w' ⟨rfl, rfl⟩)
    | (go_at_call 109; refine (count_at _ 0 rfl _).mono ?_; rintro e w' ⟨rfl, rfl⟩)
    | (go_at_call 66; refine (l1In _ _ _ _).mono ?_; rintro e w' ⟨rfl, rfl⟩))
      all_goals go_ret
      all_goals exact ⟨retB (by simp [Tx.okI, Tx.limA, Tx.limB]; omega), by go_grown⟩
  · have hb' : (b == 0) = false := by simp [hb]
    go_enter Tryz.func98, Tryz.ntmps98
    go_wp2_with (first
    | (go_at_call 110; refine (Wd.specWordOk _ _).mono ?_; rintro e w' ⟨rfl, rfl⟩)
    | (go_at_call 109; refine (count_at _ 0 rfl _).mono ?_; rintro e w' ⟨rfl, rfl⟩)
    | (go_at_call 66; refine (l1In _ _ _ _).mono ?_; rintro e w' ⟨rfl, rfl⟩))
    all_goals go_ret
    all_goals exact ⟨retB (by simp [Tx.okI, Tx.limA, Tx.limB]; omega), by go_grown⟩

theorem specOk (op a b : Int) (w : World) :
    Calls Tryz.prog 98 #[.agg #[.int .i64 op, .int .i64 a, .int .i64 b]] w fun e w' => e = .returned (.bool (Tx.okI op a b)) ∧ Below w.heap.size w w' := by
  rcases op_cases op with rfl | rfl | rfl | rfl | rfl | rfl | rfl | rfl | rfl | rfl | rfl | rfl | rfl | rfl | rfl | rfl | rfl | rfl | rfl | rfl | h
  · exact spec1 a b w
  · exact spec2 a b w
  · exact spec3 a b w
  · exact spec4 a b w
  · exact spec5 a b w
  · exact spec6 a b w
  · exact spec7 a b w
  · exact spec8 a b w
  · exact spec9 a b w
  · exact spec10 a b w
  · exact spec11 a b w
  · exact spec12 a b w
  · exact spec13 a b w
  · exact spec14 a b w
  · exact spec15 a b w
  · exact spec16 a b w
  · exact spec17 a b w
  · exact spec18 a b w
  · exact spec19 a b w
  · exact spec20 a b w
  have e : Tx.okI op a b = false := by
    cases hh : Tx.okI op a b
    · rfl
    · have := Tx.ok_op hh; omega
  rw [e]
  clear e
  rcases h with h | h
  all_goals
    go_enter Tryz.func98, Tryz.ntmps98
    go_wp2
    go_ret
    exact ⟨rfl, by go_grown⟩
end St
end Go.Proofs.YtinanjjhkddikaaGreat
