/- Contracts: the program's Folded. -/
import Derived.Test.YthabenjodhjgiaaKn0
import Derived.Test.YthabenjodhjgiaaCo0
import Derived.Test.YthabenjodhjgiaaAr0
import Derived.Test.YthabenjodhjgiaaOv0
import Derived.Lib.SliceRun
namespace Go.Proofs.Ythabenjodhjgiaa
namespace Pg
open Go.ChangeShapes Go.WideShapes Go.ChangeAt Go.RowKit St Wd

theorem ret2B {x y : Int} {b c : Bool} (h : x = y) (h' : b = c) : Ending.returned (.tuple #[.int .i64 x, .bool b]) = .returned (.tuple #[.int .i64 y, .bool c]) := by rw [h, h']
def okW (op b : Int) : Bool := decide (4 ≤ op ∧ op ≤ 7) && !(decide (op = 7 ∧ b = 0))
def wrkF (op a b : Int) : Int := if okW op b then sumS op a b else 0
set_option maxHeartbeats 1000000 in
theorem workedOut_at (op a b : Int) (ha : okB a = true) (hb : okB b = true) (w : World) :
    Calls Try.prog 76 #[.int .i64 op, .int .i64 a, .int .i64 b] w fun e w' => e = .returned (.tuple #[.int .i64 (wrkF op a b), .bool (okW op b)]) ∧ w = w' := by
  by_cases h4 : op = 4
  · subst h4
    have HE : Hid (plusF a b = wrkF 4 a b ∧ okW 4 b = true) := by
      refine ⟨?_, by simp [okW]⟩
      simp [wrkF, okW, plusF, ha, hb, sumS]
    clear ha hb
    go_enter Try.func76, Try.ntmps76
    go_wp2_with fail
    refine (implPlus a b w).mono ?_
    rintro e _ ⟨rfl, rfl⟩
    go_wp2
    go_ret2
    exact ⟨ret2B HE.out.1 HE.out.2.symm, rfl⟩
  · by_cases h5 : op = 5
    · subst h5
      have HE : Hid (minusF a b = wrkF 5 a b ∧ okW 5 b = true) := by
        refine ⟨?_, by simp [okW]⟩
        simp [wrkF, okW, minusF, ha, hb, sumS]
      clear ha hb h4
      go_enter Try.func76, Try.ntmps76
      go_wp2_with fail
      refine (implMinus a b w).mono ?_
      rintro e _ ⟨rfl, rfl⟩
      go_wp2
      go_ret2
      exact ⟨ret2B HE.out.1 HE.out.2.symm, rfl⟩
    · by_cases h6 : op = 6
      · subst h6
        have HE : Hid (timesF a b = wrkF 6 a b ∧ okW 6 b = true) := by
          refine ⟨?_, by simp [okW]⟩
          simp [wrkF, okW, timesF, ha, hb, sumS]
        clear ha hb h4 h5
        go_enter Try.func76, Try.ntmps76
        go_wp2_with fail
        refine (implTimes a b w).mono ?_
        rintro e _ ⟨rfl, rfl⟩
        go_wp2
        go_ret2
        exact ⟨ret2B HE.out.1 HE.out.2.symm, rfl⟩
      · by_cases h7 : op = 7
        · subst h7
          have HE : Hid (overF a b = wrkF 7 a b ∧ overB a b = okW 7 b) := by
            by_cases h0 : b = 0
            · simp [Hid, wrkF, okW, overF, overB, h0]
            · simp [Hid, wrkF, okW, overF, overB, ha, hb, h0, sumS]
          clear ha hb h4 h5 h6
          go_enter Try.func76, Try.ntmps76
          go_wp2_with fail
          refine (implOver a b w).mono ?_
          rintro e _ ⟨rfl, rfl⟩
          go_wp2
          go_ret2
          exact ⟨ret2B HE.out.1 HE.out.2, rfl⟩
        · have HE : Hid (wrkF op a b = 0 ∧ okW op b = false) := by
            have : okW op b = false := by
              unfold okW
              have : ¬ (4 ≤ op ∧ op ≤ 7) := by omega
              simp [this]
            exact ⟨by simp [wrkF, this], this⟩
          have h4' : (op == 4) = false := by simp [h4]
          have h5' : (op == 5) = false := by simp [h5]
          have h6' : (op == 6) = false := by simp [h6]
          have h7' : (op == 7) = false := by simp [h7]
          clear ha hb h4 h5 h6 h7
          go_enter Try.func76, Try.ntmps76
          go_wp2
          go_ret2
          exact ⟨ret2B HE.out.1.symm HE.out.2.symm, rfl⟩
end Pg
end Go.Proofs.Ythabenjodhjgiaa
