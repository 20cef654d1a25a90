/- Contracts: what comes out of three steps; a copy of three steps; the program's Folded. -/
import Derived.Test.YtlbjnlkeagmpoaaFo1
import Derived.Lib.QuietBelow
import Derived.BigQuiet
import Derived.Deep.RegionLaw
namespace Go.Proofs.Ytlbjnlkeagmpoaa
namespace Pg
open Go.ChangeShapes Go.WideShapes Go.ChangeAt Go.RowKit St Wd

theorem push_ok {code : List Tx.Ins} (hok : Lay.codeOk code = true) {k : Nat} (hk : k < code.length) (h : (insF code k).1 = 1) : okB (insF code k).2.1 = true := by
  have := Lay.ok_at hok (ins_is hk)
  unfold Tx.okI at this
  rw [if_pos h] at this
  simp only [Bool.and_eq_true, decide_eq_true_eq] at this
  simp [okB, this.1]
theorem foldB_end {code : List Tx.Ins} {k : Nat} (h : ¬ k + 3 < code.length) : foldB code k = false := by unfold foldB; simp [h]
theorem foldB_ld {code : List Tx.Ins} {k : Nat} (h : ldB code code.length (k + 1) = true ∨ ldB code code.length (k + 2) = true) : foldB code k = false := by
  unfold foldB
  rcases h with h | h <;> simp [h]
theorem foldB_op {code : List Tx.Ins} {k : Nat} (h : (insF code k).1 ≠ 1 ∨ (insF code (k + 1)).1 ≠ 1) : foldB code k = false := by
  unfold foldB
  rcases h with h | h <;> simp [h]
theorem foldB_is {code : List Tx.Ins} {k : Nat} (h : k + 3 < code.length) (h1 : ldB code code.length (k + 1) = false) (h2 : ldB code code.length (k + 2) = false) (h3 : (insF code k).1 = 1) (h4 : (insF code (k + 1)).1 = 1) :
    foldB code k = okW (insF code (k + 2)).1 (insF code (k + 1)).2.1 := by
  unfold foldB okW
  simp only [h, h1, h2, h3, h4]
  simp
def folW (code : List Tx.Ins) (k : Nat) : Int := if foldB code k then outI code k else 0
end Pg
end Go.Proofs.Ytlbjnlkeagmpoaa
