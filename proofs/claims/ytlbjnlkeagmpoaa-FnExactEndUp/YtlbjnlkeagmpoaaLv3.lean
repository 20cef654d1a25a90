/- Contracts: what is live ahead of a step, as the program tells it. -/
import Derived.Test.YtlbjnlkeagmpoaaLv2
import Derived.Deep.Cut
namespace Go.Proofs.Ytlbjnlkeagmpoaa
namespace Pg
open Go.ChangeShapes Go.WideShapes Go.ChangeAt Go.RowKit St

theorem local_in {code : List Tx.Ins} (hok : Lay.codeOk code = true) {k : Nat} (hk : k < code.length) (h : (insF code k).1 = 2 ∨ (insF code k).1 = 3) : 0 ≤ (insF code k).2.1 ∧ (insF code k).2.1 < 8 := by
  have h1 := Lay.ok_at hok (ins_is hk)
  unfold Tx.okI at h1
  rw [if_neg (by rcases h with h | h <;> omega)] at h1
  simp only [Bool.and_eq_true, decide_eq_true_eq] at h1
  refine ⟨h1.1.1.1, ?_⟩
  have h2 := h1.1.1.2
  unfold Tx.limA at h2
  rcases h with h | h <;> rw [h] at h2 <;> simpa using h2

end Pg
end Go.Proofs.Ytlbjnlkeagmpoaa
