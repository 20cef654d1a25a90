/- Contracts: both sides' Straight. -/
import Derived.Test.YtlbjnlkeagmpoaaNx4
namespace Go.Proofs.Ytlbjnlkeagmpoaa
namespace Pg
open Go.ChangeShapes Go.WideShapes Go.ChangeAt Go.RowKit St

/-- None from a and 1 up to b is a leader. -/
def strB (code : List Tx.Ins) (a b : Nat) : Bool := (List.range (b - a)).all fun i => !(ldB code code.length (a + 1 + i))
def strA (l : List Tx.Ins) (a b : Int) : Bool := atB l a && (atB l b && (decide (a ≤ b) && strB l a.toNat b.toNat))
theorem ldB_mono (code : List Tx.Ins) {j : Nat} : ∀ {k m : Nat}, k ≤ m → ldB code k j = true → ldB code m j = true := by
  intro k m h
  induction h with
  | refl => exact id
  | step h ih => intro hk; simp only [ldB, ih hk, Bool.true_or]
/-- Behind a jump or OpGive there is a leader. -/
theorem end_leads {code : List Tx.Ins} {i : Nat} (hi : i + 1 < code.length) (he : endB (insF code i).1 = true) : ldB code code.length (i + 1) = true := by
  refine ldB_mono code (show i + 1 ≤ code.length by omega) ?_
  simp only [ldB, ld1, he, Bool.true_and, Bool.or_eq_true, Bool.and_eq_true, decide_eq_true_eq]
  right; right; omega
theorem ld_has {code : List Tx.Ins} (j : Nat) (hj : j < 40) : decide (((j : Nat) : Int) ∈ risL (ldB code code.length) 40) = ldB code code.length j := by
  cases h : ldB code code.length j
  · simp only [decide_eq_false_iff_not, risL_mem]
    rintro ⟨i, _, h1, h2⟩
    rw [show j = i by omega] at h
    rw [h] at h1; simp at h1
  · simp only [decide_eq_true_eq, risL_mem]
    exact ⟨j, hj, h, rfl⟩

end Pg
end Go.Proofs.Ytlbjnlkeagmpoaa
