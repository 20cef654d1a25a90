/- Contracts: both sides' LiveIn. -/
import Derived.Test.YtlbjnlkeagmpoaaLv4
namespace Go.Proofs.Ytlbjnlkeagmpoaa
namespace Pg
open Go.ChangeShapes Go.WideShapes Go.ChangeAt Go.RowKit St

noncomputable def livL (l : List Tx.Ins) : List Int := (List.range l.length).map fun k => ((bn (lvB l k) 8 : Nat) : Int)
noncomputable def livA (l : List Tx.Ins) : List Int := if Lay.codeOk l then livL l else []
theorem livL_len (l : List Tx.Ins) : (livL l).length = l.length := by simp [livL]
theorem livL_at {l : List Tx.Ins} {k : Nat} (h : k < l.length) : (livL l)[k]? = some ((bn (lvB l k) 8 : Nat) : Int) := by simp [livL, h]
theorem livA_len (l : List Tx.Ins) : (livA l).length ≤ 41 := by
  unfold livA
  split
  · rename_i h
    have := (Lay.ok_len h).2
    rw [livL_len]; omega
  · simp

end Pg
end Go.Proofs.Ytlbjnlkeagmpoaa
