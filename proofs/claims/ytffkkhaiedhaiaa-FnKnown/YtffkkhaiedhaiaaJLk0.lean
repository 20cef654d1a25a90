/- Contracts: the program's Loaded. -/
import Derived.Test.YtffkkhaiedhaiaaJKm7
import Derived.Test.YtffkkhaiedhaiaaJFo4
namespace Go.Proofs.Ytffkkhaiedhaiaa
namespace Pg
open Go.ChangeShapes Go.WideShapes Go.ChangeAt Go.RowKit St Wd

/-- A step, its load worked out where its local is known. -/
noncomputable def ldI (code : List Tx.Ins) (i : Nat) : Tx.Ins := if (insF code i).1 = 2 ∧ wdF code i (insF code i).2.1.toNat ≠ UnK then (1, wdF code i (insF code i).2.1.toNat, 0) else insF code i
noncomputable def partL (code : List Tx.Ins) (k : Nat) : List Tx.Ins := (List.range code.length).map fun i => if i < k then ldI code i else insF code i
theorem partL_len (code : List Tx.Ins) (k : Nat) : (partL code k).length = code.length := by simp [partL]
theorem partL_at (code : List Tx.Ins) (k : Nat) {i : Nat} (hi : i < code.length) : (partL code k)[i]? = some (if i < k then ldI code i else insF code i) := by simp [partL, hi]
theorem partL_zero (code : List Tx.Ins) : partL code 0 = code := by
  apply List.ext_getElem?
  intro i
  by_cases hi : i < code.length
  · rw [partL_at _ _ hi, ins_is hi]; simp
  · rw [List.getElem?_eq_none (by rw [partL_len]; omega), List.getElem?_eq_none (by omega)]
theorem partL_step {code : List Tx.Ins} {k : Nat} (hk : k < code.length) : (partL code k).set k (ldI code k) = partL code (k + 1) := by
  apply List.ext_getElem?
  intro i
  rw [List.getElem?_set]
  by_cases hi : i < code.length
  · rw [partL_at _ _ hi, partL_at _ _ hi, partL_len]
    by_cases e : k = i
    · subst e; simp [hi]
    · rw [if_neg e]
      have : (i < k + 1) ↔ (i < k) := by omega
      simp only [this]
  · have e : ¬ k = i := by omega
    rw [if_neg e, List.getElem?_eq_none (by rw [partL_len]; omega), List.getElem?_eq_none (by rw [partL_len]; omega)]
theorem partL_stay {code : List Tx.Ins} {k : Nat} (hk : k < code.length) (h : ldI code k = insF code k) : partL code (k + 1) = partL code k := by
  unfold partL
  refine List.map_congr_left fun i _ => ?_
  by_cases e : i = k
  · subst e; simp [h]
  · have : (i < k + 1) ↔ (i < k) := by omega
    simp only [this]
noncomputable def loadF (code : List Tx.Ins) : List Tx.Ins := partL code code.length
noncomputable def ldA (l : List Tx.Ins) : List Tx.Ins := if Lay.codeOk l then loadF l else []
theorem ldA_len (l : List Tx.Ins) : (ldA l).length ≤ 41 := by
  unfold ldA
  split
  · rename_i h
    have := (Lay.ok_len h).2
    unfold loadF
    rw [partL_len]; omega
  · simp
end Pg
end Go.Proofs.Ytffkkhaiedhaiaa
