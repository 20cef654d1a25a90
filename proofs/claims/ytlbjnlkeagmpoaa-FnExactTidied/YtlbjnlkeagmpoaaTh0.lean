/- Where one ends up, plainly. -/
import Derived.Test.YtlbjnlkeagmpoaaCo0
namespace Go.Proofs.Ytlbjnlkeagmpoaa
namespace Pg
open Go.ChangeShapes Go.WideShapes Go.ChangeAt Go.RowKit St

/-- Along jumps, n of them at most. -/
def chase (code : List Tx.Ins) : Nat → Nat → Nat
  | 0, x => x
  | n + 1, x => if (insF code x).1 = 11 then chase code n (insF code x).2.1.toNat else x
/-- Where one ends up. -/
def endF (code : List Tx.Ins) (k : Nat) : Nat := if (insF code (chase code code.length k)).1 = 11 then k else chase code code.length k
theorem chase_stop {code : List Tx.Ins} {n x : Nat} (h : (insF code x).1 ≠ 11) : chase code n x = x := by
  cases n with
  | zero => rfl
  | succ n => simp [chase, h]
theorem chase_lt {code : List Tx.Ins} (hok : Lay.codeOk code = true) : ∀ (n x : Nat), x < code.length → chase code n x < code.length
  | 0, _, h => h
  | n + 1, x, h => by
    unfold chase
    split
    · rename_i h11
      have := jump_in hok h (.inl h11)
      exact chase_lt hok n _ (by omega)
    · exact h
theorem endF_lt {code : List Tx.Ins} (hok : Lay.codeOk code = true) {k : Nat} (hk : k < code.length) : endF code k < code.length := by
  unfold endF
  split
  · exact hk
  · exact chase_lt hok _ _ hk
theorem chase_snoc {code : List Tx.Ins} : ∀ (n x : Nat), (insF code (chase code n x)).1 = 11 → chase code (n + 1) x = (insF code (chase code n x)).2.1.toNat
  | 0, x, h => by
    have h0 : (insF code x).1 = 11 := h
    simp [chase, h0]
  | n + 1, x, h => by
    by_cases h0 : (insF code x).1 = 11
    · have e : chase code (n + 1) x = chase code n (insF code x).2.1.toNat := by simp [chase, h0]
      rw [e] at h ⊢
      have e2 : chase code (n + 1 + 1) x = chase code (n + 1) (insF code x).2.1.toNat := by rw [chase, if_pos h0]
      rw [e2]
      exact chase_snoc n _ h
    · rw [chase_stop h0] at h
      exact absurd h h0
theorem chase_more {code : List Tx.Ins} : ∀ (n x : Nat), (insF code (chase code n x)).1 ≠ 11 → chase code (n + 1) x = chase code n x
  | 0, x, h => by
    have h0 : (insF code x).1 ≠ 11 := h
    simp [chase, h0]
  | n + 1, x, h => by
    by_cases h0 : (insF code x).1 = 11
    · have e : chase code (n + 1) x = chase code n (insF code x).2.1.toNat := by simp [chase, h0]
      have e2 : chase code (n + 1 + 1) x = chase code (n + 1) (insF code x).2.1.toNat := by rw [chase, if_pos h0]
      rw [e] at h ⊢
      rw [e2]
      exact chase_more n _ h
    · rw [chase_stop h0, chase_stop h0]
theorem chase_end {code : List Tx.Ins} {n m x : Nat} (h : n ≤ m) (hx : (insF code (chase code n x)).1 ≠ 11) : chase code m x = chase code n x := by
  induction h with
  | refl => rfl
  | step h ih => rw [chase_more _ _ (by rw [ih]; exact hx), ih]
theorem endF_of {code : List Tx.Ins} {n k : Nat} (h : n ≤ code.length) (hx : (insF code (chase code n k)).1 ≠ 11) : endF code k = chase code n k := by
  unfold endF
  rw [chase_end h hx, if_neg hx]
theorem endF_round {code : List Tx.Ins} {k : Nat} (hx : (insF code (chase code code.length k)).1 = 11) : endF code k = k := by
  unfold endF
  rw [if_pos hx]
def endA (l : List Tx.Ins) (n : Int) : Int := if atB l n then (endF l n.toNat : Int) else -1

end Pg
end Go.Proofs.Ytlbjnlkeagmpoaa
