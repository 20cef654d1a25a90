/- The bits of a set, as a number. -/
import Derived.Test.YtbachkjhmenhfaaRows
import Derived.WalkKit
import Derived.ProofKit
import Derived.Laws.BitsLemmas
namespace Go.Proofs.Ytbachkjhmenhfaa
namespace Pg
open Go.ChangeShapes Go.WideShapes Go.ChangeAt Go.RowKit

/-- The bits of a set below n. -/
def bn (P : Nat → Bool) : Nat → Nat
  | 0 => 0
  | n + 1 => bn P n ||| (if P n then 2 ^ n else 0)
theorem bn_test (P : Nat → Bool) (v : Nat) : ∀ n, (bn P n).testBit v = (decide (v < n) && P v)
  | 0 => by simp [bn]
  | n + 1 => by
    have ih := bn_test P v n
    unfold bn
    rw [Nat.testBit_or, ih]
    by_cases h : P n = true
    · rw [if_pos h, Nat.testBit_two_pow]
      by_cases e : n = v
      · subst e; simp [h]
      · have : decide (v < n + 1) = decide (v < n) := by rw [decide_eq_decide]; omega
        simp [e, this]
    · rw [if_neg h, Nat.zero_testBit, Bool.or_false]
      by_cases e : n = v
      · subst e; simp [h]
      · have : decide (v < n + 1) = decide (v < n) := by rw [decide_eq_decide]; omega
        rw [this]
theorem bn_lt (P : Nat → Bool) (n : Nat) : bn P n < 2 ^ n := by
  refine Nat.lt_pow_two_of_testBit _ fun i hi => ?_
  rw [bn_test]
  have : decide (i < n) = false := by simp; omega
  rw [this, Bool.false_and]
theorem bn_extN {x n : Nat} {P : Nat → Bool} (h : ∀ v, x.testBit v = (decide (v < n) && P v)) : x = bn P n := Nat.eq_of_testBit_eq fun v => by rw [h, bn_test]
theorem bn_congr {n : Nat} {P Q : Nat → Bool} (h : ∀ v, v < n → P v = Q v) : bn P n = bn Q n := bn_extN fun v => by
  rw [bn_test]
  by_cases hv : v < n
  · simp [hv, h v hv]
  · simp [hv]
end Pg
end Go.Proofs.Ytbachkjhmenhfaa
