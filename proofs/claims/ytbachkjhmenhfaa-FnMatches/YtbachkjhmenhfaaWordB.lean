/- The contracts of the two sides of WordOk, and the plain facts on words. -/
import Derived.Test.YtbachkjhmenhfaaRows
import Derived.WalkKit
import Derived.ProofKit
import Derived.OpenShut
namespace Go.Proofs.Ytbachkjhmenhfaa
namespace Wd
open Go.ChangeShapes Go.WideShapes Go.ChangeAt Go.RowKit

def okB (n : Int) : Bool := decide (-2147483648 ≤ n) && decide (n ≤ 2147483647)

theorem ok_yes {n : Int} (h : okB n = true) : -2147483648 ≤ n ∧ n ≤ 2147483647 := by
  simpa [okB] using h
theorem ok_no {n : Int} (h : okB n = false) : n < -2147483648 ∨ 2147483647 < n := by
  simp [okB] at h
  omega
theorem wrap_bd (n : Int) : -2147483648 ≤ wrap32 n ∧ wrap32 n ≤ 2147483647 := by
  unfold wrap32; omega
theorem wrap_ne {n : Int} (h : okB n = false) : (wrap32 n == n) = false := by
  have h1 := ok_no h
  have h2 := wrap_bd n
  simp; omega
theorem wrap_eq {n : Int} (h : okB n = true) : wrap32 n = n := by
  have h1 := ok_yes h
  unfold wrap32; omega
theorem wrap_ok (n : Int) : okB (wrap32 n) = true := by
  have h := wrap_bd n
  simp [okB, h]

theorem w32_64 (n : Int) : wrap32 (wrap64 n) = wrap32 n := by
  unfold wrap32 wrap64; omega
theorem ret_int {k : IntKind} {a b : Int} (h : a = b) : Ending.returned (.int k a) = .returned (.int k b) := by rw [h]

def plusF (a b : Int) : Int := if okB a && okB b then wrap32 (a + b) else 0
def minusF (a b : Int) : Int := if okB a && okB b then wrap32 (a - b) else 0
def timesF (a b : Int) : Int := if okB a && okB b then wrap32 (a * b) else 0
def overB (a b : Int) : Bool := okB a && okB b && !(b == 0)
def overF (a b : Int) : Int := if overB a b then wrap32 (a.tdiv b) else 0

end Wd
end Go.Proofs.Ytbachkjhmenhfaa
