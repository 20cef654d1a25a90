/- The contracts of the two sides of WordOk, and the plain facts on words. -/
import Derived.Test.YtbfiijfaaknhaaaRows
import Derived.WalkKit
import Derived.ProofKit
import Derived.OpenShut
namespace Go.Proofs.Ytbfiijfaaknhaaa
namespace Wd
open Go.ChangeShapes Go.WideShapes Go.ChangeAt Go.RowKit

def okB (n : Int) : Bool := decide (-2147483648 ≤ n) && decide (n ≤ 2147483647)

theorem ok_yes {n : Int} (h : okB n = true) : -2147483648 ≤ n ∧ n ≤ 2147483647 := by
  simpa [okB] using h
theorem ok_no {n : Int} (h : okB n = false) : n < -2147483648 ∨ 2147483647 < n := by
  simp [okB] at h
  omega
theorem wrap_bd (n : Int) : -2147483648 ≤ wrap32 n ∧ wrap32 n ≤ 2147483647 := by
  unfold wrap32; omega
theorem wrap_ne {n : Int} (h : okB n = false) : (wrap32 n == n) = false := by
  have h1 := ok_no h
  have h2 := wrap_bd n
  simp; omega
theorem wrap_eq {n : Int} (h : okB n = true) : wrap32 n = n := by
  have h1 := ok_yes h
  unfold wrap32; omega
theorem wrap_ok (n : Int) : okB (wrap32 n) = true := by
  have h := wrap_bd n
  simp [okB, h]

theorem w32_64 (n : Int) : wrap32 (wrap64 n) = wrap32 n := by
  unfold wrap32 wrap64; omega
theorem ret_int {k : IntKind} {a b : Int} (h : a = b) : Ending.returned (.int k a) = .returned (.int k b) := by rw [h]

def plusF (a b : Int) : Int := if okB a && okB b then wrap32 (a + b) else 0
def minusF (a b : Int) : Int := if okB a && okB b then wrap32 (a - b) else 0
def timesF (a b : Int) : Int := if okB a && okB b then wrap32 (a * b) else 0
def overB (a b : Int) : Bool := okB a && okB b && !(b == 0)
def overF (a b : Int) : Int := if overB a b then wrap32 (a.tdiv b) else 0

theorem implWrap (n : Int) (w : World) :
    Calls Try.prog 101 #[.int .i64 n] w fun e w' => e = .returned (.int .i64 (wrap32 n)) ∧ w = w' := by
  have hb := (wrap_bd n).1
  have hc := (wrap_bd n).2
  go_enter Try.func101, Try.ntmps101
  go_wp2
  go_ret
  exact ⟨rfl, rfl⟩
theorem implWordOk (n : Int) (w : World) :
    Calls Try.prog 99 #[.int .i64 n] w fun e w' => e = .returned (.bool (okB n)) ∧ w = w' := by
  have hb := (wrap_bd n).1
  have hc := (wrap_bd n).2
  cases h : okB n
  · have h1 := wrap_ne h
    clear h
    go_enter Try.func99, Try.ntmps99
    go_wp2
    go_ret
    exact ⟨rfl, rfl⟩
  · have h1 := (ok_yes h).1
    have h2 := (ok_yes h).2
    clear h
    go_enter Try.func99, Try.ntmps99
    go_wp2
    go_ret
    exact ⟨rfl, rfl⟩
theorem specWordOk (n : Int) (w : World) :
    Calls Try.prog 98 #[.int .i64 n] w fun e w' => e = .returned (.bool (okB n)) ∧ w = w' := by
  by_cases h1 : -2147483648 ≤ n
  · by_cases h2 : n ≤ 2147483647
    · have e : okB n = true := by simp [okB, h1, h2]
      rw [e]
      clear e
      go_enter Try.func98, Try.ntmps98
      go_wp2
      go_ret
      exact ⟨rfl, rfl⟩
    · have e : okB n = false := by simp [okB, h2]
      rw [e]
      clear e
      go_enter Try.func98, Try.ntmps98
      go_wp2
      go_ret
      exact ⟨rfl, rfl⟩
  · have e : okB n = false := by simp [okB, h1]
    rw [e]
    clear e
    go_enter Try.func98, Try.ntmps98
    go_wp2
    go_ret
    exact ⟨rfl, rfl⟩

end Wd
end Go.Proofs.Ytbfiijfaaknhaaa
