/- The contracts of the two sides of WordOk, and the plain facts on words. -/
import Derived.Test.YtffkkhaiedhaiaaRows
import Derived.WalkKit
import Derived.ProofKit
import Derived.OpenShut
import Derived.Lib.ItoaMem
import Derived.Lib.ItoaLen
import Derived.Lib.ParseIntBTie
import Derived.Lib.Split
import Derived.Lib.Join
namespace Go.Proofs.Ytffkkhaiedhaiaa
namespace Wd
open Go.ChangeShapes Go.WideShapes Go.ChangeAt Go.RowKit

def okB (n : Int) : Bool := decide (-2147483648 ≤ n) && decide (n ≤ 2147483647)

theorem ok_yes {n : Int} (h : okB n = true) : -2147483648 ≤ n ∧ n ≤ 2147483647 := by
  simpa [okB] using h
theorem ok_no {n : Int} (h : okB n = false) : n < -2147483648 ∨ 2147483647 < n := by
  simp [okB] at h
  omega
theorem wrap_bd (n : Int) : -2147483648 ≤ wrap32 n ∧ wrap32 n ≤ 2147483647 := by
  unfold wrap32; omega
theorem wrap_ne {n : Int} (h : okB n = false) : (wrap32 n == n) = false := by
  have h1 := ok_no h
  have h2 := wrap_bd n
  simp; omega
theorem w32_64 (n : Int) : wrap32 (wrap64 n) = wrap32 n := by
  unfold wrap32 wrap64; omega
theorem ret_int {k : IntKind} {a b : Int} (h : a = b) : Ending.returned (.int k a) = .returned (.int k b) := by rw [h]

theorem implWordOk (n : Int) (w : World) :
    Calls Try.prog 101 #[.int .i64 n] w fun e w' => e = .returned (.bool (okB n)) ∧ w = w' := by
  have hb := (wrap_bd n).1
  have hc := (wrap_bd n).2
  cases h : okB n
  · have h1 := wrap_ne h
    clear h
    go_enter Try.func101, Try.ntmps101
    go_wp2
    go_ret
    exact ⟨rfl, rfl⟩
  · have h1 := (ok_yes h).1
    have h2 := (ok_yes h).2
    clear h
    go_enter Try.func101, Try.ntmps101
    go_wp2
    go_ret
    exact ⟨rfl, rfl⟩
theorem specWordOk (n : Int) (w : World) :
    Calls Try.prog 85 #[.int .i64 n] w fun e w' => e = .returned (.bool (okB n)) ∧ w = w' := by
  by_cases h1 : -2147483648 ≤ n
  · by_cases h2 : n ≤ 2147483647
    · have e : okB n = true := by simp [okB, h1, h2]
      rw [e]
      clear e
      go_enter Try.func85, Try.ntmps85
      go_wp2
      go_ret
      exact ⟨rfl, rfl⟩
    · have e : okB n = false := by simp [okB, h2]
      rw [e]
      clear e
      go_enter Try.func85, Try.ntmps85
      go_wp2
      go_ret
      exact ⟨rfl, rfl⟩
  · have e : okB n = false := by simp [okB, h1]
    rw [e]
    clear e
    go_enter Try.func85, Try.ntmps85
    go_wp2
    go_ret
    exact ⟨rfl, rfl⟩

end Wd
end Go.Proofs.Ytffkkhaiedhaiaa

/- Plain facts on texts: numerals read back, texts cut at a byte, steps shown and read. No program in it. -/
namespace Go.Proofs.Ytffkkhaiedhaiaa
namespace Tx
open Go.Lib

/-! Digits -/
/-! The reader of the other side -/
/-! Texts cut at a byte -/
/-! Steps -/
def cnt (op : Int) : Nat :=
  if op = 1 ∨ op = 2 ∨ op = 3 ∨ op = 11 ∨ op = 12 ∨ op = 14 then 1 else if op = 15 ∨ op = 16 ∨ op = 17 then 2 else 0
def limA (op : Int) : Int :=
  if op = 2 ∨ op = 3 then 8 else if op = 11 ∨ op = 12 then 40 else if op = 14 ∨ op = 15 ∨ op = 16 ∨ op = 17 then 6 else if 4 ≤ op ∧ op ≤ 20 then 1 else 0
def limB (op : Int) : Int := if op = 15 ∨ op = 16 then 4 else if op = 17 then 20 else if 2 ≤ op ∧ op ≤ 20 then 1 else 0
def okI (op a b : Int) : Bool :=
  if op = 1 then decide (-2147483648 ≤ a) && decide (a ≤ 2147483647) && decide (b = 0)
  else decide (0 ≤ a) && decide (a < limA op) && decide (0 ≤ b) && decide (b < limB op)
theorem ok_op {op a b : Int} (h : okI op a b = true) : 1 ≤ op ∧ op ≤ 20 := by
  unfold okI at h
  split at h
  · omega
  · simp only [Bool.and_eq_true, decide_eq_true_eq] at h
    unfold limA at h; (repeat' split at h) <;> omega
theorem ok_a {op a b : Int} (h : okI op a b = true) : -2147483648 ≤ a ∧ a ≤ 2147483647 := by
  unfold okI at h
  split at h
  · simp only [Bool.and_eq_true, decide_eq_true_eq] at h; omega
  · simp only [Bool.and_eq_true, decide_eq_true_eq] at h
    unfold limA at h; (repeat' split at h) <;> omega
theorem cnt_le (op : Int) : cnt op ≤ 2 := by unfold cnt; (repeat' split) <;> omega

/-! Code -/
abbrev Ins := Int × Int × Int
def okT (i : Ins) : Bool := okI i.1 i.2.1 i.2.2
def okC (l : List Ins) : Bool := decide (l.length ≤ 40) && l.all okT
end Tx
end Go.Proofs.Ytffkkhaiedhaiaa

/- Contracts of the two sides' tests whether a step is right. -/
namespace Go.Proofs.Ytffkkhaiedhaiaa
namespace St
open Go.ChangeShapes Go.WideShapes Go.ChangeAt Go.RowKit

theorem op_cases (op : Int) : op = 1 ∨ op = 2 ∨ op = 3 ∨ op = 4 ∨ op = 5 ∨ op = 6 ∨ op = 7 ∨ op = 8 ∨ op = 9 ∨ op = 10 ∨ op = 11 ∨ op = 12 ∨ op = 13 ∨ op = 14 ∨ op = 15 ∨ op = 16 ∨ op = 17 ∨ op = 18 ∨ op = 19 ∨ op = 20 ∨ (op < 1 ∨ 20 < op) := by omega

theorem isBelow (n k : Int) (w : World) :
    Calls Try.prog 38 #[.int .i64 n, .int .i64 k] w fun e w' => e = .returned (.bool (decide (0 ≤ n) && decide (n < k))) ∧ w = w' := by
  go_enter Try.func38, Try.ntmps38
  go_wp2
  all_goals go_ret
  all_goals (simp_all; try omega)

theorem l1In (n a b : Int) (w : World) :
    Calls Try.prog 60 #[.int .i64 n, .int .i64 a, .int .i64 b] w fun e w' => e = .returned (.bool (decide (a ≤ n) && decide (n ≤ b))) ∧ w = w' := by
  go_enter Try.func60, Try.ntmps60
  go_wp2
  all_goals go_ret
  all_goals (simp_all; try omega)

set_option maxHeartbeats 1000000 in
theorem limits (op : Int) (w : World) :
    Calls Try.prog 102 #[.int .i64 op] w fun e w' => e = .returned (.tuple #[.int .i64 (Tx.limA op), .int .i64 (Tx.limB op)]) ∧ w = w' := by
  rcases op_cases op with rfl | rfl | rfl | rfl | rfl | rfl | rfl | rfl | rfl | rfl | rfl | rfl | rfl | rfl | rfl | rfl | rfl | rfl | rfl | rfl | h
  all_goals try (go_enter Try.func102, Try.ntmps102; go_wp2; go_ret2; exact ⟨rfl, rfl⟩)
  · have e : Tx.limA op = 0 ∧ Tx.limB op = 0 := by
      have n1 : ¬ op = 1 := by omega
      have n2 : ¬ op = 2 := by omega
      have n3 : ¬ op = 3 := by omega
      have n4 : ¬ op = 4 := by omega
      have n5 : ¬ op = 5 := by omega
      have n6 : ¬ op = 6 := by omega
      have n7 : ¬ op = 7 := by omega
      have n8 : ¬ op = 8 := by omega
      have n9 : ¬ op = 9 := by omega
      have n10 : ¬ op = 10 := by omega
      have n11 : ¬ op = 11 := by omega
      have n12 : ¬ op = 12 := by omega
      have n13 : ¬ op = 13 := by omega
      have n14 : ¬ op = 14 := by omega
      have n15 : ¬ op = 15 := by omega
      have n16 : ¬ op = 16 := by omega
      have n17 : ¬ op = 17 := by omega
      have n18 : ¬ op = 18 := by omega
      have n19 : ¬ op = 19 := by omega
      have n20 : ¬ op = 20 := by omega
      unfold Tx.limA Tx.limB; constructor <;> (repeat' split) <;> omega
    rw [e.1, e.2]
    clear e
    have n1 : ¬ op = 1 := by omega
    have n2 : ¬ op = 2 := by omega
    have n3 : ¬ op = 3 := by omega
    have n4 : ¬ op = 4 := by omega
    have n5 : ¬ op = 5 := by omega
    have n6 : ¬ op = 6 := by omega
    have n7 : ¬ op = 7 := by omega
    have n8 : ¬ op = 8 := by omega
    have n9 : ¬ op = 9 := by omega
    have n10 : ¬ op = 10 := by omega
    have n11 : ¬ op = 11 := by omega
    have n12 : ¬ op = 12 := by omega
    have n13 : ¬ op = 13 := by omega
    have n14 : ¬ op = 14 := by omega
    have n15 : ¬ op = 15 := by omega
    have n16 : ¬ op = 16 := by omega
    have n17 : ¬ op = 17 := by omega
    have n18 : ¬ op = 18 := by omega
    have n19 : ¬ op = 19 := by omega
    have n20 : ¬ op = 20 := by omega
    clear h
    go_enter Try.func102, Try.ntmps102
    go_wp2
    go_ret2
    exact ⟨rfl, rfl⟩

set_option maxHeartbeats 1000000 in
theorem count (op : Int) (w : World) :
    Calls Try.prog 103 #[.int .i64 op] w fun e w' => e = .returned (.int .i64 (Tx.cnt op)) ∧ w = w' := by
  rcases op_cases op with rfl | rfl | rfl | rfl | rfl | rfl | rfl | rfl | rfl | rfl | rfl | rfl | rfl | rfl | rfl | rfl | rfl | rfl | rfl | rfl | h
  all_goals try (go_enter Try.func103, Try.ntmps103; go_wp2; go_ret; exact ⟨rfl, rfl⟩)
  · have e : Tx.cnt op = 0 := by
      have n1 : ¬ op = 1 := by omega
      have n2 : ¬ op = 2 := by omega
      have n3 : ¬ op = 3 := by omega
      have n4 : ¬ op = 4 := by omega
      have n5 : ¬ op = 5 := by omega
      have n6 : ¬ op = 6 := by omega
      have n7 : ¬ op = 7 := by omega
      have n8 : ¬ op = 8 := by omega
      have n9 : ¬ op = 9 := by omega
      have n10 : ¬ op = 10 := by omega
      have n11 : ¬ op = 11 := by omega
      have n12 : ¬ op = 12 := by omega
      have n13 : ¬ op = 13 := by omega
      have n14 : ¬ op = 14 := by omega
      have n15 : ¬ op = 15 := by omega
      have n16 : ¬ op = 16 := by omega
      have n17 : ¬ op = 17 := by omega
      have n18 : ¬ op = 18 := by omega
      have n19 : ¬ op = 19 := by omega
      have n20 : ¬ op = 20 := by omega
      unfold Tx.cnt; (repeat' split) <;> omega
    rw [e]
    clear e
    have n1 : ¬ op = 1 := by omega
    have n2 : ¬ op = 2 := by omega
    have n3 : ¬ op = 3 := by omega
    have n4 : ¬ op = 4 := by omega
    have n5 : ¬ op = 5 := by omega
    have n6 : ¬ op = 6 := by omega
    have n7 : ¬ op = 7 := by omega
    have n8 : ¬ op = 8 := by omega
    have n9 : ¬ op = 9 := by omega
    have n10 : ¬ op = 10 := by omega
    have n11 : ¬ op = 11 := by omega
    have n12 : ¬ op = 12 := by omega
    have n13 : ¬ op = 13 := by omega
    have n14 : ¬ op = 14 := by omega
    have n15 : ¬ op = 15 := by omega
    have n16 : ¬ op = 16 := by omega
    have n17 : ¬ op = 17 := by omega
    have n18 : ¬ op = 18 := by omega
    have n19 : ¬ op = 19 := by omega
    have n20 : ¬ op = 20 := by omega
    clear h
    go_enter Try.func103, Try.ntmps103
    go_wp2
    go_ret
    exact ⟨rfl, rfl⟩

end St
end Go.Proofs.Ytffkkhaiedhaiaa
