/- The plain facts on words: they go round, products go over sums, a number is over another one times it and what is left. -/
import Derived.Test.YtmadhhjdplekaaaArith
import Derived.Test.YtmadhhjdplekaaaOver
namespace Go.Proofs.Ytmadhhjdplekaaa
namespace Wd
open Go.ChangeShapes Go.WideShapes Go.ChangeAt Go.RowKit

theorem wrap_add (x k : Int) : wrap32 (x + 4294967296 * k) = wrap32 x := by
  unfold wrap32; omega
theorem wrap_off (x : Int) : ∃ k : Int, wrap32 x = x + 4294967296 * k := by
  unfold wrap32
  exact ⟨-((x + 2147483648) / 4294967296), by omega⟩
theorem plus_w {a b : Int} (ha : okB a = true) (hb : okB b = true) : plusF a b = wrap32 (a + b) := by simp [plusF, ha, hb]
theorem minus_w {a b : Int} (ha : okB a = true) (hb : okB b = true) : minusF a b = wrap32 (a - b) := by simp [minusF, ha, hb]
theorem times_w {a b : Int} (ha : okB a = true) (hb : okB b = true) : timesF a b = wrap32 (a * b) := by simp [timesF, ha, hb]

theorem distr {a b c : Int} (ha : okB a = true) (hb : okB b = true) (hc : okB c = true) :
    timesF a (plusF b c) = plusF (timesF a b) (timesF a c) := by
  rw [plus_w hb hc, times_w ha hb, times_w ha hc, times_w ha (wrap_ok _), plus_w (wrap_ok _) (wrap_ok _)]
  obtain ⟨k1, e1⟩ := wrap_off (b + c)
  obtain ⟨k2, e2⟩ := wrap_off (a * b)
  obtain ⟨k3, e3⟩ := wrap_off (a * c)
  rw [e1, e2, e3]
  have l : a * (b + c + 4294967296 * k1) = (a * b + a * c) + 4294967296 * (a * k1) := by
    rw [Int.mul_add, Int.mul_add, Int.mul_left_comm]
  have r : a * b + 4294967296 * k2 + (a * c + 4294967296 * k3) = (a * b + a * c) + 4294967296 * (k2 + k3) := by omega
  rw [l, r, wrap_add, wrap_add]
theorem plus_minus {a b : Int} (ha : okB a = true) (hb : okB b = true) : minusF (plusF a b) b = a := by
  rw [plus_w ha hb, minus_w (wrap_ok _) hb]
  obtain ⟨k, e⟩ := wrap_off (a + b)
  rw [e, show a + b + 4294967296 * k - b = a + 4294967296 * k from by omega, wrap_add, wrap_eq ha]
theorem minus_plus {a b : Int} (ha : okB a = true) (hb : okB b = true) : plusF (minusF a b) b = a := by
  rw [minus_w ha hb, plus_w (wrap_ok _) hb]
  obtain ⟨k, e⟩ := wrap_off (a - b)
  rw [e, show a - b + 4294967296 * k + b = a + 4294967296 * k from by omega, wrap_add, wrap_eq ha]
theorem over_w {a b : Int} (ha : okB a = true) (hb : okB b = true) (h0 : (b == 0) = false) : overF a b = wrap32 (a.tdiv b) := by
  simp [overF, overB, ha, hb, h0]
theorem over_back {a b : Int} (ha : okB a = true) (hb : okB b = true) (h0 : (b == 0) = false) (m : Int) (hm : m = a.tmod b) :
    plusF (timesF (overF a b) b) (wrap32 m) = a := by
  subst hm
  rw [over_w ha hb h0, times_w (wrap_ok _) hb, plus_w (wrap_ok _) (wrap_ok _)]
  obtain ⟨k1, e1⟩ := wrap_off (a.tdiv b)
  obtain ⟨k3, e3⟩ := wrap_off (a.tmod b)
  rw [e1, e3]
  obtain ⟨k2, e2⟩ := wrap_off ((a.tdiv b + 4294967296 * k1) * b)
  rw [e2]
  have e : (a.tdiv b + 4294967296 * k1) * b + 4294967296 * k2 + (a.tmod b + 4294967296 * k3) = (a.tmod b + b * a.tdiv b) + 4294967296 * (k1 * b + k2 + k3) := by
    rw [Int.add_mul, Int.mul_assoc, Int.mul_comm (a.tdiv b) b]
    omega
  rw [e, wrap_add, Int.tmod_add_mul_tdiv, wrap_eq ha]
theorem rest_zero (n : Int) : (wrap64 (n - wrap32 n)).tmod 4294967296 = 0 := by
  obtain ⟨k, e⟩ := wrap_off n
  have h : (4294967296 : Int) ∣ wrap64 (n - wrap32 n) := by
    rw [e]; unfold wrap64
    refine ⟨-k - 4294967296 * ((n - (n + 4294967296 * k) + 9223372036854775808) / 18446744073709551616), by omega⟩
  exact Int.tmod_eq_zero_of_dvd h
end Wd
end Go.Proofs.Ytmadhhjdplekaaa
