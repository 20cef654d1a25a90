/- Lists of kinds that fit, or are joined, as plain functions. -/
import Derived.Test.YtkcbbpfclfncpaaDoorKd0
namespace Go.Proofs.YtkcbbpfclfncpaaDoor
namespace Pg
open Go.ChangeShapes Go.WideShapes Go.ChangeAt Go.RowKit St

def fitK (p : Prg) (a b : List Int) (k : Nat) : Bool := (List.range k).all fun j => fitB p (a.getD j 0) (b.getD j 0)
def fitL (p : Prg) (a b : List Int) : Bool := decide (a.length = b.length) && fitK p a b a.length
theorem fitK_step (p : Prg) (a b : List Int) (k : Nat) : fitK p a b (k + 1) = (fitK p a b k && fitB p (a.getD k 0) (b.getD k 0)) := by
  unfold fitK
  rw [List.range_succ, List.all_append]
  simp
theorem fitK_no {p : Prg} {a b : List Int} {k n : Nat} (hk : k < n) (h : fitB p (a.getD k 0) (b.getD k 0) = false) : fitK p a b n = false := by
  cases h2 : fitK p a b n
  · rfl
  · have := List.all_eq_true.1 h2 k (List.mem_range.2 hk)
    rw [h] at this; cases this
def joinK (p : Prg) (a b : List Int) (k : Nat) : List Int := (List.range k).map fun j => joinF p (a.getD j 0) (b.getD j 0)
theorem joinK_len (p : Prg) (a b : List Int) (k : Nat) : (joinK p a b k).length = k := by simp [joinK]
theorem joinK_at {p : Prg} {a b : List Int} {k n : Nat} (hk : k < n) : (joinK p a b n)[k]? = some (joinF p (a.getD k 0) (b.getD k 0)) := by
  simp [joinK, hk]
theorem joinK_take {p : Prg} {a b : List Int} {k n : Nat} (hk : k ≤ n) : (joinK p a b n).take k = joinK p a b k := by
  unfold joinK
  rw [← List.map_take, List.take_range, Nat.min_eq_left hk]
/-- A state that is right where there are so many classes. -/
def stateB (n : Nat) (st lo : List Int) : Bool := decide (st.length ≤ 8) && decide (lo.length = 8) && st.all (kindB n) && lo.all (kindB n)
end Pg
end Go.Proofs.YtkcbbpfclfncpaaDoor
