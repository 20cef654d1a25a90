/- Contracts of the laws' own counting of what there is in a program. -/
import Derived.Test.YtbachkjhmenhfaaPg1
namespace Go.Proofs.Ytbachkjhmenhfaa
namespace Pg
open Go.ChangeShapes Go.WideShapes Go.ChangeAt Go.RowKit St

/-- What is left, or -1. -/
def szR (n : Nat) (left : Int) : Int := if (n : Int) ≤ left then left - n else -1
theorem szR_yes {n : Nat} {left : Int} (h : (n : Int) ≤ left) : szR n left = left - n := if_pos h
theorem szR_no {n : Nat} {left : Int} (h : left < (n : Int)) : szR n left = -1 := if_neg (by omega)
theorem retI {p q : Int} (h : p = q) : Ending.returned (.int .i64 p) = .returned (.int .i64 q) := by rw [h]
/-- No slice is longer than slices can be. -/
def SaneM (m : Meth) : Prop := m.args.length ≤ 9223372036854775807 ∧ m.code.length ≤ 9223372036854775807
def SaneC (c : Cls) : Prop := c.fields.length ≤ 9223372036854775807 ∧ c.meths.length ≤ 9223372036854775807 ∧ ∀ m ∈ c.meths, SaneM m
def SaneP (p : Prg) : Prop := p.length ≤ 9223372036854775807 ∧ ∀ c ∈ p, SaneC c

end Pg
end Go.Proofs.Ytbachkjhmenhfaa
