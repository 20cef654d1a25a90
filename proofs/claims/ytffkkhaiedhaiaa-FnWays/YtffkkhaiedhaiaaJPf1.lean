/- Contracts of both sides' question whether a program and a class of it are right. -/
import Derived.Test.YtffkkhaiedhaiaaJPi3
import Derived.Test.YtffkkhaiedhaiaaJPs1
import Derived.Test.YtffkkhaiedhaiaaJPc0
namespace Go.Proofs.Ytffkkhaiedhaiaa
namespace Pg
open Go.ChangeShapes Go.WideShapes Go.ChangeAt Go.RowKit St

def inB (p : Prg) (t : Int) : Bool := decide (0 ≤ t) && decide (t < (p.length : Int))
theorem okIn {p : Prg} {t : Int} (h : (okP p && inB p t) = true) : okP p = true ∧ 0 ≤ t ∧ t < (p.length : Int) := by
  simp only [Bool.and_eq_true, inB, decide_eq_true_eq] at h
  exact h
end Pg
end Go.Proofs.Ytffkkhaiedhaiaa

/- Contracts of both sides' FieldsOf. -/
namespace Go.Proofs.Ytffkkhaiedhaiaa
namespace Pg
open Go.ChangeShapes Go.WideShapes Go.ChangeAt Go.RowKit St

theorem fieldsF_split (p : Prg) (t : Int) : fieldsF p t = if okP p && inB p t then fieldsR p 6 t else [] := rfl
theorem Grow.base {B B' : Nat} {w : World} {v : Value} {l : List Int} (h : Grow B w v l) (hB : B' ≤ B) : Grow B' w v l := ⟨ownBase h.1 hB, h.2⟩
theorem grow_nil1 (w : World) (B : Nat) (hB : B ≤ w.heap.size) : Grow B (w.alloc (.cells #[] 2)) (.slice (some ⟨w.heap.size, 0, none⟩) 0 0) [] := by
  refine ⟨ownBase (B := w.heap.size) ?_ hB, by simp⟩
  have h : (w.alloc (.cells #[] 2)).ownsRow w.heap.size 2 1 (.slice (some ⟨w.heap.size, 0, none⟩) 0 0) 0 [] := World.ownsRow_made w #[] 0 (Nat.le_refl _) (by decide) (by simp)
  simpa [nums] using h

theorem fieldsF_len (p : Prg) (t : Int) : (fieldsF p t).length ≤ 24 := by
  unfold fieldsF
  split
  · rename_i h
    simp only [Bool.and_eq_true, decide_eq_true_eq] at h
    have hl := (okP_len h.1).2
    exact fieldsR_len (okP_sup h.1) hl (Nat.le_refl _) (okP_four h.1) 6 _ (by omega) h.2.2
  · simp
end Pg
end Go.Proofs.Ytffkkhaiedhaiaa
