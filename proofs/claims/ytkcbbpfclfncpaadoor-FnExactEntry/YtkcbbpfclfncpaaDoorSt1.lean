/- Both sides' answer, a state and whether, in one form. -/
import Derived.Test.YtkcbbpfclfncpaaDoorSt0
namespace Go.Proofs.YtkcbbpfclfncpaaDoor
namespace Pg
open Go.ChangeShapes Go.WideShapes Go.ChangeAt Go.RowKit St

def StAns (s : Sta) (q : Bool) (w : World) (e : Ending) (w' : World) : Prop := ∃ x1 y1 x2 y2, e = .returned (.tuple #[.agg #[.slice x1 s.1.length y1, .slice x2 s.2.length y2], .bool q]) ∧ StZ w.heap.size w'.heap.size w' (.slice x1 s.1.length y1) (.slice x2 s.2.length y2) s ∧ Below w.heap.size w w'
theorem st_ans (o : Option Sta) (ho : ∀ x, o = some x → x.1.length ≤ 8 ∧ x.2.length ≤ 8) : ∃ (s : Sta) (q : Bool), s.1.length ≤ 8 ∧ s.2.length ≤ 8 ∧ ∀ w e w', StPost o w e w' → StAns s q w e w' := by
  cases o with
  | none =>
    refine ⟨([], []), false, by simp, by simp, fun w e w' h => ?_⟩
    obtain ⟨⟨t, _, _, _, _, hx, _⟩ | ⟨_, he⟩, hb⟩ := h
    · cases hx
    · exact ⟨none, 0, none, 0, he, StZ.nil _ _ _, hb⟩
  | some x =>
    refine ⟨x, true, (ho x rfl).1, (ho x rfl).2, fun w e w' h => ?_⟩
    obtain ⟨⟨t, x1, y1, x2, y2, hx, he, ha⟩ | ⟨hx, _⟩, hb⟩ := h
    · injection hx with hx
      subst hx
      exact ⟨x1, y1, x2, y2, he, ha.z, hb⟩
    · cases hx
end Pg
end Go.Proofs.YtkcbbpfclfncpaaDoor
