/- Contracts of the program's questions that go up: the lowest that is above two, and what is selected. -/
import Derived.Test.YtbfiijfaaknhaaaHi2
import Derived.Test.YtbfiijfaaknhaaaPi1
namespace Go.Proofs.Ytbfiijfaaknhaaa
namespace Pg
open Go.ChangeShapes Go.WideShapes Go.ChangeAt Go.RowKit Go.Shelf St
attribute [local go_sem] Oper.semAt_some

theorem find_none' {α : Type} {f : α → Bool} {l : List α} (h : ∀ y ∈ l, f y = false) : l.find? f = none := by
  rw [List.find?_eq_none]; intro x hx; rw [h x hx]; simp
theorem find_pre {α : Type} {f : α → Bool} {l pre : List α} {x : α} (hp : pre ++ [x] <+: l) (h : ∀ y ∈ pre, f y = false) (hx : f x = true) : l.find? f = some x := by
  obtain ⟨r, rfl⟩ := hp
  rw [List.find?_append, List.find?_append, find_none' h]
  simp [hx]
/-- The round that leaves: none before was one, this one is. -/
def Hit (f : Int → Bool) (pre : List Int) (x : Int) : Prop := ∃ q, pre = q ++ [x] ∧ (∀ y ∈ q, f y = false) ∧ f x = true
theorem Hit.find {f : Int → Bool} {pre l : List Int} {x : Int} (h : Hit f pre x) (hp : pre <+: l) : l.find? f = some x := by
  obtain ⟨q, rfl, h1, h2⟩ := h
  exact find_pre hp h1 h2

end Pg
end Go.Proofs.Ytbfiijfaaknhaaa
