/- The contract of the specification's Entry. -/
import Derived.Test.YtfdlljdljefkfaaGreatDoorJEn2
import Derived.Test.YtfdlljdljefkfaaGreatDoorJPc3
namespace Go.Proofs.YtfdlljdljefkfaaGreatDoor
namespace Pg
open Go.ChangeShapes Go.WideShapes Go.ChangeAt Go.RowKit St

theorem BoxT.cells {W : World} {b : Nat} {t : TypeId} {vs : Array Value} (h : BoxT W b t vs) : Cells W b vs.toList := fun i x hx => by
  refine ⟨h.cell (by rw [← Array.getElem?_toList]; exact hx), ?_⟩
  unfold BoxT at h
  simp [World.frozen?, h]
theorem BoxT.set {W : World} {b : Nat} {t : TypeId} {vs : Array Value} (h : BoxT W b t vs) (i : Nat) (x : Value) {vs' : Array Value} (hv : vs.setIfInBounds i x = vs') : BoxT (W.setCell ⟨b, i, none⟩ x) b t vs' := by
  unfold BoxT at *
  subst hv
  simp only [World.setCell]
  rw [Array.getElem?_modify, if_pos rfl, h]
  rfl
def slenC : Option Value → Nat
  | some (.slice _ n _) => n
  | _ => 0
end Pg
end Go.Proofs.YtfdlljdljefkfaaGreatDoor
