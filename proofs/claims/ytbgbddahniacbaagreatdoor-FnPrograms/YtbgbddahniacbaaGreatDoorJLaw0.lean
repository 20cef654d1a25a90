/- Contracts of the laws' own small functions on steps. -/
import Derived.Test.YtbgbddahniacbaaGreatDoorJStep0
import Derived.Handy
namespace Go.Proofs.YtbgbddahniacbaaGreatDoor
namespace St
open Go.ChangeShapes Go.WideShapes Go.ChangeAt Go.RowKit

theorem cell_lt {w : World} {p : Addr} {v : Value} (h : w.cell? p = some v) : p.block < w.heap.size := by
  refine Nat.lt_of_not_le fun hn => ?_
  have hnone : w.heap[p.block]? = none := Array.getElem?_eq_none hn
  simp [World.cell?, hnone] at h
/-- Three cells of a block stand in what has grown out of the world. -/
theorem keep3 {u v : World} {k : Nat} {x y z : Value} (hb : Below u.heap.size u v) (h : u.cell? ⟨k, 0, none⟩ = some x ∧ u.cell? ⟨k, 1, none⟩ = some y ∧ u.cell? ⟨k, 2, none⟩ = some z) :
    v.cell? ⟨k, 0, none⟩ = some x ∧ v.cell? ⟨k, 1, none⟩ = some y ∧ v.cell? ⟨k, 2, none⟩ = some z :=
  ⟨(hb.cell (cell_lt h.1)).trans h.1, (hb.cell (cell_lt h.2.1)).trans h.2.1, (hb.cell (cell_lt h.2.2)).trans h.2.2⟩
end St
end Go.Proofs.YtbgbddahniacbaaGreatDoor
