/- Contracts: the specification's DeadStores and Unstored. -/
import Derived.Test.YtlbjnlkeagmpoaaDe1
import Derived.Maps.AppendAt
namespace Go.Proofs.Ytlbjnlkeagmpoaa
namespace Pg
open Go.ChangeShapes Go.WideShapes Go.ChangeAt Go.RowKit St

theorem irow_blkD {w w' : World} {g o : Nat} {l : List Int} (h : IRow w g o l) (hb : w'.heap[g]? = w.heap[g]?) : IRow w' g o l := fun j x hj => (World.cell?_of_block (w := w) (a := ⟨g, o + j, none⟩) hb).trans (h j x hj)
/-- A row of its own that may grow, in another block than two others. -/
def GrowD (B g1 g2 : Nat) (w : World) (v : Value) (l : List Int) : Prop := Grow B w v l ∧ v.ownBlock ≠ some g1 ∧ v.ownBlock ≠ some g2
/-- A row that has a number does not lie in a block that has none. -/
theorem not_empty {w W : World} {t : TypeId} {g : Nat} {l : List Int} (hb : Below (w.alloc (.cells #[] t)).heap.size (w.alloc (.cells #[] t)) W) (h : IRow W g 0 l) (h0 : 0 < l.length) : g ≠ w.heap.size := fun e => by
  subst e
  have h1 := h 0 _ (List.getElem?_eq_getElem h0)
  have h2 := hb.cell (p := ⟨w.heap.size, 0 + 0, none⟩) (by simp)
  rw [h1] at h2
  simp [go_sem] at h2
theorem rch_pos {l : List Tx.Ins} : 0 < (risL (rchB l) 40).length := by
  refine List.length_pos_of_mem (a := ((0 : Nat) : Int)) (risL_mem.2 ⟨0, by decide, ?_, rfl⟩)
  exact rchB_iff.2 .zero
end Pg
end Go.Proofs.Ytlbjnlkeagmpoaa
