/- Contracts of the laws' marking of a row of steps. -/
import Derived.Test.YtbachkjhmenhfaaRow1
namespace Go.Proofs.Ytbachkjhmenhfaa
namespace St
open Go.ChangeShapes Go.WideShapes Go.ChangeAt Go.RowKit

/-- The marks 1, 2, 3 .. -/
def marks (n : Nat) : List Tx.Ins := (List.range n).map fun (j : Nat) => (((j : Int) * 3 + 1, (j : Int) * 3 + 2, (j : Int) * 3 + 3) : Tx.Ins)
theorem marks_len (n : Nat) : (marks n).length = n := by simp [marks]
theorem marks_at {n k : Nat} (h : k < n) : (marks n)[k]? = some ((k : Int) * 3 + 1, (k : Int) * 3 + 2, (k : Int) * 3 + 3) := by simp [marks, h]

/-- Only block g has turned. -/
structure Only (g : Nat) (u v : World) : Prop where
  os : v.os = u.os
  tape : v.tape = u.tape
  output : v.output = u.output
  size : v.heap.size = u.heap.size
  block : ∀ k, k ≠ g → v.heap[k]? = u.heap[k]?
theorem Only.refl (g : Nat) (w : World) : Only g w w := ⟨rfl, rfl, rfl, rfl, fun _ _ => rfl⟩
theorem Only.set {g : Nat} {u v : World} (h : Only g u v) (o : Nat) (x : Value) : Only g u (v.setCell ⟨g, o, none⟩ x) := by
  have hb := (Below.refl 0 v).setCell (p := ⟨g, o, none⟩) (Nat.zero_le _) x
  exact ⟨hb.os.trans h.os, hb.tape.trans h.tape, hb.output.trans h.output, by simp [h.size], fun k hk => (Below.heap_setCell v ⟨g, o, none⟩ x k hk).trans (h.block k hk)⟩
theorem Only.row {g g' o : Nat} {u v : World} {l : List Tx.Ins} (h : Only g u v) (hne : g' ≠ g) (hr : Row u g' o l) : Row v g' o l := by
  intro j x hj
  obtain ⟨a, b, c⟩ := hr j x hj
  exact ⟨(World.cell?_of_block (w := u) (h.block g' hne)).trans a, (World.cell?_of_block (w := u) (h.block g' hne)).trans b, (World.cell?_of_block (w := u) (h.block g' hne)).trans c⟩
theorem Only.below {g B : Nat} {u v : World} (h : Only g u v) (hg : B ≤ g) : Below B u v :=
  ⟨h.os, h.tape, h.output, by rw [h.size]; exact Nat.le_refl _, fun k hk => h.block k (by omega)⟩

end St
end Go.Proofs.Ytbachkjhmenhfaa
