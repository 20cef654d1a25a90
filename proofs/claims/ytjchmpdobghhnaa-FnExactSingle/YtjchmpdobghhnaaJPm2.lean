/- What marking a program leaves as it was: rows of numbers elsewhere. -/
import Derived.Test.YtjchmpdobghhnaaJZa1
namespace Go.Proofs.Ytjchmpdobghhnaa
namespace Pg
open Go.ChangeShapes Go.WideShapes Go.ChangeAt Go.RowKit St

theorem Mrk.irow {B1 B2 : Nat} {u v : World} (h : Mrk B1 B2 u v) {g o : Nat} {l : List Int} (hg : g < B1 ∨ B2 ≤ g) (hr : IRow u g o l) : IRow v g o l := fun j x hj => (World.cell?_of_block (w := u) (h.far g (cell_lt (hr j x hj)) hg)).trans (hr j x hj)
theorem Mrk.room {B1 B2 : Nat} {u v : World} (h : Mrk B1 B2 u v) {g n : Nat} (hg : g < B1 ∨ B2 ≤ g) (hr : Room u g n) : Room v g n := fun i hi => by
  obtain ⟨⟨x, hx⟩, hf⟩ := hr i hi
  have l : g < u.heap.size := cell_lt hx
  exact ⟨⟨x, (World.cell?_of_block (w := u) (h.far g l hg)).trans hx⟩, (World.frozen?_of_block (w := u) (h.far g l hg)).trans hf⟩

end Pg
end Go.Proofs.Ytjchmpdobghhnaa
