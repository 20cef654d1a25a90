/- Three cells of a block that may be written. -/
import Derived.Test.YtbachkjhmenhfaaLaw0
import Derived.Test.YtbachkjhmenhfaaRow0
namespace Go.Proofs.Ytbachkjhmenhfaa
namespace St
open Go.ChangeShapes Go.WideShapes Go.ChangeAt Go.RowKit

/-- Three cells of a block that may be written. -/
structure Box (w : World) (k : Nat) (x y z : Value) : Prop where
  c0 : w.cell? ⟨k, 0, none⟩ = some x
  c1 : w.cell? ⟨k, 1, none⟩ = some y
  c2 : w.cell? ⟨k, 2, none⟩ = some z
  f0 : w.frozen? ⟨k, 0, none⟩ = false
  f1 : w.frozen? ⟨k, 1, none⟩ = false
  f2 : w.frozen? ⟨k, 2, none⟩ = false
theorem Box.on {u v : World} {k : Nat} {x y z : Value} (h : Box u k x y z) (hb : Below u.heap.size u v) : Box v k x y z :=
  have l : k < u.heap.size := cell_lt h.c0
  ⟨(hb.cell l).trans h.c0, (hb.cell l).trans h.c1, (hb.cell l).trans h.c2, (hb.frozen l).trans h.f0, (hb.frozen l).trans h.f1, (hb.frozen l).trans h.f2⟩
theorem Box.new (w : World) (x y z : Value) (t : TypeId) : Box (w.alloc (.cells #[x, y, z] t)) w.heap.size x y z :=
  ⟨by simp, by simp, by simp, by simp, by simp, by simp⟩
theorem Box.set {w : World} {k : Nat} {x y z : Value} (h : Box w k x y z) (x' y' z' : Value) :
    Box (((w.setCell ⟨k, 0, none⟩ x').setCell ⟨k, 1, none⟩ y').setCell ⟨k, 2, none⟩ z') k x' y' z' := by
  obtain ⟨c0, c1, c2, f0, f1, f2⟩ := h
  have n01 : (⟨k, 0, none⟩ : Addr) ≠ ⟨k, 1, none⟩ := by simp
  have n02 : (⟨k, 0, none⟩ : Addr) ≠ ⟨k, 2, none⟩ := by simp
  have n12 : (⟨k, 1, none⟩ : Addr) ≠ ⟨k, 2, none⟩ := by simp
  refine ⟨?_, ?_, ?_, by simpa using f0, by simpa using f1, by simpa using f2⟩
  · rw [World.cell?_setCell_other _ _ _ _ n02.symm, World.cell?_setCell_other _ _ _ _ n01.symm]
    exact World.cell?_setCell_same _ _ _ c0
  · rw [World.cell?_setCell_other _ _ _ _ n12.symm]
    exact World.cell?_setCell_same _ _ _ ((World.cell?_setCell_other _ _ _ _ n01).trans c1)
  · exact World.cell?_setCell_same _ _ _ ((World.cell?_setCell_other _ _ _ _ n12).trans ((World.cell?_setCell_other _ _ _ _ n02).trans c2))
theorem below_drewN {B : Nat} {a w : World} (h : Below B a w) (n : Nat) : Below B a (w.drewN n) := ⟨h.os, h.tape, h.output, h.size, h.block⟩
theorem Box.set1 {w : World} {k : Nat} {x y z : Value} (h : Box w k x y z) (y' : Value) : Box (w.setCell ⟨k, 1, none⟩ y') k x y' z := by
  obtain ⟨c0, c1, c2, f0, f1, f2⟩ := h
  have n01 : (⟨k, 1, none⟩ : Addr) ≠ ⟨k, 0, none⟩ := by simp
  have n12 : (⟨k, 1, none⟩ : Addr) ≠ ⟨k, 2, none⟩ := by simp
  exact ⟨(World.cell?_setCell_other _ _ _ _ n01).trans c0, World.cell?_setCell_same _ _ _ c1, (World.cell?_setCell_other _ _ _ _ n12).trans c2, by simpa using f0, by simpa using f1, by simpa using f2⟩
theorem Box.set2 {w : World} {k : Nat} {x y z : Value} (h : Box w k x y z) (z' : Value) : Box (w.setCell ⟨k, 2, none⟩ z') k x y z' := by
  obtain ⟨c0, c1, c2, f0, f1, f2⟩ := h
  have n01 : (⟨k, 2, none⟩ : Addr) ≠ ⟨k, 0, none⟩ := by simp
  have n12 : (⟨k, 2, none⟩ : Addr) ≠ ⟨k, 1, none⟩ := by simp
  exact ⟨(World.cell?_setCell_other _ _ _ _ n01).trans c0, (World.cell?_setCell_other _ _ _ _ n12).trans c1, World.cell?_setCell_same _ _ _ c2, by simpa using f0, by simpa using f1, by simpa using f2⟩
theorem Box.far {w : World} {k : Nat} {x y z : Value} (h : Box w k x y z) (p : Addr) (v : Value) (hp : p.block ≠ k) : Box (w.setCell p v) k x y z := by
  obtain ⟨c0, c1, c2, f0, f1, f2⟩ := h
  have n0 : p ≠ ⟨k, 0, none⟩ := fun e => hp (by rw [e])
  have n1 : p ≠ ⟨k, 1, none⟩ := fun e => hp (by rw [e])
  have n2 : p ≠ ⟨k, 2, none⟩ := fun e => hp (by rw [e])
  exact ⟨(World.cell?_setCell_other _ _ _ _ n0).trans c0, (World.cell?_setCell_other _ _ _ _ n1).trans c1, (World.cell?_setCell_other _ _ _ _ n2).trans c2, by simpa using f0, by simpa using f1, by simpa using f2⟩
end St
end Go.Proofs.Ytbachkjhmenhfaa
