/- Three appends in one statement, whose order is drawn: what is kept on the way. -/
import Derived.Test.YtbgbddahniacbaaGreatDoorJPs0
import Derived.Test.YtbgbddahniacbaaGreatDoorJPs1
import Derived.Maps.AppendAt
import Derived.Test.YtbgbddahniacbaaGreatDoorJGw1
namespace Go.Proofs.YtbgbddahniacbaaGreatDoor
namespace Pg
open Go.ChangeShapes Go.WideShapes Go.ChangeAt Go.RowKit St

def BoxM (b : Nat) (t : TypeId) (vs : Array Value) (X : World) : Prop := BoxT X b t vs
theorem lit2_of {X : World} {gc : Nat} {x y : Int} (h : BoxT X gc 2 #[.int .i64 x, .int .i64 y]) : SI true 0 X (.slice (some ⟨gc, 0, none⟩) [x, y].length 2) [x, y] := by
  refine SI.row (Nat.zero_le _) h.lt (fun j z hj => ?_) (fun j hj => ?_)
  · rw [Nat.zero_add]
    match j, hj with
    | 0, hj => simp at hj; subst hj; exact h.cell (i := 0) rfl
    | 1, hj => simp at hj; subst hj; exact h.cell (i := 1) rfl
  · have h' : X.heap[gc]? = some (.cells #[.int .i64 x, .int .i64 y] 2 (0, 0)) := h
    match j, hj with
    | 0, _ => exact ⟨⟨_, h.cell (i := 0) rfl⟩, by simp [World.frozen?, h']⟩
    | 1, _ => exact ⟨⟨_, h.cell (i := 1) rfl⟩, by simp [World.frozen?, h']⟩
/-- Where a list of numbers of one's own stands, on the way. -/
structure R14 (B g cv : Nat) (l : List Int) (WC X : World) : Prop where
  gr : Grow B X (.slice (some ⟨g, 0, none⟩) l.length cv) l
  kp : Kept B WC X
  sz : B ≤ X.heap.size
theorem R14.alloc {B g cv : Nat} {l : List Int} {WC X : World} (h : R14 B g cv l WC X) (o : Obj) : R14 B g cv l WC (X.alloc o) := ⟨growOn h.gr (allocBelow _ _), h.kp.trans (Kept.of (allocBelow _ _) h.sz), by have := h.sz; simp; omega⟩
theorem R14.ne {B g cv : Nat} {l : List Int} {WC X : World} (h : R14 B g cv l WC X) : X.heap.size ≠ g := by have := grow_lt h.gr; omega
theorem R14.app {B g cv g' cv' : Nat} {l l' : List Int} {WC X X' : World} (h : R14 B g cv l WC X) (hg : Grow B X' (.slice (some ⟨g', 0, none⟩) l'.length cv') l') (hk : Kept B X X') : R14 B g' cv' l' WC X' := ⟨hg, h.kp.trans hk, Nat.le_trans h.sz hk.below.size⟩
theorem litK {X X' : World} {gc g g' : Nat} {vs : Array Value} {t : TypeId} (h : BoxT X gc t vs) (hne : gc ≠ g) (hk : ∀ b, b ≠ g → b < X.heap.size → X'.heap[b]? = X.heap[b]?) (hg' : g' = g ∨ g' = X.heap.size) : BoxT X' gc t vs ∧ gc ≠ g' := by
  have hl := h.lt
  refine ⟨(hk gc hne hl).trans h, ?_⟩
  rcases hg' with rfl | rfl
  · exact hne
  · omega
end Pg
end Go.Proofs.YtbgbddahniacbaaGreatDoor
