/- Appends onto a list of numbers of one's own; what the program counts ahead of a list. -/
import Derived.Test.YtogbkdhejdcpeaaDoorSh1
import Derived.Test.YtogbkdhejdcpeaaDoorPf0
import Derived.Laws.AppendOwnNone
namespace Go.Proofs.YtogbkdhejdcpeaaDoor
namespace Pg
open Go.ChangeShapes Go.WideShapes Go.ChangeAt Go.RowKit St

/-- A block of its own, of whatever type. -/
def BoxT (W : World) (b : Nat) (t : TypeId) (vs : Array Value) : Prop := W.heap[b]? = some (.cells vs t (0, 0))
theorem BoxT.lt {W : World} {b : Nat} {t : TypeId} {vs : Array Value} (h : BoxT W b t vs) : b < W.heap.size := (Array.getElem?_eq_some_iff.1 h).1
theorem BoxT.new (W : World) (t : TypeId) (vs : Array Value) : BoxT (W.alloc (.cells vs t)) W.heap.size t vs := heap_alloc_new W _
theorem BoxT.on {W W' : World} {b : Nat} {t : TypeId} {vs : Array Value} (h : BoxT W b t vs) (hb : Below W.heap.size W W') : BoxT W' b t vs := (hb.block b h.lt).trans h
theorem BoxT.kept {W W' : World} {row : Option Nat} {b : Nat} {t : TypeId} {vs : Array Value} (h : BoxT W b t vs) (hg : W.grownBy W' row) (hne : some b ≠ row) : BoxT W' b t vs := (hg.block b h.lt hne).trans h
theorem BoxT.not_row {W : World} {b : Nat} {t e : TypeId} {vs : Array Value} (h : BoxT W b t vs) (hte : t ≠ e) {base size k : Nat} {v : Value} {xs : List Value} (hr : W.ownsRow base e size v k xs) : some b ≠ v.ownBlock := by
  intro hb
  obtain ⟨_, ⟨rfl, _⟩ | ⟨g, cap, cur, rfl, _, hg, _⟩⟩ := hr
  · simp [Value.ownBlock] at hb
  · simp [Value.ownBlock] at hb
    subst hb
    have h' : W.heap[b]? = some (.cells vs t (0, 0)) := h
    rw [h'] at hg
    injection hg with hg
    injection hg with _ hg
    exact hte hg
theorem BoxT.cell {W : World} {b : Nat} {t : TypeId} {vs : Array Value} (h : BoxT W b t vs) {i : Nat} {x : Value} (hx : vs[i]? = some x) : W.cell? ⟨b, i, none⟩ = some x := by
  have h' : W.heap[b]? = some (.cells vs t (0, 0)) := h
  simp [World.cell?, h', hx]
/-- What an append onto a list of one's own keeps. -/
structure Kept (B : Nat) (W W' : World) : Prop where
  below : Below B W W'
  box : ∀ b t vs, t ≠ 2 → BoxT W b t vs → BoxT W' b t vs
theorem Kept.of {B : Nat} {W W' : World} (h : Below W.heap.size W W') (hB : B ≤ W.heap.size) : Kept B W W' := ⟨h.mono hB, fun _ _ _ _ h1 => h1.on h⟩
theorem Kept.refl (B : Nat) (W : World) : Kept B W W := ⟨Below.refl _ _, fun _ _ _ _ h => h⟩
theorem Kept.trans {B : Nat} {W W' W'' : World} (h : Kept B W W') (h' : Kept B W' W'') : Kept B W W'' := ⟨h.below.trans h'.below, fun b t vs ht hb => h'.box b t vs ht (h.box b t vs ht hb)⟩
theorem Kept.alloc {B : Nat} {W W' : World} (h : Kept B W W') (hB : B ≤ W.heap.size) (o : Obj) : Kept B W (W'.alloc o) := h.trans (Kept.of ((Below.refl _ _).alloc (Nat.le_refl _) _) (Nat.le_trans hB h.below.size))
theorem kept_grown {B : Nat} {W W' : World} {v : Value} {n : Nat} {xs : List Value} (hB : B ≤ W.heap.size) (hr : W.ownsRow B 2 1 v n xs) (hg : W.grownBy W' v.ownBlock) : Kept B W W' :=
  ⟨(Below.refl _ _).grown hg hB (fun k hk => (hr.lt k hk).1), fun _ _ _ ht hb => hb.kept hg (hb.not_row ht hr)⟩
theorem nums_app (l r : List Int) : nums (l ++ r) = nums l ++ nums r := by simp [nums]
theorem nums_length (l : List Int) : (nums l).length = l.length := by simp [nums]
theorem SI.none_nil {B : Nat} {w : World} {n cap : Nat} {l : List Int} (h : SI true B w (.slice none n cap) l) (hn : n = l.length) : l = [] ∧ n = 0 ∧ cap = 0 := by
  have hl : l = [] := by
    cases l with
    | nil => rfl
    | cons x l =>
      obtain ⟨b, o, he, _⟩ := SI.rows h (by simp)
      cases he
  subst hl
  subst hn
  refine ⟨rfl, rfl, ?_⟩
  rcases h with h | h
  all_goals simp_all
theorem grow_lit1 (w : World) (x : Int) : Grow w.heap.size (w.alloc (.cells #[.int .i64 x] 2)) (.slice (some ⟨w.heap.size, 0, none⟩) 1 1) [x] :=
  ⟨⟨by simp [nums], .inr ⟨w.heap.size, 1, _, rfl, Nat.le_refl _, heap_alloc_new w _, Nat.le_refl _, by decide, by simp, by simp [nums]⟩⟩, by simp⟩
theorem grow_lit2 (w : World) (x y : Int) : Grow w.heap.size (w.alloc (.cells #[.int .i64 x, .int .i64 y] 2)) (.slice (some ⟨w.heap.size, 0, none⟩) 2 2) [x, y] :=
  ⟨⟨by simp [nums], .inr ⟨w.heap.size, 2, _, rfl, Nat.le_refl _, heap_alloc_new w _, Nat.le_refl _, by decide, by simp, by simp [nums]⟩⟩, by simp⟩
end Pg
end Go.Proofs.YtogbkdhejdcpeaaDoor
