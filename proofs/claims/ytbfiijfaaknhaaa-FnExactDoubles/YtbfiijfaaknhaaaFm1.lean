/- Rows of methods that a call makes. -/
import Derived.Test.YtbfiijfaaknhaaaFm0
import Derived.Test.YtbfiijfaaknhaaaGot0
namespace Go.Proofs.Ytbfiijfaaknhaaa
namespace Pg
open Go.ChangeShapes Go.WideShapes Go.ChangeAt Go.RowKit St

theorem infoMM : (Try.prog.info? 29).map (fun i => (i.zero, i.size, i.bytes)) = some (some (.agg #[.int .i64 0, .slice none 0 0, .int .i64 0, .slice none 0 0]), 4, 64) := by kernel_rfl
/-- A row of methods that the call has made and that may grow. -/
def GrowM (B : Nat) (w : World) (v : Value) (l : List (Meth × Value × Value)) : Prop := w.ownsRow B 29 4 v l.length (flatM l) ∧ v ≠ .slice none 0 0
theorem GrowM.on {B : Nat} {u v : World} {x : Value} {l : List (Meth × Value × Value)} (h : GrowM B u x l) (hb : Below u.heap.size u v) : GrowM B v x l := ⟨ownOn h.1 hb, h.2⟩
theorem GrowM.base {B B' : Nat} {w : World} {v : Value} {l : List (Meth × Value × Value)} (h : GrowM B w v l) (hB : B' ≤ B) : GrowM B' w v l := ⟨ownBase h.1 hB, h.2⟩
theorem GrowM.form {B : Nat} {w : World} {v : Value} {l : List (Meth × Value × Value)} (h : GrowM B w v l) : ∃ g cap, v = .slice (some ⟨g, 0, none⟩) l.length cap ∧ B ≤ g ∧ g < w.heap.size := by
  obtain ⟨h, hv⟩ := h
  have hlt := @World.ownsRow.lt w B 29 4 v l.length (flatM l) h
  obtain ⟨_, ⟨h, _⟩ | ⟨g, cap, cur, rfl, hB, hblk, hcap, hmax, hsz, _⟩⟩ := h
  · exact absurd h hv
  · exact ⟨g, cap, rfl, hB, (hlt g rfl).2⟩
theorem growM_nil (w : World) : GrowM w.heap.size (w.alloc (.cells #[] 29)) (.slice (some ⟨w.heap.size, 0, none⟩) 0 0) [] := by
  refine ⟨?_, by simp⟩
  have h : (w.alloc (.cells #[] 29)).ownsRow w.heap.size 29 4 (.slice (some ⟨w.heap.size, 0, none⟩) 0 0) 0 [] := World.ownsRow_made w #[] 0 (Nat.le_refl _) (by decide) (by simp)
  exact h
theorem cell_four (w : World) (a b c d : Value) (t : TypeId) : ∀ (j : Nat) (u : Value), [a, b, c, d][j]? = some u → (w.alloc (.cells #[a, b, c, d] t)).cell? ((⟨w.heap.size, 0, none⟩ : Addr).add j) = some u := by
  intro j u hu
  rw [Go.WideShapes.add_plain, Nat.zero_add]
  have := (Cells.new w _ rfl [a, b, c, d] t) j u hu
  exact this.1
theorem GrowM.next {w : World} {B : Nat} {v : Value} {l : List (Meth × Value × Value)} {x : Meth × Value × Value} (h : w.ownsRow B 29 4 v (l.length + 1) (flatM l ++ [.int .i64 x.1.name, x.2.1, .int .i64 x.1.gives, x.2.2])) (hv : v ≠ .slice none 0 0) : GrowM B w v (l ++ [x]) := by
  refine ⟨?_, hv⟩
  rw [flatM_snoc, List.length_append]
  exact h
theorem GrowM.sm {B B' : Nat} {w : World} {v : Value} {l : List (Meth × Value × Value)} (h : GrowM B' w v l) (hB : B ≤ B') (hd : ∀ x ∈ l, MV front B w x.2.1 x.2.2 x.1) : SM front B w v (l.map (·.1)) := sm_of rfl hB (by rw [List.length_map]; exact h.1) hd
end Pg
end Go.Proofs.Ytbfiijfaaknhaaa
