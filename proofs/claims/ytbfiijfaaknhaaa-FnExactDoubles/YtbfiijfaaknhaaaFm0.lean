/- Rows of methods and of classes, laid flat. -/
import Derived.Test.YtbfiijfaaknhaaaGr0
namespace Go.Proofs.Ytbfiijfaaknhaaa
namespace Pg
open Go.ChangeShapes Go.WideShapes Go.ChangeAt Go.RowKit St

/-- The cells of a row of methods. -/
def flatM : List (Meth × Value × Value) → List Value
  | [] => []
  | x :: l => .int .i64 x.1.name :: x.2.1 :: .int .i64 x.1.gives :: x.2.2 :: flatM l
theorem flatM_len (l : List (Meth × Value × Value)) : (flatM l).length = l.length * 4 := by
  induction l with
  | nil => rfl
  | cons x l ih => simp only [flatM, List.length_cons, ih]; omega
theorem flatM_snoc (l : List (Meth × Value × Value)) (x : Meth × Value × Value) : flatM (l ++ [x]) = flatM l ++ [.int .i64 x.1.name, x.2.1, .int .i64 x.1.gives, x.2.2] := by
  induction l with
  | nil => rfl
  | cons y l ih => simp only [List.cons_append, flatM, ih]
theorem flatM_at : ∀ (l : List (Meth × Value × Value)) (j : Nat) (x : Meth × Value × Value), l[j]? = some x → (flatM l)[j * 4]? = some (.int .i64 x.1.name) ∧ (flatM l)[j * 4 + 1]? = some x.2.1 ∧ (flatM l)[j * 4 + 2]? = some (.int .i64 x.1.gives) ∧ (flatM l)[j * 4 + 3]? = some x.2.2
  | [], _, _, h => by simp at h
  | y :: l, 0, x, h => by simp at h; subst h; simp [flatM]
  | y :: l, j + 1, x, h => by
    have := flatM_at l j x (by simpa using h)
    rw [show (j + 1) * 4 = j * 4 + 1 + 1 + 1 + 1 from by omega, show j * 4 + 1 + 1 + 1 + 1 + 1 = j * 4 + 1 + 1 + 1 + 1 + 1 from rfl]
    simp only [flatM, List.getElem?_cons_succ]
    exact this
/-- The cells of a row of classes. -/
def flatK : List (Cls × Value × Value) → List Value
  | [] => []
  | x :: l => .int .i64 x.1.super :: x.2.1 :: x.2.2 :: flatK l
theorem flatK_len (l : List (Cls × Value × Value)) : (flatK l).length = l.length * 3 := by
  induction l with
  | nil => rfl
  | cons x l ih => simp only [flatK, List.length_cons, ih]; omega
theorem flatK_snoc (l : List (Cls × Value × Value)) (x : Cls × Value × Value) : flatK (l ++ [x]) = flatK l ++ [.int .i64 x.1.super, x.2.1, x.2.2] := by
  induction l with
  | nil => rfl
  | cons y l ih => simp only [List.cons_append, flatK, ih]
theorem flatK_at : ∀ (l : List (Cls × Value × Value)) (j : Nat) (x : Cls × Value × Value), l[j]? = some x → (flatK l)[j * 3]? = some (.int .i64 x.1.super) ∧ (flatK l)[j * 3 + 1]? = some x.2.1 ∧ (flatK l)[j * 3 + 2]? = some x.2.2
  | [], _, _, h => by simp at h
  | y :: l, 0, x, h => by simp at h; subst h; simp [flatK]
  | y :: l, j + 1, x, h => by
    have := flatK_at l j x (by simpa using h)
    rw [show (j + 1) * 3 = j * 3 + 1 + 1 + 1 from by omega]
    simp only [flatK, List.getElem?_cons_succ]
    exact this
/-- Slices take one cell. -/
theorem one_slice {v : Value} (h : ∃ a n c, v = .slice a n c) : v.oneCell' = true := by
  obtain ⟨a, n, c, rfl⟩ := h; rfl

/-- A row of methods whose parts stand. -/
theorem sm_of {S S' : Nat} {w : World} {v : Value} {ms : List Meth} {l : List (Meth × Value × Value)} (e : l.map (·.1) = ms) (hS : S ≤ S') (hown : w.ownsRow S' 29 4 v ms.length (flatM l)) (hd : ∀ x ∈ l, MV front S w x.2.1 x.2.2 x.1) : SM front S w v ms := by
  obtain ⟨h0, ⟨hv, hn⟩ | ⟨g, cap, cur, hv, hB, hblk, hle, hmx, hsz, htk⟩⟩ := hown
  · refine ⟨none, 0, by rw [hv, hn], fun _ _ => rfl, fun hp => by omega⟩
  · have hgw : g < w.heap.size := (Array.getElem?_eq_some_iff.1 hblk).1
    refine ⟨some ⟨g, 0, none⟩, cap, hv, fun _ h => by simp at h, fun hp => ⟨g, 0, rfl, (by omega), ⟨hgw, fun _ j hj => by simp [World.frozen?, hblk]⟩, fun j m hj => ?_⟩⟩
    obtain ⟨x, hx⟩ : ∃ x, l[j]? = some x := by
      rw [← e, List.getElem?_map] at hj
      cases hq : l[j]? with
      | none => rw [hq] at hj; simp at hj
      | some x => exact ⟨x, rfl⟩
    have hxm : x.1 = m := by rw [← e, List.getElem?_map, hx] at hj; simpa using hj
    have k2 := hd x (List.mem_of_getElem? hx)
    obtain ⟨a0, a1, a2, a3⟩ := flatM_at l j x hx
    have hcell : ∀ i u, (flatM l)[i]? = some u → w.cell? ⟨g, 0 + i, none⟩ = some u := fun i u hu => by
      have := World.ownsRow.cells (w := w) ⟨h0, .inr ⟨g, cap, cur, hv, hB, hblk, hle, hmx, hsz, htk⟩⟩ (g := g) (by rw [hv]; rfl) i u hu
      rwa [Go.WideShapes.add_plain] at this
    subst hxm
    refine ⟨x.2.1, x.2.2, ?_, ?_, ?_, ?_, k2⟩
    · have := hcell _ _ a0; rwa [Nat.zero_add] at this ⊢
    · have := hcell _ _ a1; rw [Nat.zero_add] at this ⊢; exact this
    · have := hcell _ _ a2; rw [Nat.zero_add] at this ⊢; exact this
    · have := hcell _ _ a3; rw [Nat.zero_add] at this ⊢; exact this
end Pg
end Go.Proofs.Ytbfiijfaaknhaaa
