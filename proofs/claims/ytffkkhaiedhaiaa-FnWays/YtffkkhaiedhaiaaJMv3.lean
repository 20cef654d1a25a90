/- Contracts of the laws' own copying of machines. -/
import Derived.Test.YtffkkhaiedhaiaaJMv1
namespace Go.Proofs.Ytffkkhaiedhaiaa
namespace Pg
open Go.ChangeShapes Go.WideShapes Go.ChangeAt Go.RowKit St

theorem Cells.g4 {w : World} {k : Nat} {a b c d e : Value} {l : List Value} (h : Cells w k (a :: b :: c :: d :: e :: l)) : w.cell? ⟨k, 4, none⟩ = some e ∧ w.frozen? ⟨k, 4, none⟩ = false := h 4 e rfl
theorem Cells.s4 {w : World} {k : Nat} {a b c d e : Value} {l : List Value} (h : Cells w k (a :: b :: c :: d :: e :: l)) (v : Value) : Cells (w.setCell ⟨k, 4, none⟩ v) k (a :: b :: c :: d :: v :: l) := h.set 4 v
theorem VAt.far {g o i : Nat} {w : World} {x : Vl} (h : VAt w g o x) (hi : i < o ∨ o + 1 < i) (v : Value) : VAt (w.setCell ⟨g, i, none⟩ v) g o x := by
  obtain ⟨h0, h1⟩ := h
  exact ⟨(World.cell?_setCell_other _ _ _ _ (ne_off (by omega))).trans h0, (World.cell?_setCell_other _ _ _ _ (ne_off (by omega))).trans h1⟩
theorem VAt.next {g k : Nat} {w : World} {ms : List Vl} (hk : k < ms.length) (hroom : Room w g (ms.length * 2)) (h : ∀ j x, (ms.take k)[j]? = some x → VAt w g (0 + j * 2) x) :
    ∀ j x, (ms.take (k + 1))[j]? = some x → VAt ((w.setCell ⟨g, k * 2, none⟩ (.int .i64 ms[k].1)).setCell ⟨g, k * 2 + 1, none⟩ (.int .i64 ms[k].2)) g (0 + j * 2) x := by
  intro j x hj
  rw [List.getElem?_take] at hj
  split at hj
  · rename_i hlt
    by_cases e : j = k
    · subst e
      rw [List.getElem?_eq_getElem hk] at hj
      simp at hj
      subst hj
      obtain ⟨⟨x0, h0⟩, _⟩ := hroom (j * 2) (by omega)
      obtain ⟨⟨x1, h1⟩, _⟩ := hroom (j * 2 + 1) (by omega)
      rw [Nat.zero_add]
      refine ⟨?_, ?_⟩
      · rw [World.cell?_setCell_other _ _ _ _ (ne_off (by omega))]
        exact World.cell?_setCell_same _ _ _ h0
      · exact World.cell?_setCell_same _ _ _ ((World.cell?_setCell_other _ _ _ _ (ne_off (by omega))).trans h1)
    · have hx := h j x (by rw [List.getElem?_take, if_pos (by omega)]; exact hj)
      exact ((hx.far (by omega) _).far (by omega) _)
  · simp at hj
theorem OAt.far {f : Bool} {B : Nat} {g o i : Nat} {w : World} {x : Ob} (h : OAt f B w g o x) (hg : g < B) (hi : i < o ∨ o + 1 < i) (v : Value) : OAt f B (w.setCell ⟨g, i, none⟩ v) g o x := by
  obtain ⟨v1, h0, h1, hv⟩ := h
  exact ⟨v1, (World.cell?_setCell_other _ _ _ _ (ne_off (by omega))).trans h0, (World.cell?_setCell_other _ _ _ _ (ne_off (by omega))).trans h1, hv.on (Keep.set w (p := ⟨g, i, none⟩) hg v)⟩
theorem OAt.next {f : Bool} {g k : Nat} {w : World} {ms : List Ob} (hk : k < ms.length) (hroom : Room w g (ms.length * 2)) (h : ∀ j x, (ms.take k)[j]? = some x → OAt f (g + 1) w g (0 + j * 2) x) {v1 : Value} (hv : OV f (g + 1) w v1 ms[k]) :
    ∀ j x, (ms.take (k + 1))[j]? = some x → OAt f (g + 1) ((w.setCell ⟨g, k * 2, none⟩ (.int .i64 ms[k].cls)).setCell ⟨g, k * 2 + 1, none⟩ (v1)) g (0 + j * 2) x := by
  intro j x hj
  rw [List.getElem?_take] at hj
  split at hj
  · rename_i hlt
    by_cases e : j = k
    · subst e
      rw [List.getElem?_eq_getElem hk] at hj
      simp at hj
      subst hj
      obtain ⟨⟨x0, h0⟩, _⟩ := hroom (j * 2) (by omega)
      obtain ⟨⟨x1, h1⟩, _⟩ := hroom (j * 2 + 1) (by omega)
      rw [Nat.zero_add]
      refine ⟨v1, ?_, ?_, hv.on ((Keep.set (B := g + 1) w (p := ⟨g, j * 2, none⟩) (by simp) (.int .i64 ms[j].cls)).trans (Keep.set (B := g + 1) _ (p := ⟨g, j * 2 + 1, none⟩) (by simp) (v1)))⟩
      · rw [World.cell?_setCell_other _ _ _ _ (ne_off (by omega))]
        exact World.cell?_setCell_same _ _ _ h0
      · exact World.cell?_setCell_same _ _ _ ((World.cell?_setCell_other _ _ _ _ (ne_off (by omega))).trans h1)
    · have hx := h j x (by rw [List.getElem?_take, if_pos (by omega)]; exact hj)
      exact ((hx.far (by omega) (by omega) _).far (by omega) (by omega) _)
  · simp at hj
theorem FAt.far {f : Bool} {B : Nat} {g o i : Nat} {w : World} {x : Fr} (h : FAt f B w g o x) (hg : g < B) (hi : i < o ∨ o + 4 < i) (v : Value) : FAt f B (w.setCell ⟨g, i, none⟩ v) g o x := by
  obtain ⟨v1, v2, h0, h1, h2, h3, h4, hv⟩ := h
  exact ⟨v1, v2, (World.cell?_setCell_other _ _ _ _ (ne_off (by omega))).trans h0, (World.cell?_setCell_other _ _ _ _ (ne_off (by omega))).trans h1, (World.cell?_setCell_other _ _ _ _ (ne_off (by omega))).trans h2, (World.cell?_setCell_other _ _ _ _ (ne_off (by omega))).trans h3, (World.cell?_setCell_other _ _ _ _ (ne_off (by omega))).trans h4, hv.on (Keep.set w (p := ⟨g, i, none⟩) hg v)⟩
theorem FAt.next {f : Bool} {g k : Nat} {w : World} {ms : List Fr} (hk : k < ms.length) (hroom : Room w g (ms.length * 5)) (h : ∀ j x, (ms.take k)[j]? = some x → FAt f (g + 1) w g (0 + j * 5) x) {v1 v2 : Value} (hv : FV f (g + 1) w v1 v2 ms[k]) :
    ∀ j x, (ms.take (k + 1))[j]? = some x → FAt f (g + 1) (((((w.setCell ⟨g, k * 5, none⟩ (.int .i64 ms[k].cls)).setCell ⟨g, k * 5 + 1, none⟩ (.int .i64 ms[k].name)).setCell ⟨g, k * 5 + 2, none⟩ (.int .i64 ms[k].pos)).setCell ⟨g, k * 5 + 3, none⟩ (v1)).setCell ⟨g, k * 5 + 4, none⟩ (v2)) g (0 + j * 5) x := by
  intro j x hj
  rw [List.getElem?_take] at hj
  split at hj
  · rename_i hlt
    by_cases e : j = k
    · subst e
      rw [List.getElem?_eq_getElem hk] at hj
      simp at hj
      subst hj
      obtain ⟨⟨x0, h0⟩, _⟩ := hroom (j * 5) (by omega)
      obtain ⟨⟨x1, h1⟩, _⟩ := hroom (j * 5 + 1) (by omega)
      obtain ⟨⟨x2, h2⟩, _⟩ := hroom (j * 5 + 2) (by omega)
      obtain ⟨⟨x3, h3⟩, _⟩ := hroom (j * 5 + 3) (by omega)
      obtain ⟨⟨x4, h4⟩, _⟩ := hroom (j * 5 + 4) (by omega)
      rw [Nat.zero_add]
      refine ⟨v1, v2, ?_, ?_, ?_, ?_, ?_, hv.on (((((Keep.set (B := g + 1) w (p := ⟨g, j * 5, none⟩) (by simp) (.int .i64 ms[j].cls)).trans (Keep.set (B := g + 1) _ (p := ⟨g, j * 5 + 1, none⟩) (by simp) (.int .i64 ms[j].name))).trans (Keep.set (B := g + 1) _ (p := ⟨g, j * 5 + 2, none⟩) (by simp) (.int .i64 ms[j].pos))).trans (Keep.set (B := g + 1) _ (p := ⟨g, j * 5 + 3, none⟩) (by simp) (v1))).trans (Keep.set (B := g + 1) _ (p := ⟨g, j * 5 + 4, none⟩) (by simp) (v2)))⟩
      · rw [World.cell?_setCell_other _ _ _ _ (ne_off (by omega)), World.cell?_setCell_other _ _ _ _ (ne_off (by omega)), World.cell?_setCell_other _ _ _ _ (ne_off (by omega)), World.cell?_setCell_other _ _ _ _ (ne_off (by omega))]
        exact World.cell?_setCell_same _ _ _ h0
      · rw [World.cell?_setCell_other _ _ _ _ (ne_off (by omega)), World.cell?_setCell_other _ _ _ _ (ne_off (by omega)), World.cell?_setCell_other _ _ _ _ (ne_off (by omega))]
        exact World.cell?_setCell_same _ _ _ ((World.cell?_setCell_other _ _ _ _ (ne_off (by omega))).trans h1)
      · rw [World.cell?_setCell_other _ _ _ _ (ne_off (by omega)), World.cell?_setCell_other _ _ _ _ (ne_off (by omega))]
        exact World.cell?_setCell_same _ _ _ ((World.cell?_setCell_other _ _ _ _ (ne_off (by omega))).trans ((World.cell?_setCell_other _ _ _ _ (ne_off (by omega))).trans h2))
      · rw [World.cell?_setCell_other _ _ _ _ (ne_off (by omega))]
        exact World.cell?_setCell_same _ _ _ ((World.cell?_setCell_other _ _ _ _ (ne_off (by omega))).trans ((World.cell?_setCell_other _ _ _ _ (ne_off (by omega))).trans ((World.cell?_setCell_other _ _ _ _ (ne_off (by omega))).trans h3)))
      · exact World.cell?_setCell_same _ _ _ ((World.cell?_setCell_other _ _ _ _ (ne_off (by omega))).trans ((World.cell?_setCell_other _ _ _ _ (ne_off (by omega))).trans ((World.cell?_setCell_other _ _ _ _ (ne_off (by omega))).trans ((World.cell?_setCell_other _ _ _ _ (ne_off (by omega))).trans h4))))
    · have hx := h j x (by rw [List.getElem?_take, if_pos (by omega)]; exact hj)
      exact (((((hx.far (by omega) (by omega) _).far (by omega) (by omega) _).far (by omega) (by omega) _).far (by omega) (by omega) _).far (by omega) (by omega) _)
  · simp at hj
theorem infoValue : (Try.prog.info? 57).map (fun i => (i.zero, i.size, i.bytes)) = some (some (.agg #[.int .i64 0, .int .i64 0]), 2, 16) := by kernel_rfl
theorem infoObject : (Try.prog.info? 118).map (fun i => (i.zero, i.size, i.bytes)) = some (some (.agg #[.int .i64 0, .slice none 0 0]), 2, 32) := by kernel_rfl
theorem infoFrame : (Try.prog.info? 49).map (fun i => (i.zero, i.size, i.bytes)) = some (some (.agg #[.int .i64 0, .int .i64 0, .int .i64 0, .slice none 0 0, .slice none 0 0]), 5, 72) := by kernel_rfl
end Pg
end Go.Proofs.Ytffkkhaiedhaiaa

/- Contracts of the laws' own comparing of machines, where both are the same. -/
namespace Go.Proofs.Ytffkkhaiedhaiaa
namespace Pg
open Go.ChangeShapes Go.WideShapes Go.ChangeAt Go.RowKit St

end Pg
end Go.Proofs.Ytffkkhaiedhaiaa
