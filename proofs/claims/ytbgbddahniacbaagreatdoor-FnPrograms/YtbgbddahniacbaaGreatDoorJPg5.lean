/- Contracts of the laws' own copying of programs: rows of methods, classes, programs. -/
import Derived.Test.YtbgbddahniacbaaGreatDoorJDp0
namespace Go.Proofs.YtbgbddahniacbaaGreatDoor
namespace Pg
open Go.ChangeShapes Go.WideShapes Go.ChangeAt Go.RowKit St

theorem infoMe : (Tryz.prog.info? 35).map (fun i => (i.zero, i.size, i.bytes)) = some (some (.agg #[.int .i64 0, .slice none 0 0, .int .i64 0, .slice none 0 0]), 4, 64) := by kernel_rfl
theorem infoCl : (Tryz.prog.info? 45).map (fun i => (i.zero, i.size, i.bytes)) = some (some (.agg #[.int .i64 0, .slice none 0 0, .slice none 0 0]), 3, 56) := by kernel_rfl

theorem ne_off {g a b : Nat} (h : a ≠ b) : (⟨g, a, none⟩ : Addr) ≠ ⟨g, b, none⟩ := fun e => h (congrArg Addr.off e)
theorem MAt.far {K : Way} {B g o i : Nat} {w : World} {m : Meth} (h : MAt K B w g o m) (hg : g < B) (hi : i < o ∨ o + 3 < i) (v : Value) : MAt K B (w.setCell ⟨g, i, none⟩ v) g o m := by
  obtain ⟨va, vc, h0, h1, h2, h3, h4⟩ := h
  exact ⟨va, vc, (World.cell?_setCell_other _ _ _ _ (ne_off (by omega))).trans h0, (World.cell?_setCell_other _ _ _ _ (ne_off (by omega))).trans h1, (World.cell?_setCell_other _ _ _ _ (ne_off (by omega))).trans h2, (World.cell?_setCell_other _ _ _ _ (ne_off (by omega))).trans h3, h4.on (Keep.set w (p := ⟨g, i, none⟩) hg v)⟩
theorem CAt.far {K : Way} {B g o i : Nat} {w : World} {m : Cls} (h : CAt K B w g o m) (hg : g < B) (hi : i < o ∨ o + 2 < i) (v : Value) : CAt K B (w.setCell ⟨g, i, none⟩ v) g o m := by
  obtain ⟨va, vc, h0, h1, h2, h4⟩ := h
  exact ⟨va, vc, (World.cell?_setCell_other _ _ _ _ (ne_off (by omega))).trans h0, (World.cell?_setCell_other _ _ _ _ (ne_off (by omega))).trans h1, (World.cell?_setCell_other _ _ _ _ (ne_off (by omega))).trans h2, h4.on (Keep.set w (p := ⟨g, i, none⟩) hg v)⟩
/-- One method more written. -/
theorem meths_next {K : Way} {g k : Nat} {w : World} {ms : List Meth} (hk : k < ms.length) (hroom : Room w g (ms.length * 4)) (h : ∀ j x, (ms.take k)[j]? = some x → MAt K (g + 1) w g (0 + j * 4) x) {va vc : Value} (hv : MV K (g + 1) w va vc ms[k]) :
    ∀ j x, (ms.take (k + 1))[j]? = some x → MAt K (g + 1) ((((w.setCell ⟨g, k * 4, none⟩ (.int .i64 ms[k].name)).setCell ⟨g, k * 4 + 1, none⟩ va).setCell ⟨g, k * 4 + 2, none⟩ (.int .i64 ms[k].gives)).setCell ⟨g, k * 4 + 3, none⟩ vc) g (0 + j * 4) x := by
  intro j x hj
  rw [List.getElem?_take] at hj
  split at hj
  · rename_i hlt
    by_cases e : j = k
    · subst e
      rw [List.getElem?_eq_getElem hk] at hj
      simp at hj
      subst hj
      obtain ⟨⟨x0, h0⟩, _⟩ := hroom (j * 4) (by omega)
      obtain ⟨⟨x1, h1⟩, _⟩ := hroom (j * 4 + 1) (by omega)
      obtain ⟨⟨x2, h2⟩, _⟩ := hroom (j * 4 + 2) (by omega)
      obtain ⟨⟨x3, h3⟩, _⟩ := hroom (j * 4 + 3) (by omega)
      rw [Nat.zero_add]
      have k1 := Keep.set (B := g + 1) w (p := ⟨g, j * 4, none⟩) (by simp) (.int .i64 ms[j].name)
      refine ⟨va, vc, ?_, ?_, ?_, ?_, hv.on (((k1.trans (Keep.set _ (p := ⟨g, j * 4 + 1, none⟩) (by simp) va)).trans (Keep.set _ (p := ⟨g, j * 4 + 2, none⟩) (by simp) _)).trans (Keep.set _ (p := ⟨g, j * 4 + 3, none⟩) (by simp) vc))⟩
      · rw [World.cell?_setCell_other _ _ _ _ (ne_off (by omega)), World.cell?_setCell_other _ _ _ _ (ne_off (by omega)), World.cell?_setCell_other _ _ _ _ (ne_off (by omega))]
        exact World.cell?_setCell_same _ _ _ h0
      · rw [World.cell?_setCell_other _ _ _ _ (ne_off (by omega)), World.cell?_setCell_other _ _ _ _ (ne_off (by omega))]
        exact World.cell?_setCell_same _ _ _ ((World.cell?_setCell_other _ _ _ _ (ne_off (by omega))).trans h1)
      · rw [World.cell?_setCell_other _ _ _ _ (ne_off (by omega))]
        exact World.cell?_setCell_same _ _ _ ((World.cell?_setCell_other _ _ _ _ (ne_off (by omega))).trans ((World.cell?_setCell_other _ _ _ _ (ne_off (by omega))).trans h2))
      · exact World.cell?_setCell_same _ _ _ ((World.cell?_setCell_other _ _ _ _ (ne_off (by omega))).trans ((World.cell?_setCell_other _ _ _ _ (ne_off (by omega))).trans ((World.cell?_setCell_other _ _ _ _ (ne_off (by omega))).trans h3)))
    · have hx := h j x (by rw [List.getElem?_take, if_pos (by omega)]; exact hj)
      exact (((hx.far (by omega) (by omega) _).far (by omega) (by omega) _).far (by omega) (by omega) _).far (by omega) (by omega) _
  · simp at hj
theorem classes_next {K : Way} {g k : Nat} {w : World} {ms : Prg} (hk : k < ms.length) (hroom : Room w g (ms.length * 3)) (h : ∀ j x, (ms.take k)[j]? = some x → CAt K (g + 1) w g (0 + j * 3) x) {vf vm : Value} (hv : CV K (g + 1) w vf vm ms[k]) :
    ∀ j x, (ms.take (k + 1))[j]? = some x → CAt K (g + 1) (((w.setCell ⟨g, k * 3, none⟩ (.int .i64 ms[k].super)).setCell ⟨g, k * 3 + 1, none⟩ vf).setCell ⟨g, k * 3 + 2, none⟩ vm) g (0 + j * 3) x := by
  intro j x hj
  rw [List.getElem?_take] at hj
  split at hj
  · rename_i hlt
    by_cases e : j = k
    · subst e
      rw [List.getElem?_eq_getElem hk] at hj
      simp at hj
      subst hj
      obtain ⟨⟨x0, h0⟩, _⟩ := hroom (j * 3) (by omega)
      obtain ⟨⟨x1, h1⟩, _⟩ := hroom (j * 3 + 1) (by omega)
      obtain ⟨⟨x2, h2⟩, _⟩ := hroom (j * 3 + 2) (by omega)
      rw [Nat.zero_add]
      have k1 := Keep.set (B := g + 1) w (p := ⟨g, j * 3, none⟩) (by simp) (.int .i64 ms[j].super)
      refine ⟨vf, vm, ?_, ?_, ?_, hv.on ((k1.trans (Keep.set _ (p := ⟨g, j * 3 + 1, none⟩) (by simp) vf)).trans (Keep.set _ (p := ⟨g, j * 3 + 2, none⟩) (by simp) vm))⟩
      · rw [World.cell?_setCell_other _ _ _ _ (ne_off (by omega)), World.cell?_setCell_other _ _ _ _ (ne_off (by omega))]
        exact World.cell?_setCell_same _ _ _ h0
      · rw [World.cell?_setCell_other _ _ _ _ (ne_off (by omega))]
        exact World.cell?_setCell_same _ _ _ ((World.cell?_setCell_other _ _ _ _ (ne_off (by omega))).trans h1)
      · exact World.cell?_setCell_same _ _ _ ((World.cell?_setCell_other _ _ _ _ (ne_off (by omega))).trans ((World.cell?_setCell_other _ _ _ _ (ne_off (by omega))).trans h2))
    · have hx := h j x (by rw [List.getElem?_take, if_pos (by omega)]; exact hj)
      exact ((hx.far (by omega) (by omega) _).far (by omega) (by omega) _).far (by omega) (by omega) _
  · simp at hj

/-- All is short. -/
def SmallM (m : Meth) : Prop := m.args.length ≤ 1048576 ∧ m.code.length ≤ 1048576
def SmallC (c : Cls) : Prop := c.fields.length ≤ 1048576 ∧ c.meths.length ≤ 1048576 ∧ ∀ m ∈ c.meths, SmallM m
def SmallP (p : Prg) : Prop := p.length ≤ 1048576 ∧ ∀ c ∈ p, SmallC c
theorem SmallP.of {p : Prg} (h : szP p ≤ 1048576) : SmallP p := by
  refine ⟨by unfold szP at h; omega, fun c hc => ?_⟩
  have h1 := szC_le hc
  have e : szC c = c.fields.length + szMs c.meths := rfl
  have e2 : szMs c.meths = c.meths.length + sumN (c.meths.map szM) := rfl
  refine ⟨by omega, by omega, fun m hm => ?_⟩
  have h2 := szM_le hm
  have e3 : szM m = m.args.length + m.code.length := rfl
  exact ⟨by omega, by omega⟩

end Pg
end Go.Proofs.YtbgbddahniacbaaGreatDoor

/- Contracts of the laws' own comparing of programs, where both are the same. -/
namespace Go.Proofs.YtbgbddahniacbaaGreatDoor
namespace Pg
open Go.ChangeShapes Go.WideShapes Go.ChangeAt Go.RowKit St

end Pg
end Go.Proofs.YtbgbddahniacbaaGreatDoor
