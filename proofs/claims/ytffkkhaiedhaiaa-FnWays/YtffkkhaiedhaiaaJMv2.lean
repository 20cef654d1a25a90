/- Machines as plain data, and how they lie in memory. -/
import Derived.Test.YtffkkhaiedhaiaaJPg5
import Derived.Test.YtffkkhaiedhaiaaJSu0
namespace Go.Proofs.Ytffkkhaiedhaiaa
namespace Pg
open Go.ChangeShapes Go.WideShapes Go.ChangeAt Go.RowKit St

def VAt (w : World) (b o : Nat) (x : Vl) : Prop := w.cell? ⟨b, o, none⟩ = some (.int .i64 x.1) ∧ w.cell? ⟨b, o + 1, none⟩ = some (.int .i64 x.2)
theorem VAt.lasts (B : Nat) : Lasts B VAt := by
  rintro u w b o x hb hB ⟨h0, h1⟩
  have l : b < u.heap.size := cell_lt h0
  exact ⟨(hb.cell hB l).trans h0, (hb.cell hB l).trans h1⟩
/-- A slice of values. -/
abbrev SV (f : Bool) (B : Nat) := Arr VAt 2 f B
theorem SV.on {f : Bool} {B : Nat} {u w : World} {v : Value} {l : List Vl} (h : SV f B u v l) (hb : Keep B u w) : SV f B w v l := Arr.on (VAt.lasts B) h hb
theorem SV.weak {f : Bool} {B B' : Nat} {w : World} {v : Value} {l : List Vl} (h : SV f B w v l) (hB : B' ≤ B) : SV f B' w v l := Arr.weak h hB fun _ _ _ h => h
def OV (f : Bool) (B : Nat) (w : World) (v1 : Value) (x : Ob) : Prop := SV f B w v1 x.flds
theorem OV.on {f : Bool} {B : Nat} {u w : World} {v1 : Value} {x : Ob} (h : OV f B u v1 x) (hb : Keep B u w) : OV f B w v1 x := SV.on h hb
theorem OV.weak {f : Bool} {B B' : Nat} {w : World} {v1 : Value} {x : Ob} (h : OV f B w v1 x) (hB : B' ≤ B) : OV f B' w v1 x := SV.weak h hB
def OAt (f : Bool) (B : Nat) (w : World) (b o : Nat) (x : Ob) : Prop := ∃ v1, w.cell? ⟨b, o, none⟩ = some (.int .i64 x.cls) ∧ w.cell? ⟨b, o + 1, none⟩ = some v1 ∧ OV f B w v1 x
theorem OAt.lasts (f : Bool) (B : Nat) : Lasts B (OAt f B) := by
  rintro u w b o x hb hB ⟨v1, h0, h1, hv⟩
  have l : b < u.heap.size := cell_lt h0
  exact ⟨v1, (hb.cell hB l).trans h0, (hb.cell hB l).trans h1, hv.on hb⟩
abbrev SO (f : Bool) (B : Nat) := Arr (OAt f B) 2 f B
theorem SO.on {f : Bool} {B : Nat} {u w : World} {v : Value} {l : List Ob} (h : SO f B u v l) (hb : Keep B u w) : SO f B w v l := Arr.on (OAt.lasts f B) h hb
theorem SO.weak {f : Bool} {B B' : Nat} {w : World} {v : Value} {l : List Ob} (h : SO f B w v l) (hB : B' ≤ B) : SO f B' w v l := Arr.weak h hB fun _ _ _ ⟨v1, h0, h1, hv⟩ => ⟨v1, h0, h1, hv.weak hB⟩
def FV (f : Bool) (B : Nat) (w : World) (v1 v2 : Value) (x : Fr) : Prop := SV f B w v1 x.stk ∧ SV f B w v2 x.loc
theorem FV.on {f : Bool} {B : Nat} {u w : World} {v1 v2 : Value} {x : Fr} (h : FV f B u v1 v2 x) (hb : Keep B u w) : FV f B w v1 v2 x := ⟨SV.on h.1 hb, SV.on h.2 hb⟩
theorem FV.weak {f : Bool} {B B' : Nat} {w : World} {v1 v2 : Value} {x : Fr} (h : FV f B w v1 v2 x) (hB : B' ≤ B) : FV f B' w v1 v2 x := ⟨SV.weak h.1 hB, SV.weak h.2 hB⟩
def FAt (f : Bool) (B : Nat) (w : World) (b o : Nat) (x : Fr) : Prop := ∃ v1 v2, w.cell? ⟨b, o, none⟩ = some (.int .i64 x.cls) ∧ w.cell? ⟨b, o + 1, none⟩ = some (.int .i64 x.name) ∧ w.cell? ⟨b, o + 2, none⟩ = some (.int .i64 x.pos) ∧ w.cell? ⟨b, o + 3, none⟩ = some v1 ∧ w.cell? ⟨b, o + 4, none⟩ = some v2 ∧ FV f B w v1 v2 x
theorem FAt.lasts (f : Bool) (B : Nat) : Lasts B (FAt f B) := by
  rintro u w b o x hb hB ⟨v1, v2, h0, h1, h2, h3, h4, hv⟩
  have l : b < u.heap.size := cell_lt h0
  exact ⟨v1, v2, (hb.cell hB l).trans h0, (hb.cell hB l).trans h1, (hb.cell hB l).trans h2, (hb.cell hB l).trans h3, (hb.cell hB l).trans h4, hv.on hb⟩
abbrev SF (f : Bool) (B : Nat) := Arr (FAt f B) 5 f B
theorem SF.on {f : Bool} {B : Nat} {u w : World} {v : Value} {l : List Fr} (h : SF f B u v l) (hb : Keep B u w) : SF f B w v l := Arr.on (FAt.lasts f B) h hb
theorem SF.weak {f : Bool} {B B' : Nat} {w : World} {v : Value} {l : List Fr} (h : SF f B w v l) (hB : B' ≤ B) : SF f B' w v l := Arr.weak h hB fun _ _ _ ⟨v1, v2, h0, h1, h2, h3, h4, hv⟩ => ⟨v1, v2, h0, h1, h2, h3, h4, hv.weak hB⟩
/-- The three rows of a machine. -/
def KV (f : Bool) (B : Nat) (w : World) (v1 v2 v3 : Value) (x : Mc) : Prop := SO f B w v1 x.heap ∧ SF f B w v2 x.frames ∧ SI f B w v3 x.said
theorem KV.on {f : Bool} {B : Nat} {u w : World} {v1 v2 v3 : Value} {x : Mc} (h : KV f B u v1 v2 v3 x) (hb : Keep B u w) : KV f B w v1 v2 v3 x := ⟨SO.on h.1 hb, SF.on h.2.1 hb, SI.on h.2.2 hb⟩
theorem KV.weak {f : Bool} {B B' : Nat} {w : World} {v1 v2 v3 : Value} {x : Mc} (h : KV f B w v1 v2 v3 x) (hB : B' ≤ B) : KV f B' w v1 v2 v3 x := ⟨SO.weak h.1 hB, SF.weak h.2.1 hB, SI.weak h.2.2 hB⟩

/-- How much there is in a machine. -/
def szO1 (x : Ob) : Nat := x.flds.length
def szF1 (x : Fr) : Nat := x.stk.length + x.loc.length
def szO (l : List Ob) : Nat := l.length + sumN (l.map szO1)
def szF (l : List Fr) : Nat := l.length + sumN (l.map szF1)
def szK (x : Mc) : Nat := szO x.heap + szF x.frames + x.said.length
def SaneO1 (x : Ob) : Prop := x.flds.length ≤ 9223372036854775807
def SaneF1 (x : Fr) : Prop := x.stk.length ≤ 9223372036854775807 ∧ x.loc.length ≤ 9223372036854775807
def SaneO (l : List Ob) : Prop := l.length ≤ 9223372036854775807 ∧ ∀ x ∈ l, SaneO1 x
def SaneF (l : List Fr) : Prop := l.length ≤ 9223372036854775807 ∧ ∀ x ∈ l, SaneF1 x
def SaneK (x : Mc) : Prop := SaneO x.heap ∧ SaneF x.frames ∧ x.said.length ≤ 9223372036854775807
def SmallO1 (x : Ob) : Prop := x.flds.length ≤ 1048576
def SmallF1 (x : Fr) : Prop := x.stk.length ≤ 1048576 ∧ x.loc.length ≤ 1048576
def SmallO (l : List Ob) : Prop := l.length ≤ 1048576 ∧ ∀ x ∈ l, SmallO1 x
def SmallF (l : List Fr) : Prop := l.length ≤ 1048576 ∧ ∀ x ∈ l, SmallF1 x
def SmallK (x : Mc) : Prop := SmallO x.heap ∧ SmallF x.frames ∧ x.said.length ≤ 1048576
theorem SmallK.of {x : Mc} (h : szK x ≤ 1048576) : SmallK x := by
  unfold szK szO szF at h
  refine ⟨⟨by omega, fun y hy => ?_⟩, ⟨by omega, fun y hy => ?_⟩, by omega⟩
  · have := sumN_le (List.mem_map_of_mem (f := szO1) hy)
    have e : szO1 y = y.flds.length := rfl
    unfold SmallO1
    omega
  · have := sumN_le (List.mem_map_of_mem (f := szF1) hy)
    have e : szF1 y = y.stk.length + y.loc.length := rfl
    unfold SmallF1
    omega
end Pg
end Go.Proofs.Ytffkkhaiedhaiaa

/- Contracts of the laws' own counting of what there is in a machine. -/
namespace Go.Proofs.Ytffkkhaiedhaiaa
namespace Pg
open Go.ChangeShapes Go.WideShapes Go.ChangeAt Go.RowKit St

end Pg
end Go.Proofs.Ytffkkhaiedhaiaa

/- Contracts of the laws' own copying of machines. -/
namespace Go.Proofs.Ytffkkhaiedhaiaa
namespace Pg
open Go.ChangeShapes Go.WideShapes Go.ChangeAt Go.RowKit St

theorem Cells.g4 {w : World} {k : Nat} {a b c d e : Value} {l : List Value} (h : Cells w k (a :: b :: c :: d :: e :: l)) : w.cell? ⟨k, 4, none⟩ = some e ∧ w.frozen? ⟨k, 4, none⟩ = false := h 4 e rfl
theorem Cells.s4 {w : World} {k : Nat} {a b c d e : Value} {l : List Value} (h : Cells w k (a :: b :: c :: d :: e :: l)) (v : Value) : Cells (w.setCell ⟨k, 4, none⟩ v) k (a :: b :: c :: d :: v :: l) := h.set 4 v
theorem VAt.far {g o i : Nat} {w : World} {x : Vl} (h : VAt w g o x) (hi : i < o ∨ o + 1 < i) (v : Value) : VAt (w.setCell ⟨g, i, none⟩ v) g o x := by
  obtain ⟨h0, h1⟩ := h
  exact ⟨(World.cell?_setCell_other _ _ _ _ (ne_off (by omega))).trans h0, (World.cell?_setCell_other _ _ _ _ (ne_off (by omega))).trans h1⟩
theorem VAt.next {g k : Nat} {w : World} {ms : List Vl} (hk : k < ms.length) (hroom : Room w g (ms.length * 2)) (h : ∀ j x, (ms.take k)[j]? = some x → VAt w g (0 + j * 2) x) :
    ∀ j x, (ms.take (k + 1))[j]? = some x → VAt ((w.setCell ⟨g, k * 2, none⟩ (.int .i64 ms[k].1)).setCell ⟨g, k * 2 + 1, none⟩ (.int .i64 ms[k].2)) g (0 + j * 2) x := by
  intro j x hj
  rw [List.getElem?_take] at hj
  split at hj
  · rename_i hlt
    by_cases e : j = k
    · subst e
      rw [List.getElem?_eq_getElem hk] at hj
      simp at hj
      subst hj
      obtain ⟨⟨x0, h0⟩, _⟩ := hroom (j * 2) (by omega)
      obtain ⟨⟨x1, h1⟩, _⟩ := hroom (j * 2 + 1) (by omega)
      rw [Nat.zero_add]
      refine ⟨?_, ?_⟩
      · rw [World.cell?_setCell_other _ _ _ _ (ne_off (by omega))]
        exact World.cell?_setCell_same _ _ _ h0
      · exact World.cell?_setCell_same _ _ _ ((World.cell?_setCell_other _ _ _ _ (ne_off (by omega))).trans h1)
    · have hx := h j x (by rw [List.getElem?_take, if_pos (by omega)]; exact hj)
      exact ((hx.far (by omega) _).far (by omega) _)
  · simp at hj
theorem OAt.far {f : Bool} {B : Nat} {g o i : Nat} {w : World} {x : Ob} (h : OAt f B w g o x) (hg : g < B) (hi : i < o ∨ o + 1 < i) (v : Value) : OAt f B (w.setCell ⟨g, i, none⟩ v) g o x := by
  obtain ⟨v1, h0, h1, hv⟩ := h
  exact ⟨v1, (World.cell?_setCell_other _ _ _ _ (ne_off (by omega))).trans h0, (World.cell?_setCell_other _ _ _ _ (ne_off (by omega))).trans h1, hv.on (Keep.set w (p := ⟨g, i, none⟩) hg v)⟩
theorem OAt.next {f : Bool} {g k : Nat} {w : World} {ms : List Ob} (hk : k < ms.length) (hroom : Room w g (ms.length * 2)) (h : ∀ j x, (ms.take k)[j]? = some x → OAt f (g + 1) w g (0 + j * 2) x) {v1 : Value} (hv : OV f (g + 1) w v1 ms[k]) :
    ∀ j x, (ms.take (k + 1))[j]? = some x → OAt f (g + 1) ((w.setCell ⟨g, k * 2, none⟩ (.int .i64 ms[k].cls)).setCell ⟨g, k * 2 + 1, none⟩ (v1)) g (0 + j * 2) x := by
  intro j x hj
  rw [List.getElem?_take] at hj
  split at hj
  · rename_i hlt
    by_cases e : j = k
    · subst e
      rw [List.getElem?_eq_getElem hk] at hj
      simp at hj
      subst hj
      obtain ⟨⟨x0, h0⟩, _⟩ := hroom (j * 2) (by omega)
      obtain ⟨⟨x1, h1⟩, _⟩ := hroom (j * 2 + 1) (by omega)
      rw [Nat.zero_add]
      refine ⟨v1, ?_, ?_, hv.on ((Keep.set (B := g + 1) w (p := ⟨g, j * 2, none⟩) (by simp) (.int .i64 ms[j].cls)).trans (Keep.set (B := g + 1) _ (p := ⟨g, j * 2 + 1, none⟩) (by simp) (v1)))⟩
      · rw [World.cell?_setCell_other _ _ _ _ (ne_off (by omega))]
        exact World.cell?_setCell_same _ _ _ h0
      · exact World.cell?_setCell_same _ _ _ ((World.cell?_setCell_other _ _ _ _ (ne_off (by omega))).trans h1)
    · have hx := h j x (by rw [List.getElem?_take, if_pos (by omega)]; exact hj)
      exact ((hx.far (by omega) (by omega) _).far (by omega) (by omega) _)
  · simp at hj
theorem FAt.far {f : Bool} {B : Nat} {g o i : Nat} {w : World} {x : Fr} (h : FAt f B w g o x) (hg : g < B) (hi : i < o ∨ o + 4 < i) (v : Value) : FAt f B (w.setCell ⟨g, i, none⟩ v) g o x := by
  obtain ⟨v1, v2, h0, h1, h2, h3, h4, hv⟩ := h
  exact ⟨v1, v2, (World.cell?_setCell_other _ _ _ _ (ne_off (by omega))).trans h0, (World.cell?_setCell_other _ _ _ _ (ne_off (by omega))).trans h1, (World.cell?_setCell_other _ _ _ _ (ne_off (by omega))).trans h2, (World.cell?_setCell_other _ _ _ _ (ne_off (by omega))).trans h3, (World.cell?_setCell_other _ _ _ _ (ne_off (by omega))).trans h4, hv.on (Keep.set w (p := ⟨g, i, none⟩) hg v)⟩
theorem FAt.next {f : Bool} {g k : Nat} {w : World} {ms : List Fr} (hk : k < ms.length) (hroom : Room w g (ms.length * 5)) (h : ∀ j x, (ms.take k)[j]? = some x → FAt f (g + 1) w g (0 + j * 5) x) {v1 v2 : Value} (hv : FV f (g + 1) w v1 v2 ms[k]) :
    ∀ j x, (ms.take (k + 1))[j]? = some x → FAt f (g + 1) (((((w.setCell ⟨g, k * 5, none⟩ (.int .i64 ms[k].cls)).setCell ⟨g, k * 5 + 1, none⟩ (.int .i64 ms[k].name)).setCell ⟨g, k * 5 + 2, none⟩ (.int .i64 ms[k].pos)).setCell ⟨g, k * 5 + 3, none⟩ (v1)).setCell ⟨g, k * 5 + 4, none⟩ (v2)) g (0 + j * 5) x := by
  intro j x hj
  rw [List.getElem?_take] at hj
  split at hj
  · rename_i hlt
    by_cases e : j = k
    · subst e
      rw [List.getElem?_eq_getElem hk] at hj
      simp at hj
      subst hj
      obtain ⟨⟨x0, h0⟩, _⟩ := hroom (j * 5) (by omega)
      obtain ⟨⟨x1, h1⟩, _⟩ := hroom (j * 5 + 1) (by omega)
      obtain ⟨⟨x2, h2⟩, _⟩ := hroom (j * 5 + 2) (by omega)
      obtain ⟨⟨x3, h3⟩, _⟩ := hroom (j * 5 + 3) (by omega)
      obtain ⟨⟨x4, h4⟩, _⟩ := hroom (j * 5 + 4) (by omega)
      rw [Nat.zero_add]
      refine ⟨v1, v2, ?_, ?_, ?_, ?_, ?_, hv.on (((((Keep.set (B := g + 1) w (p := ⟨g, j * 5, none⟩) (by simp) (.int .i64 ms[j].cls)).trans (Keep.set (B := g + 1) _ (p := ⟨g, j * 5 + 1, none⟩) (by simp) (.int .i64 ms[j].name))).trans (Keep.set (B := g + 1) _ (p := ⟨g, j * 5 + 2, none⟩) (by simp) (.int .i64 ms[j].pos))).trans (Keep.set (B := g + 1) _ (p := ⟨g, j * 5 + 3, none⟩) (by simp) (v1))).trans (Keep.set (B := g + 1) _ (p := ⟨g, j * 5 + 4, none⟩) (by simp) (v2)))⟩
      · rw [World.cell?_setCell_other _ _ _ _ (ne_off (by omega)), World.cell?_setCell_other _ _ _ _ (ne_off (by omega)), World.cell?_setCell_other _ _ _ _ (ne_off (by omega)), World.cell?_setCell_other _ _ _ _ (ne_off (by omega))]
        exact World.cell?_setCell_same _ _ _ h0
      · rw [World.cell?_setCell_other _ _ _ _ (ne_off (by omega)), World.cell?_setCell_other _ _ _ _ (ne_off (by omega)), World.cell?_setCell_other _ _ _ _ (ne_off (by omega))]
        exact World.cell?_setCell_same _ _ _ ((World.cell?_setCell_other _ _ _ _ (ne_off (by omega))).trans h1)
      · rw [World.cell?_setCell_other _ _ _ _ (ne_off (by omega)), World.cell?_setCell_other _ _ _ _ (ne_off (by omega))]
        exact World.cell?_setCell_same _ _ _ ((World.cell?_setCell_other _ _ _ _ (ne_off (by omega))).trans ((World.cell?_setCell_other _ _ _ _ (ne_off (by omega))).trans h2))
      · rw [World.cell?_setCell_other _ _ _ _ (ne_off (by omega))]
        exact World.cell?_setCell_same _ _ _ ((World.cell?_setCell_other _ _ _ _ (ne_off (by omega))).trans ((World.cell?_setCell_other _ _ _ _ (ne_off (by omega))).trans ((World.cell?_setCell_other _ _ _ _ (ne_off (by omega))).trans h3)))
      · exact World.cell?_setCell_same _ _ _ ((World.cell?_setCell_other _ _ _ _ (ne_off (by omega))).trans ((World.cell?_setCell_other _ _ _ _ (ne_off (by omega))).trans ((World.cell?_setCell_other _ _ _ _ (ne_off (by omega))).trans ((World.cell?_setCell_other _ _ _ _ (ne_off (by omega))).trans h4))))
    · have hx := h j x (by rw [List.getElem?_take, if_pos (by omega)]; exact hj)
      exact (((((hx.far (by omega) (by omega) _).far (by omega) (by omega) _).far (by omega) (by omega) _).far (by omega) (by omega) _).far (by omega) (by omega) _)
  · simp at hj
theorem infoValue : (Try.prog.info? 57).map (fun i => (i.zero, i.size, i.bytes)) = some (some (.agg #[.int .i64 0, .int .i64 0]), 2, 16) := by kernel_rfl
theorem infoObject : (Try.prog.info? 118).map (fun i => (i.zero, i.size, i.bytes)) = some (some (.agg #[.int .i64 0, .slice none 0 0]), 2, 32) := by kernel_rfl
theorem infoFrame : (Try.prog.info? 49).map (fun i => (i.zero, i.size, i.bytes)) = some (some (.agg #[.int .i64 0, .int .i64 0, .int .i64 0, .slice none 0 0, .slice none 0 0]), 5, 72) := by kernel_rfl
end Pg
end Go.Proofs.Ytffkkhaiedhaiaa
