/- Contracts of the laws' own comparing of programs, where both are the same. -/
import Derived.Test.YtffkkhaiedhaiaaJRn0
import Derived.Test.YtffkkhaiedhaiaaJSu0
namespace Go.Proofs.Ytffkkhaiedhaiaa
namespace Pg
open Go.ChangeShapes Go.WideShapes Go.ChangeAt Go.RowKit St

end Pg
end Go.Proofs.Ytffkkhaiedhaiaa

/- Machines as plain data, and how they lie in memory. -/
namespace Go.Proofs.Ytffkkhaiedhaiaa
namespace Pg
open Go.ChangeShapes Go.WideShapes Go.ChangeAt Go.RowKit St

def VAt (w : World) (b o : Nat) (x : Vl) : Prop := w.cell? ⟨b, o, none⟩ = some (.int .i64 x.1) ∧ w.cell? ⟨b, o + 1, none⟩ = some (.int .i64 x.2)
theorem VAt.lasts (B : Nat) : Lasts B VAt := by
  rintro u w b o x hb hB ⟨h0, h1⟩
  have l : b < u.heap.size := cell_lt h0
  exact ⟨(hb.cell hB l).trans h0, (hb.cell hB l).trans h1⟩
/-- A slice of values. -/
abbrev SV (f : Bool) (B : Nat) := Arr VAt 2 f B
theorem SV.on {f : Bool} {B : Nat} {u w : World} {v : Value} {l : List Vl} (h : SV f B u v l) (hb : Keep B u w) : SV f B w v l := Arr.on (VAt.lasts B) h hb
theorem SV.weak {f : Bool} {B B' : Nat} {w : World} {v : Value} {l : List Vl} (h : SV f B w v l) (hB : B' ≤ B) : SV f B' w v l := Arr.weak h hB fun _ _ _ h => h
def OV (f : Bool) (B : Nat) (w : World) (v1 : Value) (x : Ob) : Prop := SV f B w v1 x.flds
theorem OV.on {f : Bool} {B : Nat} {u w : World} {v1 : Value} {x : Ob} (h : OV f B u v1 x) (hb : Keep B u w) : OV f B w v1 x := SV.on h hb
theorem OV.weak {f : Bool} {B B' : Nat} {w : World} {v1 : Value} {x : Ob} (h : OV f B w v1 x) (hB : B' ≤ B) : OV f B' w v1 x := SV.weak h hB
def OAt (f : Bool) (B : Nat) (w : World) (b o : Nat) (x : Ob) : Prop := ∃ v1, w.cell? ⟨b, o, none⟩ = some (.int .i64 x.cls) ∧ w.cell? ⟨b, o + 1, none⟩ = some v1 ∧ OV f B w v1 x
theorem OAt.lasts (f : Bool) (B : Nat) : Lasts B (OAt f B) := by
  rintro u w b o x hb hB ⟨v1, h0, h1, hv⟩
  have l : b < u.heap.size := cell_lt h0
  exact ⟨v1, (hb.cell hB l).trans h0, (hb.cell hB l).trans h1, hv.on hb⟩
abbrev SO (f : Bool) (B : Nat) := Arr (OAt f B) 2 f B
theorem SO.on {f : Bool} {B : Nat} {u w : World} {v : Value} {l : List Ob} (h : SO f B u v l) (hb : Keep B u w) : SO f B w v l := Arr.on (OAt.lasts f B) h hb
theorem SO.weak {f : Bool} {B B' : Nat} {w : World} {v : Value} {l : List Ob} (h : SO f B w v l) (hB : B' ≤ B) : SO f B' w v l := Arr.weak h hB fun _ _ _ ⟨v1, h0, h1, hv⟩ => ⟨v1, h0, h1, hv.weak hB⟩
def FV (f : Bool) (B : Nat) (w : World) (v1 v2 : Value) (x : Fr) : Prop := SV f B w v1 x.stk ∧ SV f B w v2 x.loc
theorem FV.on {f : Bool} {B : Nat} {u w : World} {v1 v2 : Value} {x : Fr} (h : FV f B u v1 v2 x) (hb : Keep B u w) : FV f B w v1 v2 x := ⟨SV.on h.1 hb, SV.on h.2 hb⟩
theorem FV.weak {f : Bool} {B B' : Nat} {w : World} {v1 v2 : Value} {x : Fr} (h : FV f B w v1 v2 x) (hB : B' ≤ B) : FV f B' w v1 v2 x := ⟨SV.weak h.1 hB, SV.weak h.2 hB⟩
def FAt (f : Bool) (B : Nat) (w : World) (b o : Nat) (x : Fr) : Prop := ∃ v1 v2, w.cell? ⟨b, o, none⟩ = some (.int .i64 x.cls) ∧ w.cell? ⟨b, o + 1, none⟩ = some (.int .i64 x.name) ∧ w.cell? ⟨b, o + 2, none⟩ = some (.int .i64 x.pos) ∧ w.cell? ⟨b, o + 3, none⟩ = some v1 ∧ w.cell? ⟨b, o + 4, none⟩ = some v2 ∧ FV f B w v1 v2 x
theorem FAt.lasts (f : Bool) (B : Nat) : Lasts B (FAt f B) := by
  rintro u w b o x hb hB ⟨v1, v2, h0, h1, h2, h3, h4, hv⟩
  have l : b < u.heap.size := cell_lt h0
  exact ⟨v1, v2, (hb.cell hB l).trans h0, (hb.cell hB l).trans h1, (hb.cell hB l).trans h2, (hb.cell hB l).trans h3, (hb.cell hB l).trans h4, hv.on hb⟩
abbrev SF (f : Bool) (B : Nat) := Arr (FAt f B) 5 f B
theorem SF.on {f : Bool} {B : Nat} {u w : World} {v : Value} {l : List Fr} (h : SF f B u v l) (hb : Keep B u w) : SF f B w v l := Arr.on (FAt.lasts f B) h hb
theorem SF.weak {f : Bool} {B B' : Nat} {w : World} {v : Value} {l : List Fr} (h : SF f B w v l) (hB : B' ≤ B) : SF f B' w v l := Arr.weak h hB fun _ _ _ ⟨v1, v2, h0, h1, h2, h3, h4, hv⟩ => ⟨v1, v2, h0, h1, h2, h3, h4, hv.weak hB⟩
/-- The three rows of a machine. -/
def KV (f : Bool) (B : Nat) (w : World) (v1 v2 v3 : Value) (x : Mc) : Prop := SO f B w v1 x.heap ∧ SF f B w v2 x.frames ∧ SI f B w v3 x.said
theorem KV.on {f : Bool} {B : Nat} {u w : World} {v1 v2 v3 : Value} {x : Mc} (h : KV f B u v1 v2 v3 x) (hb : Keep B u w) : KV f B w v1 v2 v3 x := ⟨SO.on h.1 hb, SF.on h.2.1 hb, SI.on h.2.2 hb⟩
theorem KV.weak {f : Bool} {B B' : Nat} {w : World} {v1 v2 v3 : Value} {x : Mc} (h : KV f B w v1 v2 v3 x) (hB : B' ≤ B) : KV f B' w v1 v2 v3 x := ⟨SO.weak h.1 hB, SF.weak h.2.1 hB, SI.weak h.2.2 hB⟩

/-- How much there is in a machine. -/
def szO1 (x : Ob) : Nat := x.flds.length
def szF1 (x : Fr) : Nat := x.stk.length + x.loc.length
def szO (l : List Ob) : Nat := l.length + sumN (l.map szO1)
def szF (l : List Fr) : Nat := l.length + sumN (l.map szF1)
def szK (x : Mc) : Nat := szO x.heap + szF x.frames + x.said.length
def SmallO1 (x : Ob) : Prop := x.flds.length ≤ 1048576
def SmallF1 (x : Fr) : Prop := x.stk.length ≤ 1048576 ∧ x.loc.length ≤ 1048576
def SmallO (l : List Ob) : Prop := l.length ≤ 1048576 ∧ ∀ x ∈ l, SmallO1 x
def SmallF (l : List Fr) : Prop := l.length ≤ 1048576 ∧ ∀ x ∈ l, SmallF1 x
def SmallK (x : Mc) : Prop := SmallO x.heap ∧ SmallF x.frames ∧ x.said.length ≤ 1048576
theorem SmallK.of {x : Mc} (h : szK x ≤ 1048576) : SmallK x := by
  unfold szK szO szF at h
  refine ⟨⟨by omega, fun y hy => ?_⟩, ⟨by omega, fun y hy => ?_⟩, by omega⟩
  · have := sumN_le (List.mem_map_of_mem (f := szO1) hy)
    have e : szO1 y = y.flds.length := rfl
    unfold SmallO1
    omega
  · have := sumN_le (List.mem_map_of_mem (f := szF1) hy)
    have e : szF1 y = y.stk.length + y.loc.length := rfl
    unfold SmallF1
    omega
end Pg
end Go.Proofs.Ytffkkhaiedhaiaa

/- Contracts of the laws' own counting of what there is in a machine. -/
namespace Go.Proofs.Ytffkkhaiedhaiaa
namespace Pg
open Go.ChangeShapes Go.WideShapes Go.ChangeAt Go.RowKit St

end Pg
end Go.Proofs.Ytffkkhaiedhaiaa
