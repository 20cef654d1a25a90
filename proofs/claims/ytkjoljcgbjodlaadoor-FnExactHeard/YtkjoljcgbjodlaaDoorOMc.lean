/- A machine that came in, opened. -/
import Derived.Test.YtkjoljcgbjodlaaDoorOPrg
import Derived.Test.YtkjoljcgbjodlaaDoorMv0
namespace Go.Proofs.YtkjoljcgbjodlaaDoor
namespace Pg
open Go.ChangeShapes Go.WideShapes Go.ChangeAt Go.RowKit St Wd

theorem two_ofM {α : Type} {l : List α} (h : l.length = 2) : ∃ x y, l = [x, y] := by
  match l, h with
  | [x, y], _ => exact ⟨x, y, rfl⟩
theorem five_of {α : Type} {l : List α} (h : l.length = 5) : ∃ x y z t u, l = [x, y, z, t, u] := by
  match l, h with
  | [x, y, z, t, u], _ => exact ⟨x, y, z, t, u, rfl⟩
section
variable {H : Type} {enc : TypeId × Value → H} {W : World} {sp : Nat → Bool} {fuel : Nat} {cs : List Value} {x : DataW H × List MemPlace}
theorem openVs (h : DataW.trod enc Tryd.prog W 0 sp true fuel 91 cs = some x) : ∃ (v : Value) (l : List Vl), cs = [v] ∧ SV false 0 W v l ∧ (∀ x ∈ l, True) ∧ l.length ≤ 9223372036854775807 :=
  openArr (E := VAt) (S := fun _ => True) Tryd.underlying91 (show Tryd.prog.cellsOf 143 = 2 by kernel_rfl) (by omega) (fun n cs y h hl => by
    obtain ⟨xs, k, hk, hxy, _, hxl, hff⟩ := DataW.trod_struct Tryd.underlying143 h
    obtain ⟨y0, y1, rfl⟩ := two_ofM (l := xs) (by simpa using hxl)
    obtain ⟨v0, v1, rfl⟩ := two_ofM hl
    have c1 : Tryd.prog.cellsOf 2 = 1 := by kernel_rfl
    have g0 := hff 0 _ rfl
    have g1 := hff 1 _ rfl
    simp [c1] at g0 g1
    obtain ⟨n0, e0, _, _⟩ := DataW.trod_int Tryd.underlying2 g0
    obtain ⟨n1, e1, _, _⟩ := DataW.trod_int Tryd.underlying2 g1
    simp at e0 e1
    subst e0 e1
    exact ⟨(n0, n1), trivial, fun b o hc => ⟨hc 0 _ rfl, hc 1 _ rfl⟩⟩) h
theorem openOs (h : DataW.trod enc Tryd.prog W 0 sp true fuel 33 cs = some x) : ∃ (v : Value) (l : List Ob), cs = [v] ∧ SO false 0 W v l ∧ (∀ x ∈ l, SaneO1 x) ∧ l.length ≤ 9223372036854775807 :=
  openArr (E := OAt false 0) (S := SaneO1) Tryd.underlying33 (show Tryd.prog.cellsOf 93 = 2 by kernel_rfl) (by omega) (fun n cs y h hl => by
    obtain ⟨xs, k, hk, hxy, _, hxl, hff⟩ := DataW.trod_struct Tryd.underlying93 h
    obtain ⟨y0, y1, rfl⟩ := two_ofM (l := xs) (by simpa using hxl)
    obtain ⟨v0, v1, rfl⟩ := two_ofM hl
    have c1 : Tryd.prog.cellsOf 2 = 1 := by kernel_rfl
    have c2 : Tryd.prog.cellsOf 91 = 1 := by kernel_rfl
    have g0 := hff 0 _ rfl
    have g1 := hff 1 _ rfl
    simp [c1, c2] at g0 g1
    obtain ⟨n0, e0, _, _⟩ := DataW.trod_int Tryd.underlying2 g0
    obtain ⟨va, la, e1, ha, _, hla⟩ := openVs g1
    simp at e0 e1
    subst e0 e1
    exact ⟨⟨n0, la⟩, hla, fun b o hc => ⟨_, hc 0 _ rfl, hc 1 _ rfl, ha⟩⟩) h
theorem openFs (h : DataW.trod enc Tryd.prog W 0 sp true fuel 34 cs = some x) : ∃ (v : Value) (l : List Fr), cs = [v] ∧ SF false 0 W v l ∧ (∀ x ∈ l, SaneF1 x) ∧ l.length ≤ 9223372036854775807 :=
  openArr (E := FAt false 0) (S := SaneF1) Tryd.underlying34 (show Tryd.prog.cellsOf 96 = 5 by kernel_rfl) (by omega) (fun n cs y h hl => by
    obtain ⟨xs, k, hk, hxy, _, hxl, hff⟩ := DataW.trod_struct Tryd.underlying96 h
    obtain ⟨y0, y1, y2, y3, y4, rfl⟩ := five_of (l := xs) (by simpa using hxl)
    obtain ⟨v0, v1, v2, v3, v4, rfl⟩ := five_of hl
    have c1 : Tryd.prog.cellsOf 2 = 1 := by kernel_rfl
    have c2 : Tryd.prog.cellsOf 91 = 1 := by kernel_rfl
    have g0 := hff 0 _ rfl
    have g1 := hff 1 _ rfl
    have g2 := hff 2 _ rfl
    have g3 := hff 3 _ rfl
    have g4 := hff 4 _ rfl
    simp [c1, c2] at g0 g1 g2 g3 g4
    obtain ⟨n0, e0, _, _⟩ := DataW.trod_int Tryd.underlying2 g0
    obtain ⟨n1, e1, _, _⟩ := DataW.trod_int Tryd.underlying2 g1
    obtain ⟨n2, e2, _, _⟩ := DataW.trod_int Tryd.underlying2 g2
    obtain ⟨va, la, e3, ha, _, hla⟩ := openVs g3
    obtain ⟨vb, lb, e4, hb, _, hlb⟩ := openVs g4
    simp at e0 e1 e2 e3 e4
    subst e0 e1 e2 e3 e4
    exact ⟨⟨n0, n1, n2, la, lb⟩, ⟨hla, hlb⟩, fun b o hc => ⟨_, _, hc 0 _ rfl, hc 1 _ rfl, hc 2 _ rfl, hc 3 _ rfl, hc 4 _ rfl, ha, hb⟩⟩) h
set_option maxRecDepth 100000 in
theorem openMc {r : Reach} {b0 : Nat} {v : Value} {d : DataW H} {q : List MemPlace} (hv : Value.okWide Tryd.prog W r b0 37 v) (h : DataW.Trod enc Tryd.prog W 0 sp true 37 v d q) : ∃ (a1 a2 a3 : Option Addr) (c1 c2 c3 : Nat) (m : Mc), v = .agg #[.slice a1 m.heap.length c1, .slice a2 m.frames.length c2, .slice a3 m.said.length c3, .int .i64 m.fin, .int .i64 m.code] ∧ KV false 0 W (.slice a1 m.heap.length c1) (.slice a2 m.frames.length c2) (.slice a3 m.said.length c3) m ∧ SaneK m := by
  obtain ⟨cs, rfl, hsz⟩ := okWide_struct Tryd.underlying37 hv
  have hC : Tryd.prog.cellsOf 37 = 5 := by kernel_rfl
  rw [hC] at hsz
  obtain ⟨fuel, hf⟩ := h
  obtain ⟨xs, k, hk, hxy, _, hxl, hff⟩ := DataW.trod_struct Tryd.underlying37 hf
  obtain ⟨y0, y1, y2, y3, y4, rfl⟩ := five_of (l := xs) (by simpa using hxl)
  obtain ⟨cl⟩ := cs
  obtain ⟨v0, v1, v2, v3, v4, rfl⟩ := five_of (l := cl) (by simpa using hsz)
  have c1 : Tryd.prog.cellsOf 2 = 1 := by kernel_rfl
  have c2 : Tryd.prog.cellsOf 33 = 1 := by kernel_rfl
  have c3 : Tryd.prog.cellsOf 34 = 1 := by kernel_rfl
  have c4 : Tryd.prog.cellsOf 35 = 1 := by kernel_rfl
  have g0 := hff 0 _ rfl
  have g1 := hff 1 _ rfl
  have g2 := hff 2 _ rfl
  have g3 := hff 3 _ rfl
  have g4 := hff 4 _ rfl
  simp [c1, c2, c3, c4, Value.cells] at g0 g1 g2 g3 g4
  obtain ⟨va, la, e0, ha, hsa, hla⟩ := openOs g0
  obtain ⟨vb, lb, e1, hb, hsb, hlb⟩ := openFs g1
  obtain ⟨vc, lc, e2, hc, _, hlc⟩ := openI g2
  obtain ⟨n3, e3, _, _⟩ := DataW.trod_int Tryd.underlying2 g3
  obtain ⟨n4, e4, _, _⟩ := DataW.trod_int Tryd.underlying2 g4
  simp at e0 e1 e2 e3 e4
  subst e0 e1 e2 e3 e4
  obtain ⟨a1, c1, rfl⟩ := ha.form
  obtain ⟨a2, c2, rfl⟩ := hb.form
  obtain ⟨a3, c3, rfl⟩ := hc.form
  exact ⟨a1, a2, a3, c1, c2, c3, ⟨la, lb, lc, n3, n4⟩, rfl, ⟨ha, hb, hc⟩, ⟨hla, hsa⟩, ⟨hlb, hsb⟩, hlc⟩
end
end Pg
end Go.Proofs.YtkjoljcgbjodlaaDoor
