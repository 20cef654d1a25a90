/- A machine that came in, opened, with the bounds of its numbers. -/
import Derived.Test.YtkjoljcgbjodlaaDoorOMc
import Derived.Test.YtkjoljcgbjodlaaDoorHd0
namespace Go.Proofs.YtkjoljcgbjodlaaDoor
namespace Pg
open Go.ChangeShapes Go.WideShapes Go.ChangeAt Go.RowKit St

theorem i64_bdM {n : Int} (h : (Lit.int .i64 n).wf = true) : I64 n := by
  unfold I64
  simpa [Lit.wf, IntKind.min, IntKind.max, IntKind.signed, IntKind.bits] using h
section
variable {H : Type} {enc : TypeId × Value → H} {W : World} {sp : Nat → Bool} {fuel : Nat} {cs : List Value} {x : DataW H × List MemPlace}
theorem openIR (h : DataW.trod enc Tryd.prog W 0 sp true fuel 35 cs = some x) : ∃ (v : Value) (l : List Int), cs = [v] ∧ SI false 0 W v l ∧ (∀ x ∈ l, I64 x) ∧ l.length ≤ 9223372036854775807 :=
  openArr (E := IntAt) (S := I64) Tryd.underlying35 (show Tryd.prog.cellsOf 2 = 1 by kernel_rfl) (by omega) (fun n cs y h hl => by
    obtain ⟨k, rfl, _, hw⟩ := DataW.trod_int Tryd.underlying2 h
    exact ⟨k, i64_bdM hw, fun b o hc => hc 0 _ rfl⟩) h
set_option maxRecDepth 100000 in
theorem openMcR {r : Reach} {b0 : Nat} {v : Value} {d : DataW H} {q : List MemPlace} (hv : Value.okWide Tryd.prog W r b0 37 v) (h : DataW.Trod enc Tryd.prog W 0 sp true 37 v d q) : ∃ (a1 a2 a3 : Option Addr) (c1 c2 c3 : Nat) (m : Mc), v = .agg #[.slice a1 m.heap.length c1, .slice a2 m.frames.length c2, .slice a3 m.said.length c3, .int .i64 m.fin, .int .i64 m.code] ∧ KV false 0 W (.slice a1 m.heap.length c1) (.slice a2 m.frames.length c2) (.slice a3 m.said.length c3) m ∧ SaneK m ∧ ((∀ y ∈ m.said, I64 y) ∧ I64 m.fin ∧ I64 m.code) := by
  obtain ⟨cs, rfl, hsz⟩ := okWide_struct Tryd.underlying37 hv
  have hC : Tryd.prog.cellsOf 37 = 5 := by kernel_rfl
  rw [hC] at hsz
  obtain ⟨fuel, hf⟩ := h
  obtain ⟨xs, k, hk, hxy, _, hxl, hff⟩ := DataW.trod_struct Tryd.underlying37 hf
  obtain ⟨y0, y1, y2, y3, y4, rfl⟩ := five_of (l := xs) (by simpa using hxl)
  obtain ⟨cl⟩ := cs
  obtain ⟨v0, v1, v2, v3, v4, rfl⟩ := five_of (l := cl) (by simpa using hsz)
  have c1 : Tryd.prog.cellsOf 2 = 1 := by kernel_rfl
  have c2 : Tryd.prog.cellsOf 33 = 1 := by kernel_rfl
  have c3 : Tryd.prog.cellsOf 34 = 1 := by kernel_rfl
  have c4 : Tryd.prog.cellsOf 35 = 1 := by kernel_rfl
  have g0 := hff 0 _ rfl
  have g1 := hff 1 _ rfl
  have g2 := hff 2 _ rfl
  have g3 := hff 3 _ rfl
  have g4 := hff 4 _ rfl
  simp [c1, c2, c3, c4, Value.cells] at g0 g1 g2 g3 g4
  obtain ⟨va, la, e0, ha, hsa, hla⟩ := openOs g0
  obtain ⟨vb, lb, e1, hb, hsb, hlb⟩ := openFs g1
  obtain ⟨vc, lc, e2, hc, hr, hlc⟩ := openIR g2
  obtain ⟨n3, e3, _, w3⟩ := DataW.trod_int Tryd.underlying2 g3
  obtain ⟨n4, e4, _, w4⟩ := DataW.trod_int Tryd.underlying2 g4
  simp at e0 e1 e2 e3 e4
  subst e0 e1 e2 e3 e4
  obtain ⟨a1, c1, rfl⟩ := ha.form
  obtain ⟨a2, c2, rfl⟩ := hb.form
  obtain ⟨a3, c3, rfl⟩ := hc.form
  exact ⟨a1, a2, a3, c1, c2, c3, ⟨la, lb, lc, n3, n4⟩, rfl, ⟨ha, hb, hc⟩, ⟨⟨hla, hsa⟩, ⟨hlb, hsb⟩, hlc⟩, hr, i64_bdM w3, i64_bdM w4⟩
end
end Pg
end Go.Proofs.YtkjoljcgbjodlaaDoor
