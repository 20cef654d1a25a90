/- A row of texts and labels that came in, opened. -/
import Derived.Test.YtbachkjhmenhfaaOPrg
import Derived.Test.YtbachkjhmenhfaaLb2
namespace Go.Proofs.Ytbachkjhmenhfaa
namespace Pg
open Go.ChangeShapes Go.WideShapes Go.ChangeAt Go.RowKit St

theorem two_ofL {α : Type} {l : List α} (h : l.length = 2) : ∃ x y, l = [x, y] := by
  match l, h with
  | [x, y], _ => exact ⟨x, y, rfl⟩
section
variable {H : Type} {enc : TypeId × Value → H} {W : World} {sp : Nat → Bool} {fuel : Nat} {cs : List Value} {x : DataW H × List MemPlace}
theorem openT (h : DataW.trod enc Try.prog W 0 sp true fuel 27 cs = some x) : ∃ (v : Value) (l : List ByteArray), cs = [v] ∧ ST 0 W v l ∧ SaneT l := by
  obtain ⟨v, l, h1, h2, h3, h4⟩ := openArr (E := StrAt) (S := fun s => s.size ≤ maxLen) Try.underlying27 (show Try.prog.cellsOf 9 = 1 by kernel_rfl) (by omega) (fun n cs y h hl => by
    obtain ⟨k, rfl, _, hk⟩ := DataW.trod_string Try.underlying9 h
    exact ⟨k, hk, fun b o hc => hc 0 _ rfl⟩) h
  exact ⟨v, l, h1, h2, h4, h3⟩
theorem openTs {a : Option Addr} {len cap : Nat} {d : DataW H} {p : List MemPlace} (h : DataW.Trod enc Try.prog W 0 sp true 27 (.slice a len cap) d p) : ∃ l : List ByteArray, l.length = len ∧ ST 0 W (.slice a l.length cap) l ∧ SaneT l := by
  obtain ⟨fuel, hf⟩ := h
  obtain ⟨v, l, e, ht, hs⟩ := openT hf
  obtain ⟨a', c', rfl⟩ := ht.form
  simp [Value.cells] at e
  obtain ⟨rfl, rfl, rfl⟩ := e
  exact ⟨l, rfl, ht, hs⟩
set_option maxRecDepth 100000 in
theorem openL {r : Reach} {b0 : Nat} {v : Value} {d : DataW H} {q : List MemPlace} (hv : Value.okWide Try.prog W r b0 38 v) (h : DataW.Trod enc Try.prog W 0 sp true 38 v d q) : ∃ (y1 y2 : Option Addr) (z1 z2 : Nat) (l1 l2 : List ByteArray), v = .agg #[.slice y1 l1.length z1, .slice y2 l2.length z2] ∧ ST 0 W (.slice y1 l1.length z1) l1 ∧ ST 0 W (.slice y2 l2.length z2) l2 ∧ SaneT l1 ∧ SaneT l2 := by
  obtain ⟨cs, rfl, hsz⟩ := okWide_struct Try.underlying38 hv
  have hC : Try.prog.cellsOf 38 = 2 := by kernel_rfl
  rw [hC] at hsz
  obtain ⟨fuel, hf⟩ := h
  obtain ⟨xs, k, hk, hxy, _, hxl, hff⟩ := DataW.trod_struct Try.underlying38 hf
  obtain ⟨y0, y1, rfl⟩ := two_ofL (l := xs) (by simpa using hxl)
  obtain ⟨cl⟩ := cs
  obtain ⟨v0, v1, rfl⟩ := two_ofL (l := cl) (by simpa using hsz)
  have c1 : Try.prog.cellsOf 27 = 1 := by kernel_rfl
  have g0 := hff 0 _ rfl
  have g1 := hff 1 _ rfl
  simp [c1, Value.cells] at g0 g1
  obtain ⟨va, la, e0, ha, hla⟩ := openT g0
  obtain ⟨vb, lb, e1, hb, hlb⟩ := openT g1
  simp at e0 e1
  subst e0 e1
  obtain ⟨a1, c1, rfl⟩ := ha.form
  obtain ⟨a2, c2, rfl⟩ := hb.form
  exact ⟨a1, a2, c1, c2, la, lb, rfl, ha, hb, hla, hlb⟩
end
end Pg
end Go.Proofs.Ytbachkjhmenhfaa
