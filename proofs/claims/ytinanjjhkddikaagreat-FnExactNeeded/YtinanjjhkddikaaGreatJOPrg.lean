/- A program that came in, opened. -/
import Derived.Test.YtinanjjhkddikaaGreatJPg2
import Derived.Deep.SlicePairs
import Derived.WalkKit
import Derived.ProofKit
import Derived.OpenShut
namespace Go.Proofs.YtinanjjhkddikaaGreat
namespace Pg
open Go.ChangeShapes Go.WideShapes Go.ChangeAt Go.RowKit St

instance : Inhabited Meth := ⟨⟨0, [], 0, []⟩⟩
instance : Inhabited Cls := ⟨⟨0, [], []⟩⟩
theorem openArr {H : Type} {enc : TypeId × Value → H} {W : World} {sp : Nat → Bool} {t e : TypeId} {size : Nat} {α : Type} [Inhabited α] {E : World → Nat → Nat → α → Prop} {S : α → Prop}
    (hu : Tryz.prog.underlying t = some (.slice e)) (hc : Tryz.prog.cellsOf e = size) (hpos : 0 < size)
    (elem : ∀ (n : Nat) (cs : List Value) (y : DataW H × List MemPlace), DataW.trod enc Tryz.prog W 0 sp true n e cs = some y → cs.length = size → ∃ x : α, S x ∧ ∀ b o, (∀ j u, cs[j]? = some u → W.cell? ⟨b, o + j, none⟩ = some u) → E W b o x)
    {fuel : Nat} {cs : List Value} {x : DataW H × List MemPlace} (h : DataW.trod enc Tryz.prog W 0 sp true fuel t cs = some x) :
    ∃ (v : Value) (l : List α), cs = [v] ∧ Arr E size false 0 W v l ∧ (∀ x ∈ l, S x) ∧ l.length ≤ 9223372036854775807 := by
  rcases Go.Deep.open_slice hu h with ⟨hcs, _⟩ | ⟨a, len, cap, m, n, D, Pl, hcs, _, hl, hm, hmm, _, hx⟩
  · exact ⟨_, [], hcs, ⟨none, 0, rfl, fun h => by simp at h, fun h => by simp at h⟩, fun x hx => by simp at hx, by simp⟩
  · have hlm : len ≤ m := by rw [hmm]; split <;> omega
    have each : ∀ i, i < len → ∃ x : α, (S x ∧ ∀ b o, a = ⟨b, o, none⟩ → E W b (o + i * size) x) ∧ ∃ u, W.cell? (a.add (i * size)) = some u := by
      intro i hi
      obtain ⟨cs', h1, h2⟩ := hx i (by omega)
      rw [hc] at h1
      obtain ⟨_, hlen, hcell⟩ := World.cells?_some h1
      obtain ⟨x, hs, hE⟩ := elem _ _ _ h2 hlen
      refine ⟨x, ⟨hs, fun b o ha => hE b (o + i * size) fun j u hj => ?_⟩, cs'[0]'(by omega), ?_⟩
      · obtain ⟨hjl, rfl⟩ := List.getElem?_eq_some_iff.1 hj
        have := hcell j (by omega)
        subst ha
        rw [Go.Deep.add_add, Go.WideShapes.add_plain] at this
        rw [Nat.add_assoc]
        rw [this]
        simp [hjl]
      · have := hcell 0 (by omega)
        rw [Go.Deep.add_add, Nat.add_zero] at this
        rw [this]
        have hl0 : 0 < cs'.length := by omega
        simp [hl0]
    obtain ⟨f, hq⟩ := Go.Deep.choose_lt each
    refine ⟨_, (List.range len).map f, hcs, ⟨some a, cap, by simp, fun _ h => by simp at h, fun h => ?_⟩, ?_, by simp; unfold maxLen at hm; omega⟩
    · have hp : 0 < len := by simpa using h
      obtain ⟨b, o, spot⟩ := a
      obtain ⟨u, hu0⟩ := (hq 0 hp).2
      have hspot : spot = none := by simpa [Addr.add] using World.cell?_spot hu0
      subst hspot
      refine ⟨b, o, rfl, Nat.zero_le _, ⟨by simpa [Addr.add] using cell_lt hu0, fun h => by simp at h⟩, fun j y hj => ?_⟩
      rw [List.getElem?_map] at hj
      by_cases hjl : j < len
      · rw [List.getElem?_range hjl] at hj
        simp at hj
        subst hj
        exact (hq j hjl).1.2 b o rfl
      · rw [List.getElem?_eq_none (by simp; omega)] at hj
        simp at hj
    · intro y hy
      obtain ⟨j, hj, rfl⟩ := List.mem_map.1 hy
      exact (hq j (List.mem_range.1 hj)).1.1

theorem one_of {α : Type} {l : List α} (h : l.length = 1) : ∃ x, l = [x] := by
  match l, h with
  | [x], _ => exact ⟨x, rfl⟩
theorem three_of {α : Type} {l : List α} (h : l.length = 3) : ∃ x y z, l = [x, y, z] := by
  match l, h with
  | [x, y, z], _ => exact ⟨x, y, z, rfl⟩
theorem four_of {α : Type} {l : List α} (h : l.length = 4) : ∃ x y z t, l = [x, y, z, t] := by
  match l, h with
  | [x, y, z, t], _ => exact ⟨x, y, z, t, rfl⟩

section
variable {H : Type} {enc : TypeId × Value → H} {W : World} {sp : Nat → Bool} {fuel : Nat} {cs : List Value} {x : DataW H × List MemPlace}
theorem openI (h : DataW.trod enc Tryz.prog W 0 sp true fuel 26 cs = some x) : ∃ (v : Value) (l : List Int), cs = [v] ∧ SI false 0 W v l ∧ (∀ x ∈ l, True) ∧ l.length ≤ 9223372036854775807 :=
  openArr (E := IntAt) (S := fun _ => True) Tryz.underlying26 (show Tryz.prog.cellsOf 2 = 1 by kernel_rfl) (by omega) (fun n cs y h hl => by
    obtain ⟨k, rfl, _, _⟩ := DataW.trod_int Tryz.underlying2 h
    exact ⟨k, trivial, fun b o hc => hc 0 _ rfl⟩) h
theorem openC (h : DataW.trod enc Tryz.prog W 0 sp true fuel 120 cs = some x) : ∃ (v : Value) (l : List Tx.Ins), cs = [v] ∧ SC 0 W v l ∧ (∀ x ∈ l, True) ∧ l.length ≤ 9223372036854775807 :=
  openArr (E := InsAt) (S := fun _ => True) Tryz.underlying120 (show Tryz.prog.cellsOf 145 = 3 by kernel_rfl) (by omega) (fun n cs y h hl => by
    obtain ⟨xs, k, hk, hxy, _, hxl, hff⟩ := DataW.trod_struct Tryz.underlying145 h
    obtain ⟨y0, y1, y2, rfl⟩ := three_of (l := xs) (by simpa using hxl)
    obtain ⟨v0, v1, v2, rfl⟩ := three_of hl
    have c1 : Tryz.prog.cellsOf 2 = 1 := by kernel_rfl
    have g0 := hff 0 _ rfl
    have g1 := hff 1 _ rfl
    have g2 := hff 2 _ rfl
    simp [c1] at g0 g1 g2
    obtain ⟨n0, e0, _, _⟩ := DataW.trod_int Tryz.underlying2 g0
    obtain ⟨n1, e1, _, _⟩ := DataW.trod_int Tryz.underlying2 g1
    obtain ⟨n2, e2, _, _⟩ := DataW.trod_int Tryz.underlying2 g2
    simp at e0 e1 e2
    subst e0 e1 e2
    exact ⟨(n0, n1, n2), trivial, fun b o hc => ⟨hc 0 _ rfl, hc 1 _ rfl, hc 2 _ rfl⟩⟩) h
theorem openM (h : DataW.trod enc Tryz.prog W 0 sp true fuel 65 cs = some x) : ∃ (v : Value) (l : List Meth), cs = [v] ∧ SM wide 0 W v l ∧ (∀ x ∈ l, SaneM x) ∧ l.length ≤ 9223372036854775807 :=
  openArr (E := MAt wide 0) (S := SaneM) Tryz.underlying65 (show Tryz.prog.cellsOf 122 = 4 by kernel_rfl) (by omega) (fun n cs y h hl => by
    obtain ⟨xs, k, hk, hxy, _, hxl, hff⟩ := DataW.trod_struct Tryz.underlying122 h
    obtain ⟨y0, y1, y2, y3, rfl⟩ := four_of (l := xs) (by simpa using hxl)
    obtain ⟨v0, v1, v2, v3, rfl⟩ := four_of hl
    have c1 : Tryz.prog.cellsOf 2 = 1 := by kernel_rfl
    have c2 : Tryz.prog.cellsOf 26 = 1 := by kernel_rfl
    have c3 : Tryz.prog.cellsOf 120 = 1 := by kernel_rfl
    have g0 := hff 0 _ rfl
    have g1 := hff 1 _ rfl
    have g2 := hff 2 _ rfl
    have g3 := hff 3 _ rfl
    simp [c1, c2, c3] at g0 g1 g2 g3
    obtain ⟨n0, e0, _, _⟩ := DataW.trod_int Tryz.underlying2 g0
    obtain ⟨va, la, e1, ha, _, hla⟩ := openI g1
    obtain ⟨n2, e2, _, _⟩ := DataW.trod_int Tryz.underlying2 g2
    obtain ⟨vc, lc, e3, hc, _, hlc⟩ := openC g3
    simp at e0 e1 e2 e3
    subst e0 e1 e2 e3
    exact ⟨⟨n0, la, n2, lc⟩, ⟨hla, hlc⟩, fun b o hcell => ⟨_, _, hcell 0 _ rfl, hcell 1 _ rfl, hcell 2 _ rfl, hcell 3 _ rfl, ha, hc⟩⟩) h
theorem openK (h : DataW.trod enc Tryz.prog W 0 sp true fuel 22 cs = some x) : ∃ (v : Value) (l : Prg), cs = [v] ∧ SK wide 0 W v l ∧ (∀ x ∈ l, SaneC x) ∧ l.length ≤ 9223372036854775807 :=
  openArr (E := CAt wide 0) (S := SaneC) Tryz.underlying22 (show Tryz.prog.cellsOf 67 = 3 by kernel_rfl) (by omega) (fun n cs y h hl => by
    obtain ⟨xs, k, hk, hxy, _, hxl, hff⟩ := DataW.trod_struct Tryz.underlying67 h
    obtain ⟨y0, y1, y2, rfl⟩ := three_of (l := xs) (by simpa using hxl)
    obtain ⟨v0, v1, v2, rfl⟩ := three_of hl
    have c1 : Tryz.prog.cellsOf 2 = 1 := by kernel_rfl
    have c2 : Tryz.prog.cellsOf 26 = 1 := by kernel_rfl
    have c3 : Tryz.prog.cellsOf 65 = 1 := by kernel_rfl
    have g0 := hff 0 _ rfl
    have g1 := hff 1 _ rfl
    have g2 := hff 2 _ rfl
    simp [c1, c2, c3] at g0 g1 g2
    obtain ⟨n0, e0, _, _⟩ := DataW.trod_int Tryz.underlying2 g0
    obtain ⟨va, la, e1, ha, _, hla⟩ := openI g1
    obtain ⟨vm, lm, e2, hm, hsm, hlm⟩ := openM g2
    simp at e0 e1 e2
    subst e0 e1 e2
    exact ⟨⟨n0, la, lm⟩, ⟨hla, hlm, hsm⟩, fun b o hcell => ⟨_, _, hcell 0 _ rfl, hcell 1 _ rfl, hcell 2 _ rfl, ha, hm⟩⟩) h
set_option maxRecDepth 100000 in
theorem openP {r : Reach} {b0 : Nat} {v : Value} {d : DataW H} {q : List MemPlace} (hv : Value.okWide Tryz.prog W r b0 24 v) (h : DataW.Trod enc Tryz.prog W 0 sp true 24 v d q) : ∃ (a : Option Addr) (cap : Nat) (l : Prg), v = .agg #[.slice a l.length cap] ∧ SK wide 0 W (.slice a l.length cap) l ∧ SaneP l := by
  obtain ⟨cs, rfl, hsz⟩ := okWide_struct Tryz.underlying24 hv
  have hC : Tryz.prog.cellsOf 24 = 1 := by kernel_rfl
  rw [hC] at hsz
  obtain ⟨fuel, hf⟩ := h
  obtain ⟨y0, n, _, _, hy⟩ := trod_struct1 Tryz.underlying24 hf
  have c1 : Tryz.prog.cellsOf 22 = 1 := by kernel_rfl
  obtain ⟨cl⟩ := cs
  obtain ⟨v0, rfl⟩ := one_of (l := cl) (by simpa using hsz)
  simp [c1, Value.cells] at hy
  obtain ⟨v, l, e, hk, hs, hl⟩ := openK hy
  simp at e
  subst e
  obtain ⟨a, cap, rfl⟩ := hk.form
  exact ⟨a, cap, l, rfl, hk, hl, hs⟩
end
end Pg
end Go.Proofs.YtinanjjhkddikaaGreat
