/- A program that came in, opened. -/
import Derived.Test.YtbachkjhmenhfaaPg2
import Derived.Deep.SlicePairs
import Derived.WalkKit
import Derived.ProofKit
import Derived.OpenShut
namespace Go.Proofs.Ytbachkjhmenhfaa
namespace Pg
open Go.ChangeShapes Go.WideShapes Go.ChangeAt Go.RowKit St

instance : Inhabited Meth := ⟨⟨0, [], 0, []⟩⟩
instance : Inhabited Cls := ⟨⟨0, [], []⟩⟩
theorem openArr {H : Type} {enc : TypeId × Value → H} {W : World} {sp : Nat → Bool} {t e : TypeId} {size : Nat} {α : Type} [Inhabited α] {E : World → Nat → Nat → α → Prop} {S : α → Prop}
    (hu : Try.prog.underlying t = some (.slice e)) (hc : Try.prog.cellsOf e = size) (hpos : 0 < size)
    (elem : ∀ (n : Nat) (cs : List Value) (y : DataW H × List MemPlace), DataW.trod enc Try.prog W 0 sp true n e cs = some y → cs.length = size → ∃ x : α, S x ∧ ∀ b o, (∀ j u, cs[j]? = some u → W.cell? ⟨b, o + j, none⟩ = some u) → E W b o x)
    {fuel : Nat} {cs : List Value} {x : DataW H × List MemPlace} (h : DataW.trod enc Try.prog W 0 sp true fuel t cs = some x) :
    ∃ (v : Value) (l : List α), cs = [v] ∧ Arr E size false 0 W v l ∧ (∀ x ∈ l, S x) ∧ l.length ≤ 9223372036854775807 := by
  rcases Go.Deep.open_slice hu h with ⟨hcs, _⟩ | ⟨a, len, cap, m, n, D, Pl, hcs, _, hl, hm, hmm, _, hx⟩
  · exact ⟨_, [], hcs, ⟨none, 0, rfl, fun h => by simp at h, fun h => by simp at h⟩, fun x hx => by simp at hx, by simp⟩
  · have hlm : len ≤ m := by rw [hmm]; split <;> omega
    have each : ∀ i, i < len → ∃ x : α, (S x ∧ ∀ b o, a = ⟨b, o, none⟩ → E W b (o + i * size) x) ∧ ∃ u, W.cell? (a.add (i * size)) = some u := by
      intro i hi
      obtain ⟨cs', h1, h2⟩ := hx i (by omega)
      rw [hc] at h1
      obtain ⟨_, hlen, hcell⟩ := World.cells?_some h1
      obtain ⟨x, hs, hE⟩ := elem _ _ _ h2 hlen
      refine ⟨x, ⟨hs, fun b o ha => hE b (o + i * size) fun j u hj => ?_⟩, cs'[0]'(by omega), ?_⟩
      · obtain ⟨hjl, rfl⟩ := List.getElem?_eq_some_iff.1 hj
        have := hcell j (by omega)
        subst ha
        rw [Go.Deep.add_add, Go.WideShapes.add_plain] at this
        rw [Nat.add_assoc]
        rw [this]
        simp [hjl]
      · have := hcell 0 (by omega)
        rw [Go.Deep.add_add, Nat.add_zero] at this
        rw [this]
        have hl0 : 0 < cs'.length := by omega
        simp [hl0]
    obtain ⟨f, hq⟩ := Go.Deep.choose_lt each
    refine ⟨_, (List.range len).map f, hcs, ⟨some a, cap, by simp, fun _ h => by simp at h, fun h => ?_⟩, ?_, by simp; unfold maxLen at hm; omega⟩
    · have hp : 0 < len := by simpa using h
      obtain ⟨b, o, spot⟩ := a
      obtain ⟨u, hu0⟩ := (hq 0 hp).2
      have hspot : spot = none := by simpa [Addr.add] using World.cell?_spot hu0
      subst hspot
      refine ⟨b, o, rfl, Nat.zero_le _, ⟨by simpa [Addr.add] using cell_lt hu0, fun h => by simp at h⟩, fun j y hj => ?_⟩
      rw [List.getElem?_map] at hj
      by_cases hjl : j < len
      · rw [List.getElem?_range hjl] at hj
        simp at hj
        subst hj
        exact (hq j hjl).1.2 b o rfl
      · rw [List.getElem?_eq_none (by simp; omega)] at hj
        simp at hj
    · intro y hy
      obtain ⟨j, hj, rfl⟩ := List.mem_map.1 hy
      exact (hq j (List.mem_range.1 hj)).1.1

theorem one_of {α : Type} {l : List α} (h : l.length = 1) : ∃ x, l = [x] := by
  match l, h with
  | [x], _ => exact ⟨x, rfl⟩
theorem three_of {α : Type} {l : List α} (h : l.length = 3) : ∃ x y z, l = [x, y, z] := by
  match l, h with
  | [x, y, z], _ => exact ⟨x, y, z, rfl⟩
theorem four_of {α : Type} {l : List α} (h : l.length = 4) : ∃ x y z t, l = [x, y, z, t] := by
  match l, h with
  | [x, y, z, t], _ => exact ⟨x, y, z, t, rfl⟩

section
variable {H : Type} {enc : TypeId × Value → H} {W : World} {sp : Nat → Bool} {fuel : Nat} {cs : List Value} {x : DataW H × List MemPlace}
theorem openI (h : DataW.trod enc Try.prog W 0 sp true fuel 32 cs = some x) : ∃ (v : Value) (l : List Int), cs = [v] ∧ SI false 0 W v l ∧ (∀ x ∈ l, True) ∧ l.length ≤ 9223372036854775807 :=
  openArr (E := IntAt) (S := fun _ => True) Try.underlying32 (show Try.prog.cellsOf 2 = 1 by kernel_rfl) (by omega) (fun n cs y h hl => by
    obtain ⟨k, rfl, _, _⟩ := DataW.trod_int Try.underlying2 h
    exact ⟨k, trivial, fun b o hc => hc 0 _ rfl⟩) h
end
end Pg
end Go.Proofs.Ytbachkjhmenhfaa
