/- A row of numbers that came in, opened. -/
import Derived.Test.YtoeahpoibnddfabIRow0
import Derived.WalkKit
import Derived.ProofKit
import Derived.OpenShut
namespace Go.Proofs.Ytoeahpoibnddfab
namespace St
open Go.ChangeShapes Go.WideShapes Go.ChangeAt Go.RowKit

theorem openInts {H : Type} {enc : TypeId × Value → H} {W : World} {sp : Nat → Bool} {a : Option Addr} {len cap : Nat} {d : DataW H} {p : List MemPlace}
    (h0 : DataW.Trod enc Try.prog W 0 sp true 23 (.slice a len cap) d p) :
    ∃ l : List Int, l.length = len ∧ (0 < l.length → ∃ b o, a = some ⟨b, o, none⟩ ∧ IRow W b o l) ∧ len ≤ maxLen := by
  obtain ⟨fuel, hf⟩ := h0
  rcases open_ints Try.underlying23 Try.underlying2 (by kernel_rfl) hf with ⟨hcs, _⟩ | ⟨x, l, c, zs, hcs, _, hl, hm, hz, _, hcell, hwz⟩
  · simp [Value.cells] at hcs
    obtain ⟨rfl, rfl, rfl⟩ := hcs
    exact ⟨[], rfl, fun h => by simp at h, by unfold maxLen; omega⟩
  · simp [Value.cells] at hcs
    obtain ⟨rfl, rfl, rfl⟩ := hcs
    have hzl : len ≤ zs.length := by
      rw [hz]
      split <;> omega
    refine ⟨zs.take len, by rw [List.length_take]; omega, fun h => ?_, by omega⟩
    have hpos : 0 < zs.length := by rw [List.length_take] at h; omega
    obtain ⟨b, o, spot⟩ := x
    have h00 := hcell 0 hpos
    have hspot : spot = none := by simpa [Addr.add] using World.cell?_spot h00
    subst hspot
    refine ⟨b, o, rfl, fun j y hj => ?_⟩
    rw [List.getElem?_take] at hj
    split at hj
    · obtain ⟨hjl, rfl⟩ := List.getElem?_eq_some_iff.1 hj
      have := hcell j hjl
      simp only [Go.WideShapes.add_plain] at this
      rw [this]
      simp [hjl]
    · simp at hj
end St
end Go.Proofs.Ytoeahpoibnddfab
