/- The contract of the other side's cutting of a text at a byte: the walk. -/
import Derived.Test.YtkjoljcgbjodlaaDoorSp0
namespace Go.Proofs.YtkjoljcgbjodlaaDoor
namespace St
open Go.ChangeShapes Go.WideShapes Go.ChangeAt Go.RowKit

theorem infoS : (Tryd.prog.info? 9).map (fun i => (i.zero, i.size, i.bytes)) = some (some (.string ByteArray.empty), 1, 16) := by kernel_rfl

/-- Where the loop stands at place k. -/
def SpSt (s : ByteArray) (c : UInt8) (B k m : Nat) (v : Value) (wr : World) : Prop :=
  (k ≤ s.size ∧ m = k - (spF c (s.data.toList.take k)).2.length ∧ wr.ownsRow B 9 1 v (spF c (s.data.toList.take k)).1.length (strs (spF c (s.data.toList.take k)).1)) ∨
  (k = s.size + 1 ∧ wr.ownsRow B 9 1 v (Tx.splitC c s.data.toList).length (strs (Tx.splitC c s.data.toList)))

theorem take_snoc (s : ByteArray) (k : Nat) (h : k < s.size) : s.data.toList.take (k + 1) = s.data.toList.take k ++ [s[k]] := by
  rw [List.take_succ_eq_append_getElem (by simpa using h)]; rfl

/-- The piece that is cut out. -/
theorem piece_eq (s : ByteArray) (c : UInt8) (k : Nat) (hk : k ≤ s.size) : s.extract (k - (spF c (s.data.toList.take k)).2.length) k = ⟨(spF c (s.data.toList.take k)).2.toArray⟩ := by
  apply str_eq
  rw [Lib.extract_data]
  have hl : (s.data.toList.take k).length = k := by rw [List.length_take]; have : s.data.toList.length = s.size := by simp
                                                    omega
  have h := spF_end c (s.data.toList.take k)
  rw [hl] at h
  show _ = (spF c (s.data.toList.take k)).2
  conv => rhs; rw [h]
  rw [List.drop_take]

theorem owned {w : World} {B : Nat} {e : TypeId} {v : Value} {n : Nat} {xs : List Value} (h : w.ownsRow B e 1 v n xs) (hn : 1 ≤ n) :
    ∃ g cap, v = .slice (some ⟨g, 0, none⟩) n cap ∧ B ≤ g ∧ g < w.heap.size ∧ n ≤ cap ∧ ∀ j u, xs[j]? = some u → w.cell? ⟨g, j, none⟩ = some u := by
  have hc := @World.ownsRow.cells w B e 1 v n xs h
  have hl := @World.ownsRow.lt w B e 1 v n xs h
  obtain ⟨_, h | ⟨g, cap, cur, rfl, hB, _, hcap, _⟩⟩ := h
  · omega
  · refine ⟨g, cap, rfl, hB, (hl g rfl).2, hcap, fun j u hu => ?_⟩
    have := hc (g := g) rfl j u hu
    have e : (⟨g, 0, none⟩ : Addr).add j = ⟨g, j, none⟩ := by
      by_cases h0 : j = 0 <;> simp [Addr.add, h0]
    rw [e] at this; exact this

end St
end Go.Proofs.YtkjoljcgbjodlaaDoor
