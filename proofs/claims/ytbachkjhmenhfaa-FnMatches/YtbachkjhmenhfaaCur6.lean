/- The contract of the laws' own choice of a number. -/
import Derived.Test.YtbachkjhmenhfaaCur5
import Derived.OpenShut
namespace Go.Proofs.Ytbachkjhmenhfaa
namespace Cu
open Go.ChangeShapes Go.WideShapes Go.ChangeAt Go.RowKit

theorem cell_lt {w : World} {p : Addr} {v : Value} (h : w.cell? p = some v) : p.block < w.heap.size := by
  refine Nat.lt_of_not_le fun hn => ?_
  have hnone : w.heap[p.block]? = none := Array.getElem?_eq_none hn
  simp [World.cell?, hnone] at h

/-- A row of bytes that came in, of at most 4096 cells. -/
theorem bytes_of {w : World} {x : Addr} {len cap : Nat} {zs : List Int} (hl : len ≤ cap) (hz : zs.length = cap)
    (hcell : ∀ i, i < zs.length → w.cell? (x.add i) = some (.int .u8 (zs.getD i 0))) (hwz : ∀ n ∈ zs, (Lit.int .u8 n).wf = true) (h4 : len ≤ 4096) :
    Bytes w.heap.size w (some x) len := by
  refine ⟨h4, fun j hj => ?_⟩
  obtain ⟨b, off, spot⟩ := x
  have hc := hcell j (by omega)
  have hspot : spot = none := by simpa [Addr.add] using World.cell?_spot (hcell 0 (by omega))
  subst hspot
  have hc0 : w.cell? ⟨b, off + j, none⟩ = some (.int .u8 (zs.getD j 0)) := by
    rw [← hc]
    by_cases h0 : j = 0 <;> simp [Addr.add, h0]
  have hm : (Lit.int .u8 (zs.getD j 0)).wf = true := by
    refine hwz _ ?_
    have hj' : j < zs.length := by omega
    have e : zs.getD j 0 = zs[j] := by simp [hj']
    rw [e]
    exact List.getElem_mem _
  have hbd := bounds_u8 hm
  exact ⟨b, off, zs.getD j 0, rfl, cell_lt hc0, hc0, hbd.1, hbd.2⟩

end Cu
end Go.Proofs.Ytbachkjhmenhfaa
