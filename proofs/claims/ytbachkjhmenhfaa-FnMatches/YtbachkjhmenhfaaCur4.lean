/- The contracts of the drawn words and of the drawn numbers. -/
import Derived.Test.YtbachkjhmenhfaaCur3
namespace Go.Proofs.Ytbachkjhmenhfaa
namespace Cu
open Go.ChangeShapes Go.WideShapes Go.ChangeAt Go.RowKit

theorem drawWord_row {w w2 : World} {c : Nat} {t : TypeId} (r : Int) (h0 : 0 ≤ r) (h1 : r < 8) (hc : c < w.heap.size)
    (ht : Touch c (w.alloc (.cells #[.int .i64 2147483647, .int .i64 (-2147483648), .int .i64 0, .int .i64 1, .int .i64 (-1), .int .i64 128, .int .i64 (-129), .int .i64 65536] t)) w2) :
    ∃ v : Int, w2.cell? ⟨w.heap.size, r.toNat, none⟩ = some (.int .i64 v) ∧ -2147483648 ≤ v ∧ v ≤ 2147483647 := by
  obtain ⟨k, rfl⟩ := Int.eq_ofNat_of_zero_le h0
  rw [Int.toNat_natCast, ht.cell (p := ⟨w.heap.size, k, none⟩) (by simp) (by simp; omega)]
  have hk : k = 0 ∨ k = 1 ∨ k = 2 ∨ k = 3 ∨ k = 4 ∨ k = 5 ∨ k = 6 ∨ k = 7 := by omega
  rcases hk with rfl | rfl | rfl | rfl | rfl | rfl | rfl | rfl
  all_goals exact ⟨_, by simp [go_sem]; rfl, by omega, by omega⟩

end Cu
end Go.Proofs.Ytbachkjhmenhfaa
