/- Contracts: the program's DeadStores and Unstored. -/
import Derived.Test.YtlbjnlkeagmpoaaDe0
import Derived.Test.YtlbjnlkeagmpoaaFo3
import Derived.Deep.Cut
namespace Go.Proofs.Ytlbjnlkeagmpoaa
namespace Pg
open Go.ChangeShapes Go.WideShapes Go.ChangeAt Go.RowKit St

theorem outF_congr {code : List Tx.Ins} {k v : Nat} {A B : Lvs} (h : ∀ j, j < code.length → A j v = B j v) : outF code k A v = outF code k B v := by
  have h1 := outF_mono (code := code) (k := k) (A := A) (B := B) (v := v) (fun j hj e => by rw [← h j hj]; exact e)
  have h2 := outF_mono (code := code) (k := k) (A := B) (B := A) (v := v) (fun j hj e => by rw [h j hj]; exact e)
  cases ha : outF code k A v <;> cases hb : outF code k B v
  · rfl
  · rw [h2 hb] at ha; simp at ha
  · rw [h1 ha] at hb; simp at hb
  · rfl
theorem irow_far {w : World} {b g o : Nat} {l : List Int} (h : IRow w g o l) (i : Nat) (v : Value) (hn : b ≠ g) : IRow (w.setCell ⟨b, i, none⟩ v) g o l := fun j x hj => (World.cell?_setCell_other _ _ _ _ (fun e => hn (by injection e))).trans (h j x hj)
theorem set_oneD {B : Nat} {u w : World} {g k n : Nat} {l : List Tx.Ins} (hn : l.length = n) (hroom : Room w g (n * 3)) (hr : Row w g 0 l) (hb : Below B u w) (hB : B ≤ g) (x : Tx.Ins) :
    Row (((w.setCell ⟨g, k * 3, none⟩ (.int .i64 x.1)).setCell ⟨g, k * 3 + 1, none⟩ (.int .i64 x.2.1)).setCell ⟨g, k * 3 + 2, none⟩ (.int .i64 x.2.2)) g 0 (l.set k x) ∧
      Room (((w.setCell ⟨g, k * 3, none⟩ (.int .i64 x.1)).setCell ⟨g, k * 3 + 1, none⟩ (.int .i64 x.2.1)).setCell ⟨g, k * 3 + 2, none⟩ (.int .i64 x.2.2)) g (n * 3) ∧
      Below B u (((w.setCell ⟨g, k * 3, none⟩ (.int .i64 x.1)).setCell ⟨g, k * 3 + 1, none⟩ (.int .i64 x.2.1)).setCell ⟨g, k * 3 + 2, none⟩ (.int .i64 x.2.2)) := by
  subst hn
  exact ⟨row_set3 hroom hr x, room_setC (room_setC (room_setC hroom _ _) _ _) _ _, ((hb.setCell hB _).setCell hB _).setCell hB _⟩
theorem dead_step {code : List Tx.Ins} {k : Nat} {b : Bool} (hb : b = deadB code k) (j : Nat) : (decide (j < k + 1) && deadB code j) = if j = k then b else (decide (j < k) && deadB code j) := by
  by_cases e : j = k
  · subst e; simp [hb]
  · rw [if_neg e, show decide (j < k + 1) = decide (j < k) from by by_cases h : j < k <;> simp [h] <;> omega]
end Pg
end Go.Proofs.Ytlbjnlkeagmpoaa
