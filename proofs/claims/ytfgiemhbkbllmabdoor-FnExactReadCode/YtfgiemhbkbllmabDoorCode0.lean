/- Contracts under the showing of code: rows of steps; whether all are right. -/
import Derived.Test.YtfgiemhbkbllmabDoorShow4
import Derived.Test.YtfgiemhbkbllmabDoorRead0
namespace Go.Proofs.YtfgiemhbkbllmabDoor
namespace St
open Go.ChangeShapes Go.WideShapes Go.ChangeAt Go.RowKit

/-- The steps l lie in block g from place o on. -/
def Row (w : World) (g o : Nat) (l : List Tx.Ins) : Prop := ∀ j x, l[j]? = some x →
  w.cell? ⟨g, o + j * 3, none⟩ = some (.int .i64 x.1) ∧ w.cell? ⟨g, o + j * 3 + 1, none⟩ = some (.int .i64 x.2.1) ∧ w.cell? ⟨g, o + j * 3 + 2, none⟩ = some (.int .i64 x.2.2)
theorem Row.on {u v : World} {g o : Nat} {l : List Tx.Ins} (h : Row u g o l) (hb : Below u.heap.size u v) : Row v g o l := by
  intro j x hj
  obtain ⟨h0, h1, h2⟩ := h j x hj
  have l0 : g < u.heap.size := cell_lt h0
  exact ⟨(hb.cell l0).trans h0, (hb.cell l0).trans h1, (hb.cell l0).trans h2⟩
theorem Row.below {B : Nat} {u v : World} {g o : Nat} {l : List Tx.Ins} (h : Row u g o l) (hb : Below B u v) (hg : g < B) : Row v g o l := by
  intro j x hj
  obtain ⟨h0, h1, h2⟩ := h j x hj
  exact ⟨(hb.cell hg).trans h0, (hb.cell hg).trans h1, (hb.cell hg).trans h2⟩

theorem all_take {l : List Tx.Ins} {k : Nat} (hk : k < l.length) (h : (l.take k).all Tx.okT = true) (hx : Tx.okT l[k] = true) : (l.take (k + 1)).all Tx.okT = true := by
  rw [List.take_succ_eq_append_getElem hk, List.all_append, h]; simp [hx]

theorem join_snoc (p : List (List UInt8)) (x : List UInt8) (h : p ≠ []) : Lib.join (p ++ [x]) [32] = Lib.join p [32] ++ 32 :: x := by
  induction p with
  | nil => exact absurd rfl h
  | cons y r ih =>
    cases r with
    | nil => simp [Lib.join, List.intercalate]
    | cons z r =>
      have := ih (by simp)
      have e : ∀ q : List (List UInt8), Lib.join (y :: z :: q) [32] = y ++ 32 :: Lib.join (z :: q) [32] := by
        intro q; simp [Lib.join, List.intercalate]
      rw [List.cons_append, List.cons_append, e, e]
      rw [List.cons_append] at this
      rw [this]; simp
theorem showC_snoc {l : List Tx.Ins} {k : Nat} (hk : k < l.length) (h0 : 0 < k) : Tx.showC (l.take (k + 1)) = Tx.showC (l.take k) ++ 32 :: Tx.showT l[k] := by
  unfold Tx.showC
  rw [List.take_succ_eq_append_getElem hk, List.map_append, List.map_singleton, join_snoc _ _ (by
    intro e
    have := congrArg List.length e
    rw [List.length_map, List.length_take, List.length_nil] at this
    omega)]
theorem showC_one {l : List Tx.Ins} (hk : 0 < l.length) : Tx.showC (l.take 1) = Tx.showT l[0] := by
  unfold Tx.showC
  rw [List.take_succ_eq_append_getElem hk, List.take_zero, List.nil_append, List.map_singleton, Lib.join_one]
theorem showC_len (l : List Tx.Ins) (h : l.all Tx.okT = true) : (Tx.showC l).length ≤ 13 * l.length := by
  cases l with
  | nil => simp [Tx.showC, Lib.join]
  | cons i l =>
    have h1 := Tx.splitC_join (i :: l) h (by simp)
    have h2 := Tx.splitC_total 32 (Tx.showC (i :: l))
    rw [h1] at h2
    have := Tx.sum_le (i :: l) h
    omega

end St
end Go.Proofs.YtfgiemhbkbllmabDoor
