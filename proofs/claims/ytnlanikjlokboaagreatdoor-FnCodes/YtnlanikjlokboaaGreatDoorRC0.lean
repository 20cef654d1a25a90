/- Plain facts under the reading of code, and rows of steps that the call owns. -/
import Derived.Test.YtnlanikjlokboaaGreatDoorGot0
import Derived.Test.YtnlanikjlokboaaGreatDoorCode2
import Derived.Test.YtnlanikjlokboaaGreatDoorSRead
namespace Go.Proofs.YtnlanikjlokboaaGreatDoor
namespace St
open Go.ChangeShapes Go.WideShapes Go.ChangeAt Go.RowKit

theorem allRead_snoc (p : List (List UInt8)) (x : List UInt8) : Tx.allRead (p ++ [x]) = match Tx.allRead p with | none => none | some l => match Tx.readI x with | none => none | some i => some (l ++ [i]) := by
  induction p with
  | nil =>
    rw [List.nil_append, Tx.allRead_cons]
    cases Tx.readI x <;> rfl
  | cons y p ih =>
    rw [List.cons_append, Tx.allRead_cons, Tx.allRead_cons, ih]
    cases Tx.readI y with
    | none => rfl
    | some i =>
      cases Tx.allRead p with
      | none => rfl
      | some l => cases Tx.readI x <;> rfl
theorem allRead_none {p : List (List UInt8)} {k : Nat} (hk : k < p.length) (h : Tx.readI p[k] = none) : Tx.allRead p = none := by
  cases ha : Tx.allRead p with
  | none => rfl
  | some l =>
    obtain ⟨rfl, hall⟩ := Tx.allRead_sound ha
    rw [List.getElem_map] at h
    have hl : k < l.length := by simpa using hk
    have hx := List.all_eq_true.1 hall l[k] (List.getElem_mem hl)
    have : Tx.readI (Tx.showT l[k]) = some l[k] := Tx.readI_show hx
    rw [this] at h; simp at h
theorem allRead_len {p : List (List UInt8)} {l : List Tx.Ins} (h : Tx.allRead p = some l) : l.length = p.length := by
  obtain ⟨rfl, _⟩ := Tx.allRead_sound h; simp
theorem readC_pieces {s : List UInt8} (hne : s ≠ []) : Tx.readC s = if (Tx.piecesI s).length > 40 then none else Tx.allRead (Tx.piecesI s) := by
  unfold Tx.readC
  rw [if_neg hne]
  by_cases h : (Tx.splitC 32 s).length ≤ 40
  · rw [Tx.pieces_few h]
  · rw [if_pos (by omega), if_pos (by rw [Tx.pieces_many (by omega)]; omega)]

def insL (r : Option (List Tx.Ins)) : List Tx.Ins := match r with | none => [] | some l => l
end St
end Go.Proofs.YtnlanikjlokboaaGreatDoor
