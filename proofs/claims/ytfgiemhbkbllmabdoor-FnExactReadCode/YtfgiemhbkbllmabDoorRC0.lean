/- Plain facts under the reading of code, and rows of steps that the call owns. -/
import Derived.Test.YtfgiemhbkbllmabDoorCode2
import Derived.Test.YtfgiemhbkbllmabDoorSRead
namespace Go.Proofs.YtfgiemhbkbllmabDoor
namespace St
open Go.ChangeShapes Go.WideShapes Go.ChangeAt Go.RowKit

theorem allRead_snoc (p : List (List UInt8)) (x : List UInt8) : Tx.allRead (p ++ [x]) = match Tx.allRead p with | none => none | some l => match Tx.readI x with | none => none | some i => some (l ++ [i]) := by
  induction p with
  | nil =>
    rw [List.nil_append, Tx.allRead_cons]
    cases Tx.readI x <;> rfl
  | cons y p ih =>
    rw [List.cons_append, Tx.allRead_cons, Tx.allRead_cons, ih]
    cases Tx.readI y with
    | none => rfl
    | some i =>
      cases Tx.allRead p with
      | none => rfl
      | some l => cases Tx.readI x <;> rfl
theorem allRead_none {p : List (List UInt8)} {k : Nat} (hk : k < p.length) (h : Tx.readI p[k] = none) : Tx.allRead p = none := by
  cases ha : Tx.allRead p with
  | none => rfl
  | some l =>
    obtain ⟨rfl, hall⟩ := Tx.allRead_sound ha
    rw [List.getElem_map] at h
    have hl : k < l.length := by simpa using hk
    have hx := List.all_eq_true.1 hall l[k] (List.getElem_mem hl)
    have : Tx.readI (Tx.showT l[k]) = some l[k] := Tx.readI_show hx
    rw [this] at h; simp at h
theorem allRead_len {p : List (List UInt8)} {l : List Tx.Ins} (h : Tx.allRead p = some l) : l.length = p.length := by
  obtain ⟨rfl, _⟩ := Tx.allRead_sound h; simp
theorem readC_pieces {s : List UInt8} (hne : s ≠ []) : Tx.readC s = if (Tx.piecesI s).length > 40 then none else Tx.allRead (Tx.piecesI s) := by
  unfold Tx.readC
  rw [if_neg hne]
  by_cases h : (Tx.splitC 32 s).length ≤ 40
  · rw [Tx.pieces_few h]
  · rw [if_pos (by omega), if_pos (by rw [Tx.pieces_many (by omega)]; omega)]

/-- The cells of steps, one behind the other. -/
def flat (l : List Tx.Ins) : List Value := l.flatMap fun x => [.int .i64 x.1, .int .i64 x.2.1, .int .i64 x.2.2]
theorem flat_snoc (l : List Tx.Ins) (x : Tx.Ins) : flat (l ++ [x]) = flat l ++ [.int .i64 x.1, .int .i64 x.2.1, .int .i64 x.2.2] := by simp [flat]
theorem flat_at (l : List Tx.Ins) : ∀ (j : Nat) (x : Tx.Ins), l[j]? = some x → (flat l)[j * 3]? = some (.int .i64 x.1) ∧ (flat l)[j * 3 + 1]? = some (.int .i64 x.2.1) ∧ (flat l)[j * 3 + 2]? = some (.int .i64 x.2.2) := by
  induction l with
  | nil => intro j x h; simp at h
  | cons y l ih =>
    intro j x h
    have e : flat (y :: l) = .int .i64 y.1 :: .int .i64 y.2.1 :: .int .i64 y.2.2 :: flat l := by simp [flat]
    rw [e]
    cases j with
    | zero => simp at h; subst h; exact ⟨rfl, rfl, rfl⟩
    | succ j =>
      have h' : l[j]? = some x := by simpa using h
      have := ih j x h'
      have e3 : (j + 1) * 3 = j * 3 + 3 := by omega
      rw [e3]
      simpa using this

/-- A row of steps that the call has made: the slice, its steps, room to write. -/
def Got (B : Nat) (w : World) (v : Value) (l : List Tx.Ins) : Prop :=
  ∃ g cap, v = .slice (some ⟨g, 0, none⟩) l.length cap ∧ B ≤ g ∧ g < w.heap.size ∧ Row w g 0 l ∧ Room w g (l.length * 3)
theorem got_of {w : World} {B : Nat} {e : TypeId} {v : Value} {l : List Tx.Ins} (h : w.ownsRow B e 3 v l.length (flat l)) (hv : v ≠ .slice none 0 0) : Got B w v l := by
  have hc := @World.ownsRow.cells w B e 3 v l.length (flat l) h
  have hl := @World.ownsRow.lt w B e 3 v l.length (flat l) h
  have h' := h
  obtain ⟨_, ⟨h, _⟩ | ⟨g, cap, cur, rfl, hB, _, hcap, _⟩⟩ := h
  · exact absurd h hv
  · refine ⟨g, cap, rfl, hB, (hl g rfl).2, fun j x hj => ?_, room_own h' hcap⟩
    obtain ⟨f0, f1, f2⟩ := flat_at l j x hj
    have g0 := hc (g := g) rfl _ _ f0
    have g1 := hc (g := g) rfl _ _ f1
    have g2 := hc (g := g) rfl _ _ f2
    simp only [Go.WideShapes.add_plain] at g0 g1 g2
    exact ⟨g0, by simpa [Nat.add_assoc] using g1, by simpa [Nat.add_assoc] using g2⟩
theorem Got.on {B : Nat} {u w : World} {v : Value} {l : List Tx.Ins} (h : Got B u v l) (hb : Below u.heap.size u w) : Got B w v l := by
  obtain ⟨g, cap, hv, h1, h2, h3, h4⟩ := h
  exact ⟨g, cap, hv, h1, Nat.lt_of_lt_of_le h2 hb.size, h3.on hb, h4.on hb⟩
theorem got_nil (w : World) (B : Nat) (hB : B ≤ w.heap.size) (t : TypeId) : Got B (w.alloc (.cells #[] t)) (.slice (some ⟨w.heap.size, 0, none⟩) 0 0) [] :=
  ⟨w.heap.size, 0, rfl, hB, by simp, fun j x h => by simp at h, fun i h => by simp at h⟩
theorem got_nil2 (w : World) (o : Obj) (B : Nat) (hB : B ≤ w.heap.size) (t : TypeId) : Got B ((w.alloc o).alloc (.cells #[] t)) (.slice (some ⟨w.heap.size + 1, 0, none⟩) 0 0) [] :=
  ⟨w.heap.size + 1, 0, rfl, by omega, by simp, fun j x h => by simp at h, fun i h => by simp at h⟩
def insL (r : Option (List Tx.Ins)) : List Tx.Ins := match r with | none => [] | some l => l
end St
end Go.Proofs.YtfgiemhbkbllmabDoor
