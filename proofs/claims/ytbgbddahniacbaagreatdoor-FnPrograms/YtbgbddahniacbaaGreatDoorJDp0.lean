/- Contracts of the laws' own copying of programs. -/
import Derived.Test.YtbgbddahniacbaaGreatDoorJGr0
import Derived.Test.YtbgbddahniacbaaGreatDoorJPg2
import Derived.Test.YtbgbddahniacbaaGreatDoorJIRow0
namespace Go.Proofs.YtbgbddahniacbaaGreatDoor
namespace Pg
open Go.ChangeShapes Go.WideShapes Go.ChangeAt Go.RowKit St

end Pg
end Go.Proofs.YtbgbddahniacbaaGreatDoor

/- Owned rows cut short, and boxes beside a cursor: for the draws of programs. -/
namespace Go.Proofs.YtbgbddahniacbaaGreatDoor
namespace Cu
open Go.ChangeShapes Go.WideShapes Go.ChangeAt Go.RowKit St

/-- The front of an owned row is owned, with the same room behind it. -/
theorem own_take {w : World} {B q g n cap : Nat} {e : TypeId} {xs : List Value} (h : w.ownsRow B e q (.slice (some ⟨g, 0, none⟩) n cap) n xs) {k : Nat} (hk : k ≤ n) : w.ownsRow B e q (.slice (some ⟨g, 0, none⟩) k cap) k (xs.take (k * q)) := by
  obtain ⟨hl, ⟨h, _⟩ | ⟨g', cap', cur, hv, h1, h2, h3, h4, h5, h6⟩⟩ := h
  · simp at h
  · injection hv with e1 e2 e3
    injection e1 with e1
    injection e1 with e1
    subst e1 e3
    have hkq : k * q ≤ n * q := Nat.mul_le_mul_right q hk
    refine ⟨by rw [List.length_take, hl]; omega, .inr ⟨g, cap, cur, rfl, h1, h2, by omega, h4, h5, ?_⟩⟩
    rw [← h6, List.take_take, Nat.min_eq_left hkq]
theorem flat_take (l : List Tx.Ins) (k : Nat) : (flat l).take (k * 3) = flat (l.take k) := by
  induction l generalizing k with
  | nil => simp [flat]
  | cons x l ih =>
    cases k with
    | zero => simp [flat]
    | succ k =>
      have := ih k
      simp only [flat, List.flatMap_cons, List.take_succ_cons] at this ⊢
      rw [show (k + 1) * 3 = 3 + k * 3 from by omega]
      simp only [List.cons_append, List.nil_append]
      rw [show 3 + k * 3 = k * 3 + 1 + 1 + 1 from by omega]
      simp only [List.take_succ_cons, this]
theorem own_front {w : World} {B g cap : Nat} {e : TypeId} {l : List Tx.Ins} (h : w.ownsRow B e 3 (.slice (some ⟨g, 0, none⟩) l.length cap) l.length (flat l)) {k : Nat} (hk : k ≤ l.length) : w.ownsRow B e 3 (.slice (some ⟨g, 0, none⟩) k cap) k (flat (l.take k)) := by
  rw [← flat_take]
  exact own_take h hk
theorem own_set {w : World} {B q n : Nat} {e : TypeId} {v : Value} {xs : List Value} (h : w.ownsRow B e q v n xs) {p : Addr} (hp : p.block < B) (x : Value) : (w.setCell p x).ownsRow B e q v n xs :=
  own_touch h (c := p.block) (w := w.setCell p x) (by
    have hb := (Below.refl 0 w).setCell (p := p) (Nat.zero_le _) x
    exact ⟨hb.os, hb.tape, hb.output, hb.size, fun k _ hne => Below.heap_setCell w p x k hne⟩) hp
theorem cells_touch {c k : Nat} {u v : World} {vs : List Value} (h : Pg.Cells u k vs) (ht : Touch c u v) (hk : k ≠ c) : Pg.Cells v k vs := fun i x hx => by
  obtain ⟨h1, h2⟩ := h i x hx
  have hb := ht.block k (cell_lt h1) hk
  exact ⟨(World.cell?_of_block (w := u) hb).trans h1, (World.frozen?_of_block (w := u) hb).trans h2⟩
theorem At.set {B c : Nat} {u v : World} {a : Option Addr} {len cap : Nat} (h : At B u v c a len cap) (hc : c < u.heap.size) {p : Addr} (hp : u.heap.size ≤ p.block) (x : Value) : At B u (v.setCell p x) c a len cap :=
  h.low hc ((Below.refl _ _).setCell hp x)
end Cu
end Go.Proofs.YtbgbddahniacbaaGreatDoor
