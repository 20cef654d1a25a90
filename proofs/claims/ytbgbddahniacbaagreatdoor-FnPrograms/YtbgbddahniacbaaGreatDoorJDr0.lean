/- Facts on worlds under the draws of steps. -/
import Derived.Test.YtbgbddahniacbaaGreatDoorJWordB
import Derived.Test.YtbgbddahniacbaaGreatDoorJBox0
namespace Go.Proofs.YtbgbddahniacbaaGreatDoor
namespace Cu
open Go.ChangeShapes Go.WideShapes Go.ChangeAt Go.RowKit St

theorem Touch.setNew {c : Nat} {u w : World} (h : Touch c u w) {p : Addr} (hp : u.heap.size ≤ p.block) (v : Value) : Touch c u (w.setCell p v) := by
  have hb := (Below.refl 0 w).setCell (p := p) (Nat.zero_le _) v
  refine ⟨hb.os.trans h.os, hb.tape.trans h.tape, hb.output.trans h.output, Nat.le_trans h.size hb.size, fun k hk hc => ?_⟩
  exact (Below.heap_setCell w p v k (by omega)).trans (h.block k hk hc)
theorem Touch.frozen {c : Nat} {u w : World} (h : Touch c u w) {p : Addr} (hp : p.block < u.heap.size) (hc : p.block ≠ c) : w.frozen? p = u.frozen? p := World.frozen?_of_block (w := u) (h.block p.block hp hc)
theorem Cur.setFar {B c : Nat} {w : World} {a : Option Addr} {len cap : Nat} (h : Cur B w c a len cap) {p : Addr} (hp : p.block ≠ c) (hB : B ≤ p.block) (v : Value) : Cur B (w.setCell p v) c a len cap := by
  obtain ⟨h1, h2, h3, ⟨i, hi, h4⟩, ⟨g, h5⟩, h6, h7, h8⟩ := h
  have ne : ∀ o, p ≠ ⟨c, o, none⟩ := fun o e => hp (by rw [e])
  have hb : Below B w (w.setCell p v) := (Below.refl B w).setCell hB v
  exact ⟨h1, Nat.lt_of_lt_of_le h2 hb.size, (World.cell?_setCell_other _ _ _ _ (ne _)).trans h3, ⟨i, hi, (World.cell?_setCell_other _ _ _ _ (ne _)).trans h4⟩, ⟨g, (World.cell?_setCell_other _ _ _ _ (ne _)).trans h5⟩, by simpa using h6, by simpa using h7, h8.below hb⟩
theorem Box.touch {u v : World} {c k : Nat} {x y z : Value} (h : Box u k x y z) (ht : Touch c u v) (hk : k ≠ c) : Box v k x y z := by
  have l : k < u.heap.size := St.cell_lt h.c0
  exact ⟨(ht.cell l hk).trans h.c0, (ht.cell l hk).trans h.c1, (ht.cell l hk).trans h.c2, (ht.frozen l hk).trans h.f0, (ht.frozen l hk).trans h.f1, (ht.frozen l hk).trans h.f2⟩
theorem touch_below {c : Nat} {u w : World} (h : Below u.heap.size u w) : Touch c u w := ⟨h.os, h.tape, h.output, h.size, fun k hk _ => h.block k hk⟩
theorem At.step {B c : Nat} {u v w : World} {a : Option Addr} {len cap : Nat} (h : At B u v c a len cap) (k : At B v w c a len cap) : At B u w c a len cap := ⟨h.1.trans k.1, k.2⟩
theorem own_touch {c B e q n : Nat} {u w : World} {v : Value} {xs : List Value} (h : u.ownsRow B e q v n xs) (ht : Touch c u w) (hc : c < B) : w.ownsRow B e q v n xs :=
  h.kept (row := some c) ⟨ht.os, ht.tape, ht.output, ht.size, fun k hk hne => ht.block k hk (fun e => hne (by rw [e]))⟩ (by
    cases hx : v.ownBlock with
    | none => exact Or.inl rfl
    | some g => exact Or.inr (by intro e; have := (h.lt g hx).1; simp at e; omega))
end Cu
end Go.Proofs.YtbgbddahniacbaaGreatDoor
