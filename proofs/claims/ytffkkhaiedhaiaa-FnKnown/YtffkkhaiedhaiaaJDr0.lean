/- The contract of the laws' own choice of a number. -/
import Derived.Test.YtffkkhaiedhaiaaJCur5
import Derived.OpenShut
import Derived.Test.YtffkkhaiedhaiaaJRow1
namespace Go.Proofs.Ytffkkhaiedhaiaa
namespace Cu
open Go.ChangeShapes Go.WideShapes Go.ChangeAt Go.RowKit

theorem cell_lt {w : World} {p : Addr} {v : Value} (h : w.cell? p = some v) : p.block < w.heap.size := by
  refine Nat.lt_of_not_le fun hn => ?_
  have hnone : w.heap[p.block]? = none := Array.getElem?_eq_none hn
  simp [World.cell?, hnone] at h

/-- A row of bytes that came in, of at most 4096 cells. -/
theorem bytes_of {w : World} {x : Addr} {len cap : Nat} {zs : List Int} (hl : len ≤ cap) (hz : zs.length = cap)
    (hcell : ∀ i, i < zs.length → w.cell? (x.add i) = some (.int .u8 (zs.getD i 0))) (hwz : ∀ n ∈ zs, (Lit.int .u8 n).wf = true) (h4 : len ≤ 4096) :
    Bytes w.heap.size w (some x) len := by
  refine ⟨h4, fun j hj => ?_⟩
  obtain ⟨b, off, spot⟩ := x
  have hc := hcell j (by omega)
  have hspot : spot = none := by simpa [Addr.add] using World.cell?_spot (hcell 0 (by omega))
  subst hspot
  have hc0 : w.cell? ⟨b, off + j, none⟩ = some (.int .u8 (zs.getD j 0)) := by
    rw [← hc]
    by_cases h0 : j = 0 <;> simp [Addr.add, h0]
  have hm : (Lit.int .u8 (zs.getD j 0)).wf = true := by
    refine hwz _ ?_
    have hj' : j < zs.length := by omega
    have e : zs.getD j 0 = zs[j] := by simp [hj']
    rw [e]
    exact List.getElem_mem _
  have hbd := bounds_u8 hm
  exact ⟨b, off, zs.getD j 0, rfl, cell_lt hc0, hc0, hbd.1, hbd.2⟩

end Cu
end Go.Proofs.Ytffkkhaiedhaiaa

/- Three cells of a block that may be written. -/
namespace Go.Proofs.Ytffkkhaiedhaiaa
namespace St
open Go.ChangeShapes Go.WideShapes Go.ChangeAt Go.RowKit

/-- Three cells of a block that may be written. -/
structure Box (w : World) (k : Nat) (x y z : Value) : Prop where
  c0 : w.cell? ⟨k, 0, none⟩ = some x
  c1 : w.cell? ⟨k, 1, none⟩ = some y
  c2 : w.cell? ⟨k, 2, none⟩ = some z
  f0 : w.frozen? ⟨k, 0, none⟩ = false
  f1 : w.frozen? ⟨k, 1, none⟩ = false
  f2 : w.frozen? ⟨k, 2, none⟩ = false
theorem Box.on {u v : World} {k : Nat} {x y z : Value} (h : Box u k x y z) (hb : Below u.heap.size u v) : Box v k x y z :=
  have l : k < u.heap.size := cell_lt h.c0
  ⟨(hb.cell l).trans h.c0, (hb.cell l).trans h.c1, (hb.cell l).trans h.c2, (hb.frozen l).trans h.f0, (hb.frozen l).trans h.f1, (hb.frozen l).trans h.f2⟩
theorem Box.new (w : World) (x y z : Value) (t : TypeId) : Box (w.alloc (.cells #[x, y, z] t)) w.heap.size x y z :=
  ⟨by simp, by simp, by simp, by simp, by simp, by simp⟩
theorem Box.set {w : World} {k : Nat} {x y z : Value} (h : Box w k x y z) (x' y' z' : Value) :
    Box (((w.setCell ⟨k, 0, none⟩ x').setCell ⟨k, 1, none⟩ y').setCell ⟨k, 2, none⟩ z') k x' y' z' := by
  obtain ⟨c0, c1, c2, f0, f1, f2⟩ := h
  have n01 : (⟨k, 0, none⟩ : Addr) ≠ ⟨k, 1, none⟩ := by simp
  have n02 : (⟨k, 0, none⟩ : Addr) ≠ ⟨k, 2, none⟩ := by simp
  have n12 : (⟨k, 1, none⟩ : Addr) ≠ ⟨k, 2, none⟩ := by simp
  refine ⟨?_, ?_, ?_, by simpa using f0, by simpa using f1, by simpa using f2⟩
  · rw [World.cell?_setCell_other _ _ _ _ n02.symm, World.cell?_setCell_other _ _ _ _ n01.symm]
    exact World.cell?_setCell_same _ _ _ c0
  · rw [World.cell?_setCell_other _ _ _ _ n12.symm]
    exact World.cell?_setCell_same _ _ _ ((World.cell?_setCell_other _ _ _ _ n01).trans c1)
  · exact World.cell?_setCell_same _ _ _ ((World.cell?_setCell_other _ _ _ _ n12).trans ((World.cell?_setCell_other _ _ _ _ n02).trans c2))
theorem Box.set1 {w : World} {k : Nat} {x y z : Value} (h : Box w k x y z) (y' : Value) : Box (w.setCell ⟨k, 1, none⟩ y') k x y' z := by
  obtain ⟨c0, c1, c2, f0, f1, f2⟩ := h
  have n01 : (⟨k, 1, none⟩ : Addr) ≠ ⟨k, 0, none⟩ := by simp
  have n12 : (⟨k, 1, none⟩ : Addr) ≠ ⟨k, 2, none⟩ := by simp
  exact ⟨(World.cell?_setCell_other _ _ _ _ n01).trans c0, World.cell?_setCell_same _ _ _ c1, (World.cell?_setCell_other _ _ _ _ n12).trans c2, by simpa using f0, by simpa using f1, by simpa using f2⟩
theorem Box.set2 {w : World} {k : Nat} {x y z : Value} (h : Box w k x y z) (z' : Value) : Box (w.setCell ⟨k, 2, none⟩ z') k x y z' := by
  obtain ⟨c0, c1, c2, f0, f1, f2⟩ := h
  have n01 : (⟨k, 2, none⟩ : Addr) ≠ ⟨k, 0, none⟩ := by simp
  have n12 : (⟨k, 2, none⟩ : Addr) ≠ ⟨k, 1, none⟩ := by simp
  exact ⟨(World.cell?_setCell_other _ _ _ _ n01).trans c0, (World.cell?_setCell_other _ _ _ _ n12).trans c1, World.cell?_setCell_same _ _ _ c2, by simpa using f0, by simpa using f1, by simpa using f2⟩
theorem Box.far {w : World} {k : Nat} {x y z : Value} (h : Box w k x y z) (p : Addr) (v : Value) (hp : p.block ≠ k) : Box (w.setCell p v) k x y z := by
  obtain ⟨c0, c1, c2, f0, f1, f2⟩ := h
  have n0 : p ≠ ⟨k, 0, none⟩ := fun e => hp (by rw [e])
  have n1 : p ≠ ⟨k, 1, none⟩ := fun e => hp (by rw [e])
  have n2 : p ≠ ⟨k, 2, none⟩ := fun e => hp (by rw [e])
  exact ⟨(World.cell?_setCell_other _ _ _ _ n0).trans c0, (World.cell?_setCell_other _ _ _ _ n1).trans c1, (World.cell?_setCell_other _ _ _ _ n2).trans c2, by simpa using f0, by simpa using f1, by simpa using f2⟩
end St
end Go.Proofs.Ytffkkhaiedhaiaa

/- Facts on worlds under the draws of steps. -/
namespace Go.Proofs.Ytffkkhaiedhaiaa
namespace Cu
open Go.ChangeShapes Go.WideShapes Go.ChangeAt Go.RowKit St

theorem Touch.setNew {c : Nat} {u w : World} (h : Touch c u w) {p : Addr} (hp : u.heap.size ≤ p.block) (v : Value) : Touch c u (w.setCell p v) := by
  have hb := (Below.refl 0 w).setCell (p := p) (Nat.zero_le _) v
  refine ⟨hb.os.trans h.os, hb.tape.trans h.tape, hb.output.trans h.output, Nat.le_trans h.size hb.size, fun k hk hc => ?_⟩
  exact (Below.heap_setCell w p v k (by omega)).trans (h.block k hk hc)
theorem Touch.frozen {c : Nat} {u w : World} (h : Touch c u w) {p : Addr} (hp : p.block < u.heap.size) (hc : p.block ≠ c) : w.frozen? p = u.frozen? p := World.frozen?_of_block (w := u) (h.block p.block hp hc)
theorem Cur.setFar {B c : Nat} {w : World} {a : Option Addr} {len cap : Nat} (h : Cur B w c a len cap) {p : Addr} (hp : p.block ≠ c) (hB : B ≤ p.block) (v : Value) : Cur B (w.setCell p v) c a len cap := by
  obtain ⟨h1, h2, h3, ⟨i, hi, h4⟩, ⟨g, h5⟩, h6, h7, h8⟩ := h
  have ne : ∀ o, p ≠ ⟨c, o, none⟩ := fun o e => hp (by rw [e])
  have hb : Below B w (w.setCell p v) := (Below.refl B w).setCell hB v
  exact ⟨h1, Nat.lt_of_lt_of_le h2 hb.size, (World.cell?_setCell_other _ _ _ _ (ne _)).trans h3, ⟨i, hi, (World.cell?_setCell_other _ _ _ _ (ne _)).trans h4⟩, ⟨g, (World.cell?_setCell_other _ _ _ _ (ne _)).trans h5⟩, by simpa using h6, by simpa using h7, h8.below hb⟩
theorem Box.touch {u v : World} {c k : Nat} {x y z : Value} (h : Box u k x y z) (ht : Touch c u v) (hk : k ≠ c) : Box v k x y z := by
  have l : k < u.heap.size := St.cell_lt h.c0
  exact ⟨(ht.cell l hk).trans h.c0, (ht.cell l hk).trans h.c1, (ht.cell l hk).trans h.c2, (ht.frozen l hk).trans h.f0, (ht.frozen l hk).trans h.f1, (ht.frozen l hk).trans h.f2⟩
theorem touch_below {c : Nat} {u w : World} (h : Below u.heap.size u w) : Touch c u w := ⟨h.os, h.tape, h.output, h.size, fun k hk _ => h.block k hk⟩
theorem At.step {B c : Nat} {u v w : World} {a : Option Addr} {len cap : Nat} (h : At B u v c a len cap) (k : At B v w c a len cap) : At B u w c a len cap := ⟨h.1.trans k.1, k.2⟩
theorem own_touch {c B e q n : Nat} {u w : World} {v : Value} {xs : List Value} (h : u.ownsRow B e q v n xs) (ht : Touch c u w) (hc : c < B) : w.ownsRow B e q v n xs :=
  h.kept (row := some c) ⟨ht.os, ht.tape, ht.output, ht.size, fun k hk hne => ht.block k hk (fun e => hne (by rw [e]))⟩ (by
    cases hx : v.ownBlock with
    | none => exact Or.inl rfl
    | some g => exact Or.inr (by intro e; have := (h.lt g hx).1; simp at e; omega))
end Cu
end Go.Proofs.Ytffkkhaiedhaiaa
