/- Rows of steps, and whether all are right. -/
import Derived.Test.YtbgbddahniacbaaGreatDoorJStep1
import Derived.Test.YtbgbddahniacbaaGreatDoorJLaw0
namespace Go.Proofs.YtbgbddahniacbaaGreatDoor
namespace St
open Go.ChangeShapes Go.WideShapes Go.ChangeAt Go.RowKit

theorem below_over {w u w' : World} (h : Below w.heap.size w u) (h2 : Below u.heap.size u w') : Below w.heap.size w w' := h.trans (h2.mono h.size)
/-- The steps l lie in block g from place o on. -/
def Row (w : World) (g o : Nat) (l : List Tx.Ins) : Prop := ∀ j x, l[j]? = some x →
  w.cell? ⟨g, o + j * 3, none⟩ = some (.int .i64 x.1) ∧ w.cell? ⟨g, o + j * 3 + 1, none⟩ = some (.int .i64 x.2.1) ∧ w.cell? ⟨g, o + j * 3 + 2, none⟩ = some (.int .i64 x.2.2)
theorem Row.on {u v : World} {g o : Nat} {l : List Tx.Ins} (h : Row u g o l) (hb : Below u.heap.size u v) : Row v g o l := by
  intro j x hj
  obtain ⟨h0, h1, h2⟩ := h j x hj
  have l0 : g < u.heap.size := cell_lt h0
  exact ⟨(hb.cell l0).trans h0, (hb.cell l0).trans h1, (hb.cell l0).trans h2⟩
theorem Row.below {B : Nat} {u v : World} {g o : Nat} {l : List Tx.Ins} (h : Row u g o l) (hb : Below B u v) (hg : g < B) : Row v g o l := by
  intro j x hj
  obtain ⟨h0, h1, h2⟩ := h j x hj
  exact ⟨(hb.cell hg).trans h0, (hb.cell hg).trans h1, (hb.cell hg).trans h2⟩

theorem all_take {l : List Tx.Ins} {k : Nat} (hk : k < l.length) (h : (l.take k).all Tx.okT = true) (hx : Tx.okT l[k] = true) : (l.take (k + 1)).all Tx.okT = true := by
  rw [List.take_succ_eq_append_getElem hk, List.all_append, h]; simp [hx]

set_option maxHeartbeats 800000 in
theorem each_at (g cap : Nat) (l : List Tx.Ins) (hl : l.length ≤ 1048576) (w : World) (hr : Row w g 0 l) :
    Calls Tryz.prog 78 #[.slice (some ⟨g, 0, none⟩) l.length cap] w fun e w' => e = .returned (.bool (Tx.okC l)) ∧ Below w.heap.size w w' := by
  have HR : Hid (Row w g 0 l) := hr
  clear hr
  go_enter Tryz.func78, Tryz.ntmps78
  go_wp2
  go_loopw [3] (fun i wr => ∃ k : Nat, k ≤ l.length ∧ i = .int .i64 k ∧ Hid ((l.take k).all Tx.okT = true) ∧ Below w.heap.size w wr) (fun i _ => l.length - (intOf i).toNat)
  case atStart => exact ⟨0, Nat.zero_le _, rfl, rfl, Below.refl _ _⟩
  case round =>
    obtain ⟨k, hk, rfl, hall, hb⟩ := hrel
    by_cases hlt : k < l.length
    · obtain ⟨h0, h1, h2⟩ := HR.out.below hb (cell_lt (HR.out k _ (List.getElem?_eq_getElem hlt)).1) k _ (List.getElem?_eq_getElem hlt)
      obtain ⟨x, hx⟩ : ∃ x, x = l[k] := ⟨_, rfl⟩
      rw [← hx] at h0 h1 h2
      have HX : Hid (x = l[k]) := hx
      clear hx
      simp only [Nat.zero_add] at h0 h1 h2
      go_wp2_with fail
      refine (specOk x.1 x.2.1 x.2.2 _).mono ?_
      rintro e w1 ⟨rfl, hb1⟩
      have hw1 : Below w.heap.size w w1 := below_over hb hb1
      clear hb1 h0 h1 h2
      cases hok : Tx.okI x.1 x.2.1 x.2.2
      · have HN : Hid (Tx.okC l = false) := by
          show Tx.okC l = false
          have hm : l[k] ∈ l := List.getElem_mem hlt
          have h2 : l.all Tx.okT = false := by
            cases hh : l.all Tx.okT
            · rfl
            · have := List.all_eq_true.1 hh _ hm
              rw [← HX.out] at this
              simp only [Tx.okT, hok] at this
              simp at this
          simp [Tx.okC, h2]
        go_wp2
        go_ret
        exact ⟨retB HN.out.symm, hw1⟩
      · have HA : Hid ((l.take (k + 1)).all Tx.okT = true) := all_take hlt hall.out (by rw [← HX.out]; exact hok)
        go_wp2
        go_roundw
        case rel => exact ⟨k + 1, by omega, by go_num, HA.out, hw1⟩
        case measure => simp [intOf]; omega
    · have HN : Hid (Tx.okC l = decide ((l.length : Int) ≤ 40)) := by
        show Tx.okC l = decide ((l.length : Int) ≤ 40)
        have e : l.take k = l := List.take_of_length_le (by omega)
        have := hall.out
        rw [e] at this
        unfold Tx.okC
        rw [this, Bool.and_true, Bool.eq_iff_iff]
        simp
        omega
      go_wp2
      go_ret
      exact ⟨retB HN.out.symm, hb⟩

end St
end Go.Proofs.YtbgbddahniacbaaGreatDoor

/- Three cells of a block that may be written. -/
namespace Go.Proofs.YtbgbddahniacbaaGreatDoor
namespace St
open Go.ChangeShapes Go.WideShapes Go.ChangeAt Go.RowKit

/-- Three cells of a block that may be written. -/
structure Box (w : World) (k : Nat) (x y z : Value) : Prop where
  c0 : w.cell? ⟨k, 0, none⟩ = some x
  c1 : w.cell? ⟨k, 1, none⟩ = some y
  c2 : w.cell? ⟨k, 2, none⟩ = some z
  f0 : w.frozen? ⟨k, 0, none⟩ = false
  f1 : w.frozen? ⟨k, 1, none⟩ = false
  f2 : w.frozen? ⟨k, 2, none⟩ = false
theorem Box.on {u v : World} {k : Nat} {x y z : Value} (h : Box u k x y z) (hb : Below u.heap.size u v) : Box v k x y z :=
  have l : k < u.heap.size := cell_lt h.c0
  ⟨(hb.cell l).trans h.c0, (hb.cell l).trans h.c1, (hb.cell l).trans h.c2, (hb.frozen l).trans h.f0, (hb.frozen l).trans h.f1, (hb.frozen l).trans h.f2⟩
theorem Box.new (w : World) (x y z : Value) (t : TypeId) : Box (w.alloc (.cells #[x, y, z] t)) w.heap.size x y z :=
  ⟨by simp, by simp, by simp, by simp, by simp, by simp⟩
theorem Box.set {w : World} {k : Nat} {x y z : Value} (h : Box w k x y z) (x' y' z' : Value) :
    Box (((w.setCell ⟨k, 0, none⟩ x').setCell ⟨k, 1, none⟩ y').setCell ⟨k, 2, none⟩ z') k x' y' z' := by
  obtain ⟨c0, c1, c2, f0, f1, f2⟩ := h
  have n01 : (⟨k, 0, none⟩ : Addr) ≠ ⟨k, 1, none⟩ := by simp
  have n02 : (⟨k, 0, none⟩ : Addr) ≠ ⟨k, 2, none⟩ := by simp
  have n12 : (⟨k, 1, none⟩ : Addr) ≠ ⟨k, 2, none⟩ := by simp
  refine ⟨?_, ?_, ?_, by simpa using f0, by simpa using f1, by simpa using f2⟩
  · rw [World.cell?_setCell_other _ _ _ _ n02.symm, World.cell?_setCell_other _ _ _ _ n01.symm]
    exact World.cell?_setCell_same _ _ _ c0
  · rw [World.cell?_setCell_other _ _ _ _ n12.symm]
    exact World.cell?_setCell_same _ _ _ ((World.cell?_setCell_other _ _ _ _ n01).trans c1)
  · exact World.cell?_setCell_same _ _ _ ((World.cell?_setCell_other _ _ _ _ n12).trans ((World.cell?_setCell_other _ _ _ _ n02).trans c2))
theorem below_drewN {B : Nat} {a w : World} (h : Below B a w) (n : Nat) : Below B a (w.drewN n) := ⟨h.os, h.tape, h.output, h.size, h.block⟩
theorem Box.set1 {w : World} {k : Nat} {x y z : Value} (h : Box w k x y z) (y' : Value) : Box (w.setCell ⟨k, 1, none⟩ y') k x y' z := by
  obtain ⟨c0, c1, c2, f0, f1, f2⟩ := h
  have n01 : (⟨k, 1, none⟩ : Addr) ≠ ⟨k, 0, none⟩ := by simp
  have n12 : (⟨k, 1, none⟩ : Addr) ≠ ⟨k, 2, none⟩ := by simp
  exact ⟨(World.cell?_setCell_other _ _ _ _ n01).trans c0, World.cell?_setCell_same _ _ _ c1, (World.cell?_setCell_other _ _ _ _ n12).trans c2, by simpa using f0, by simpa using f1, by simpa using f2⟩
theorem Box.set2 {w : World} {k : Nat} {x y z : Value} (h : Box w k x y z) (z' : Value) : Box (w.setCell ⟨k, 2, none⟩ z') k x y z' := by
  obtain ⟨c0, c1, c2, f0, f1, f2⟩ := h
  have n01 : (⟨k, 2, none⟩ : Addr) ≠ ⟨k, 0, none⟩ := by simp
  have n12 : (⟨k, 2, none⟩ : Addr) ≠ ⟨k, 1, none⟩ := by simp
  exact ⟨(World.cell?_setCell_other _ _ _ _ n01).trans c0, (World.cell?_setCell_other _ _ _ _ n12).trans c1, World.cell?_setCell_same _ _ _ c2, by simpa using f0, by simpa using f1, by simpa using f2⟩
theorem Box.far {w : World} {k : Nat} {x y z : Value} (h : Box w k x y z) (p : Addr) (v : Value) (hp : p.block ≠ k) : Box (w.setCell p v) k x y z := by
  obtain ⟨c0, c1, c2, f0, f1, f2⟩ := h
  have n0 : p ≠ ⟨k, 0, none⟩ := fun e => hp (by rw [e])
  have n1 : p ≠ ⟨k, 1, none⟩ := fun e => hp (by rw [e])
  have n2 : p ≠ ⟨k, 2, none⟩ := fun e => hp (by rw [e])
  exact ⟨(World.cell?_setCell_other _ _ _ _ n0).trans c0, (World.cell?_setCell_other _ _ _ _ n1).trans c1, (World.cell?_setCell_other _ _ _ _ n2).trans c2, by simpa using f0, by simpa using f1, by simpa using f2⟩
end St
end Go.Proofs.YtbgbddahniacbaaGreatDoor
