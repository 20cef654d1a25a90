/- Rows of steps, and whether all are right. -/
import Derived.Test.YtcbbpmknomhedaaJStep1
import Derived.Test.YtcbbpmknomhedaaJLaw0
import Derived.Test.YtcbbpmknomhedaaJTx
namespace Go.Proofs.Ytcbbpmknomhedaa
namespace St
open Go.ChangeShapes Go.WideShapes Go.ChangeAt Go.RowKit

theorem below_over {w u w' : World} (h : Below w.heap.size w u) (h2 : Below u.heap.size u w') : Below w.heap.size w w' := h.trans (h2.mono h.size)
/-- The steps l lie in block g from place o on. -/
def Row (w : World) (g o : Nat) (l : List Tx.Ins) : Prop := ∀ j x, l[j]? = some x →
  w.cell? ⟨g, o + j * 3, none⟩ = some (.int .i64 x.1) ∧ w.cell? ⟨g, o + j * 3 + 1, none⟩ = some (.int .i64 x.2.1) ∧ w.cell? ⟨g, o + j * 3 + 2, none⟩ = some (.int .i64 x.2.2)
theorem Row.on {u v : World} {g o : Nat} {l : List Tx.Ins} (h : Row u g o l) (hb : Below u.heap.size u v) : Row v g o l := by
  intro j x hj
  obtain ⟨h0, h1, h2⟩ := h j x hj
  have l0 : g < u.heap.size := cell_lt h0
  exact ⟨(hb.cell l0).trans h0, (hb.cell l0).trans h1, (hb.cell l0).trans h2⟩
theorem Row.below {B : Nat} {u v : World} {g o : Nat} {l : List Tx.Ins} (h : Row u g o l) (hb : Below B u v) (hg : g < B) : Row v g o l := by
  intro j x hj
  obtain ⟨h0, h1, h2⟩ := h j x hj
  exact ⟨(hb.cell hg).trans h0, (hb.cell hg).trans h1, (hb.cell hg).trans h2⟩

theorem all_take {l : List Tx.Ins} {k : Nat} (hk : k < l.length) (h : (l.take k).all Tx.okT = true) (hx : Tx.okT l[k] = true) : (l.take (k + 1)).all Tx.okT = true := by
  rw [List.take_succ_eq_append_getElem hk, List.all_append, h]; simp [hx]

set_option maxHeartbeats 800000 in
theorem each_at (g cap : Nat) (l : List Tx.Ins) (hl : l.length ≤ 1048576) (w : World) (hr : Row w g 0 l) :
    Calls Try.prog 88 #[.slice (some ⟨g, 0, none⟩) l.length cap] w fun e w' => e = .returned (.bool (Tx.okC l)) ∧ Below w.heap.size w w' := by
  have HR : Hid (Row w g 0 l) := hr
  clear hr
  go_enter Try.func88, Try.ntmps88
  go_wp2
  go_loopw [3] (fun i wr => ∃ k : Nat, k ≤ l.length ∧ i = .int .i64 k ∧ Hid ((l.take k).all Tx.okT = true) ∧ Below w.heap.size w wr) (fun i _ => l.length - (intOf i).toNat)
  case atStart => exact ⟨0, Nat.zero_le _, rfl, rfl, Below.refl _ _⟩
  case round =>
    obtain ⟨k, hk, rfl, hall, hb⟩ := hrel
    by_cases hlt : k < l.length
    · obtain ⟨h0, h1, h2⟩ := HR.out.below hb (cell_lt (HR.out k _ (List.getElem?_eq_getElem hlt)).1) k _ (List.getElem?_eq_getElem hlt)
      obtain ⟨x, hx⟩ : ∃ x, x = l[k] := ⟨_, rfl⟩
      rw [← hx] at h0 h1 h2
      have HX : Hid (x = l[k]) := hx
      clear hx
      simp only [Nat.zero_add] at h0 h1 h2
      go_wp2_with fail
      refine (specOk x.1 x.2.1 x.2.2 _).mono ?_
      rintro e w1 ⟨rfl, hb1⟩
      have hw1 : Below w.heap.size w w1 := below_over hb hb1
      clear hb1 h0 h1 h2
      cases hok : Tx.okI x.1 x.2.1 x.2.2
      · have HN : Hid (Tx.okC l = false) := by
          show Tx.okC l = false
          have hm : l[k] ∈ l := List.getElem_mem hlt
          have h2 : l.all Tx.okT = false := by
            cases hh : l.all Tx.okT
            · rfl
            · have := List.all_eq_true.1 hh _ hm
              rw [← HX.out] at this
              simp only [Tx.okT, hok] at this
              simp at this
          simp [Tx.okC, h2]
        go_wp2
        go_ret
        exact ⟨retB HN.out.symm, hw1⟩
      · have HA : Hid ((l.take (k + 1)).all Tx.okT = true) := all_take hlt hall.out (by rw [← HX.out]; exact hok)
        go_wp2
        go_roundw
        case rel => exact ⟨k + 1, by omega, by go_num, HA.out, hw1⟩
        case measure => simp [intOf]; omega
    · have HN : Hid (Tx.okC l = decide ((l.length : Int) ≤ 40)) := by
        show Tx.okC l = decide ((l.length : Int) ≤ 40)
        have e : l.take k = l := List.take_of_length_le (by omega)
        have := hall.out
        rw [e] at this
        unfold Tx.okC
        rw [this, Bool.and_true, Bool.eq_iff_iff]
        simp
        omega
      go_wp2
      go_ret
      exact ⟨retB HN.out.symm, hb⟩

end St
end Go.Proofs.Ytcbbpmknomhedaa

/- Three cells of a block that may be written. -/
namespace Go.Proofs.Ytcbbpmknomhedaa
namespace St
open Go.ChangeShapes Go.WideShapes Go.ChangeAt Go.RowKit

/-- Three cells of a block that may be written. -/
structure Box (w : World) (k : Nat) (x y z : Value) : Prop where
  c0 : w.cell? ⟨k, 0, none⟩ = some x
  c1 : w.cell? ⟨k, 1, none⟩ = some y
  c2 : w.cell? ⟨k, 2, none⟩ = some z
  f0 : w.frozen? ⟨k, 0, none⟩ = false
  f1 : w.frozen? ⟨k, 1, none⟩ = false
  f2 : w.frozen? ⟨k, 2, none⟩ = false
theorem Box.on {u v : World} {k : Nat} {x y z : Value} (h : Box u k x y z) (hb : Below u.heap.size u v) : Box v k x y z :=
  have l : k < u.heap.size := cell_lt h.c0
  ⟨(hb.cell l).trans h.c0, (hb.cell l).trans h.c1, (hb.cell l).trans h.c2, (hb.frozen l).trans h.f0, (hb.frozen l).trans h.f1, (hb.frozen l).trans h.f2⟩
theorem Box.new (w : World) (x y z : Value) (t : TypeId) : Box (w.alloc (.cells #[x, y, z] t)) w.heap.size x y z :=
  ⟨by simp, by simp, by simp, by simp, by simp, by simp⟩
theorem Box.set {w : World} {k : Nat} {x y z : Value} (h : Box w k x y z) (x' y' z' : Value) :
    Box (((w.setCell ⟨k, 0, none⟩ x').setCell ⟨k, 1, none⟩ y').setCell ⟨k, 2, none⟩ z') k x' y' z' := by
  obtain ⟨c0, c1, c2, f0, f1, f2⟩ := h
  have n01 : (⟨k, 0, none⟩ : Addr) ≠ ⟨k, 1, none⟩ := by simp
  have n02 : (⟨k, 0, none⟩ : Addr) ≠ ⟨k, 2, none⟩ := by simp
  have n12 : (⟨k, 1, none⟩ : Addr) ≠ ⟨k, 2, none⟩ := by simp
  refine ⟨?_, ?_, ?_, by simpa using f0, by simpa using f1, by simpa using f2⟩
  · rw [World.cell?_setCell_other _ _ _ _ n02.symm, World.cell?_setCell_other _ _ _ _ n01.symm]
    exact World.cell?_setCell_same _ _ _ c0
  · rw [World.cell?_setCell_other _ _ _ _ n12.symm]
    exact World.cell?_setCell_same _ _ _ ((World.cell?_setCell_other _ _ _ _ n01).trans c1)
  · exact World.cell?_setCell_same _ _ _ ((World.cell?_setCell_other _ _ _ _ n12).trans ((World.cell?_setCell_other _ _ _ _ n02).trans c2))
theorem Box.set1 {w : World} {k : Nat} {x y z : Value} (h : Box w k x y z) (y' : Value) : Box (w.setCell ⟨k, 1, none⟩ y') k x y' z := by
  obtain ⟨c0, c1, c2, f0, f1, f2⟩ := h
  have n01 : (⟨k, 1, none⟩ : Addr) ≠ ⟨k, 0, none⟩ := by simp
  have n12 : (⟨k, 1, none⟩ : Addr) ≠ ⟨k, 2, none⟩ := by simp
  exact ⟨(World.cell?_setCell_other _ _ _ _ n01).trans c0, World.cell?_setCell_same _ _ _ c1, (World.cell?_setCell_other _ _ _ _ n12).trans c2, by simpa using f0, by simpa using f1, by simpa using f2⟩
theorem Box.set2 {w : World} {k : Nat} {x y z : Value} (h : Box w k x y z) (z' : Value) : Box (w.setCell ⟨k, 2, none⟩ z') k x y z' := by
  obtain ⟨c0, c1, c2, f0, f1, f2⟩ := h
  have n01 : (⟨k, 2, none⟩ : Addr) ≠ ⟨k, 0, none⟩ := by simp
  have n12 : (⟨k, 2, none⟩ : Addr) ≠ ⟨k, 1, none⟩ := by simp
  exact ⟨(World.cell?_setCell_other _ _ _ _ n01).trans c0, (World.cell?_setCell_other _ _ _ _ n12).trans c1, World.cell?_setCell_same _ _ _ c2, by simpa using f0, by simpa using f1, by simpa using f2⟩
theorem Box.far {w : World} {k : Nat} {x y z : Value} (h : Box w k x y z) (p : Addr) (v : Value) (hp : p.block ≠ k) : Box (w.setCell p v) k x y z := by
  obtain ⟨c0, c1, c2, f0, f1, f2⟩ := h
  have n0 : p ≠ ⟨k, 0, none⟩ := fun e => hp (by rw [e])
  have n1 : p ≠ ⟨k, 1, none⟩ := fun e => hp (by rw [e])
  have n2 : p ≠ ⟨k, 2, none⟩ := fun e => hp (by rw [e])
  exact ⟨(World.cell?_setCell_other _ _ _ _ n0).trans c0, (World.cell?_setCell_other _ _ _ _ n1).trans c1, (World.cell?_setCell_other _ _ _ _ n2).trans c2, by simpa using f0, by simpa using f1, by simpa using f2⟩
end St
end Go.Proofs.Ytcbbpmknomhedaa

/- Facts on worlds under the draws of steps. -/
namespace Go.Proofs.Ytcbbpmknomhedaa
namespace Cu
open Go.ChangeShapes Go.WideShapes Go.ChangeAt Go.RowKit St

theorem Touch.setNew {c : Nat} {u w : World} (h : Touch c u w) {p : Addr} (hp : u.heap.size ≤ p.block) (v : Value) : Touch c u (w.setCell p v) := by
  have hb := (Below.refl 0 w).setCell (p := p) (Nat.zero_le _) v
  refine ⟨hb.os.trans h.os, hb.tape.trans h.tape, hb.output.trans h.output, Nat.le_trans h.size hb.size, fun k hk hc => ?_⟩
  exact (Below.heap_setCell w p v k (by omega)).trans (h.block k hk hc)
theorem Touch.frozen {c : Nat} {u w : World} (h : Touch c u w) {p : Addr} (hp : p.block < u.heap.size) (hc : p.block ≠ c) : w.frozen? p = u.frozen? p := World.frozen?_of_block (w := u) (h.block p.block hp hc)
theorem Cur.setFar {B c : Nat} {w : World} {a : Option Addr} {len cap : Nat} (h : Cur B w c a len cap) {p : Addr} (hp : p.block ≠ c) (hB : B ≤ p.block) (v : Value) : Cur B (w.setCell p v) c a len cap := by
  obtain ⟨h1, h2, h3, ⟨i, hi, h4⟩, ⟨g, h5⟩, h6, h7, h8⟩ := h
  have ne : ∀ o, p ≠ ⟨c, o, none⟩ := fun o e => hp (by rw [e])
  have hb : Below B w (w.setCell p v) := (Below.refl B w).setCell hB v
  exact ⟨h1, Nat.lt_of_lt_of_le h2 hb.size, (World.cell?_setCell_other _ _ _ _ (ne _)).trans h3, ⟨i, hi, (World.cell?_setCell_other _ _ _ _ (ne _)).trans h4⟩, ⟨g, (World.cell?_setCell_other _ _ _ _ (ne _)).trans h5⟩, by simpa using h6, by simpa using h7, h8.below hb⟩
theorem Box.touch {u v : World} {c k : Nat} {x y z : Value} (h : Box u k x y z) (ht : Touch c u v) (hk : k ≠ c) : Box v k x y z := by
  have l : k < u.heap.size := St.cell_lt h.c0
  exact ⟨(ht.cell l hk).trans h.c0, (ht.cell l hk).trans h.c1, (ht.cell l hk).trans h.c2, (ht.frozen l hk).trans h.f0, (ht.frozen l hk).trans h.f1, (ht.frozen l hk).trans h.f2⟩
theorem touch_below {c : Nat} {u w : World} (h : Below u.heap.size u w) : Touch c u w := ⟨h.os, h.tape, h.output, h.size, fun k hk _ => h.block k hk⟩
theorem At.step {B c : Nat} {u v w : World} {a : Option Addr} {len cap : Nat} (h : At B u v c a len cap) (k : At B v w c a len cap) : At B u w c a len cap := ⟨h.1.trans k.1, k.2⟩
theorem own_touch {c B e q n : Nat} {u w : World} {v : Value} {xs : List Value} (h : u.ownsRow B e q v n xs) (ht : Touch c u w) (hc : c < B) : w.ownsRow B e q v n xs :=
  h.kept (row := some c) ⟨ht.os, ht.tape, ht.output, ht.size, fun k hk hne => ht.block k hk (fun e => hne (by rw [e]))⟩ (by
    cases hx : v.ownBlock with
    | none => exact Or.inl rfl
    | some g => exact Or.inr (by intro e; have := (h.lt g hx).1; simp at e; omega))
end Cu
end Go.Proofs.Ytcbbpmknomhedaa
