/- Rows of steps, and whether all are right. -/
import Derived.Test.YtmbbombjlijknaaJStep1
import Derived.Test.YtmbbombjlijknaaJLaw0
import Derived.Test.YtmbbombjlijknaaJWordB
import Derived.Deep.RegionWith
import Derived.Lib.QuietBelow
namespace Go.Proofs.Ytmbbombjlijknaa
namespace St
open Go.ChangeShapes Go.WideShapes Go.ChangeAt Go.RowKit

theorem below_over {w u w' : World} (h : Below w.heap.size w u) (h2 : Below u.heap.size u w') : Below w.heap.size w w' := h.trans (h2.mono h.size)
/-- The steps l lie in block g from place o on. -/
def Row (w : World) (g o : Nat) (l : List Tx.Ins) : Prop := ∀ j x, l[j]? = some x →
  w.cell? ⟨g, o + j * 3, none⟩ = some (.int .i64 x.1) ∧ w.cell? ⟨g, o + j * 3 + 1, none⟩ = some (.int .i64 x.2.1) ∧ w.cell? ⟨g, o + j * 3 + 2, none⟩ = some (.int .i64 x.2.2)
theorem Row.on {u v : World} {g o : Nat} {l : List Tx.Ins} (h : Row u g o l) (hb : Below u.heap.size u v) : Row v g o l := by
  intro j x hj
  obtain ⟨h0, h1, h2⟩ := h j x hj
  have l0 : g < u.heap.size := cell_lt h0
  exact ⟨(hb.cell l0).trans h0, (hb.cell l0).trans h1, (hb.cell l0).trans h2⟩
theorem Row.below {B : Nat} {u v : World} {g o : Nat} {l : List Tx.Ins} (h : Row u g o l) (hb : Below B u v) (hg : g < B) : Row v g o l := by
  intro j x hj
  obtain ⟨h0, h1, h2⟩ := h j x hj
  exact ⟨(hb.cell hg).trans h0, (hb.cell hg).trans h1, (hb.cell hg).trans h2⟩

theorem all_take {l : List Tx.Ins} {k : Nat} (hk : k < l.length) (h : (l.take k).all Tx.okT = true) (hx : Tx.okT l[k] = true) : (l.take (k + 1)).all Tx.okT = true := by
  rw [List.take_succ_eq_append_getElem hk, List.all_append, h]; simp [hx]

set_option maxHeartbeats 800000 in
theorem each_at (g cap : Nat) (l : List Tx.Ins) (hl : l.length ≤ 1048576) (w : World) (hr : Row w g 0 l) :
    Calls Try.prog 128 #[.slice (some ⟨g, 0, none⟩) l.length cap] w fun e w' => e = .returned (.bool (Tx.okC l)) ∧ Below w.heap.size w w' := by
  have HR : Hid (Row w g 0 l) := hr
  clear hr
  go_enter Try.func128, Try.ntmps128
  go_wp2
  go_loopw [3] (fun i wr => ∃ k : Nat, k ≤ l.length ∧ i = .int .i64 k ∧ Hid ((l.take k).all Tx.okT = true) ∧ Below w.heap.size w wr) (fun i _ => l.length - (intOf i).toNat)
  case atStart => exact ⟨0, Nat.zero_le _, rfl, rfl, Below.refl _ _⟩
  case round =>
    obtain ⟨k, hk, rfl, hall, hb⟩ := hrel
    by_cases hlt : k < l.length
    · obtain ⟨h0, h1, h2⟩ := HR.out.below hb (cell_lt (HR.out k _ (List.getElem?_eq_getElem hlt)).1) k _ (List.getElem?_eq_getElem hlt)
      obtain ⟨x, hx⟩ : ∃ x, x = l[k] := ⟨_, rfl⟩
      rw [← hx] at h0 h1 h2
      have HX : Hid (x = l[k]) := hx
      clear hx
      simp only [Nat.zero_add] at h0 h1 h2
      go_wp2_with fail
      refine (specOk x.1 x.2.1 x.2.2 _).mono ?_
      rintro e w1 ⟨rfl, hb1⟩
      have hw1 : Below w.heap.size w w1 := below_over hb hb1
      clear hb1 h0 h1 h2
      cases hok : Tx.okI x.1 x.2.1 x.2.2
      · have HN : Hid (Tx.okC l = false) := by
          show Tx.okC l = false
          have hm : l[k] ∈ l := List.getElem_mem hlt
          have h2 : l.all Tx.okT = false := by
            cases hh : l.all Tx.okT
            · rfl
            · have := List.all_eq_true.1 hh _ hm
              rw [← HX.out] at this
              simp only [Tx.okT, hok] at this
              simp at this
          simp [Tx.okC, h2]
        go_wp2
        go_ret
        exact ⟨retB HN.out.symm, hw1⟩
      · have HA : Hid ((l.take (k + 1)).all Tx.okT = true) := all_take hlt hall.out (by rw [← HX.out]; exact hok)
        go_wp2
        go_roundw
        case rel => exact ⟨k + 1, by omega, by go_num, HA.out, hw1⟩
        case measure => simp [intOf]; omega
    · have HN : Hid (Tx.okC l = decide ((l.length : Int) ≤ 40)) := by
        show Tx.okC l = decide ((l.length : Int) ≤ 40)
        have e : l.take k = l := List.take_of_length_le (by omega)
        have := hall.out
        rw [e] at this
        unfold Tx.okC
        rw [this, Bool.and_true, Bool.eq_iff_iff]
        simp
        omega
      go_wp2
      go_ret
      exact ⟨retB HN.out.symm, hb⟩

end St
end Go.Proofs.Ytmbbombjlijknaa

/- Three cells of a block that may be written. -/
namespace Go.Proofs.Ytmbbombjlijknaa
namespace St
open Go.ChangeShapes Go.WideShapes Go.ChangeAt Go.RowKit

/-- Three cells of a block that may be written. -/
structure Box (w : World) (k : Nat) (x y z : Value) : Prop where
  c0 : w.cell? ⟨k, 0, none⟩ = some x
  c1 : w.cell? ⟨k, 1, none⟩ = some y
  c2 : w.cell? ⟨k, 2, none⟩ = some z
  f0 : w.frozen? ⟨k, 0, none⟩ = false
  f1 : w.frozen? ⟨k, 1, none⟩ = false
  f2 : w.frozen? ⟨k, 2, none⟩ = false
theorem Box.on {u v : World} {k : Nat} {x y z : Value} (h : Box u k x y z) (hb : Below u.heap.size u v) : Box v k x y z :=
  have l : k < u.heap.size := cell_lt h.c0
  ⟨(hb.cell l).trans h.c0, (hb.cell l).trans h.c1, (hb.cell l).trans h.c2, (hb.frozen l).trans h.f0, (hb.frozen l).trans h.f1, (hb.frozen l).trans h.f2⟩
theorem Box.new (w : World) (x y z : Value) (t : TypeId) : Box (w.alloc (.cells #[x, y, z] t)) w.heap.size x y z :=
  ⟨by simp, by simp, by simp, by simp, by simp, by simp⟩
theorem Box.set {w : World} {k : Nat} {x y z : Value} (h : Box w k x y z) (x' y' z' : Value) :
    Box (((w.setCell ⟨k, 0, none⟩ x').setCell ⟨k, 1, none⟩ y').setCell ⟨k, 2, none⟩ z') k x' y' z' := by
  obtain ⟨c0, c1, c2, f0, f1, f2⟩ := h
  have n01 : (⟨k, 0, none⟩ : Addr) ≠ ⟨k, 1, none⟩ := by simp
  have n02 : (⟨k, 0, none⟩ : Addr) ≠ ⟨k, 2, none⟩ := by simp
  have n12 : (⟨k, 1, none⟩ : Addr) ≠ ⟨k, 2, none⟩ := by simp
  refine ⟨?_, ?_, ?_, by simpa using f0, by simpa using f1, by simpa using f2⟩
  · rw [World.cell?_setCell_other _ _ _ _ n02.symm, World.cell?_setCell_other _ _ _ _ n01.symm]
    exact World.cell?_setCell_same _ _ _ c0
  · rw [World.cell?_setCell_other _ _ _ _ n12.symm]
    exact World.cell?_setCell_same _ _ _ ((World.cell?_setCell_other _ _ _ _ n01).trans c1)
  · exact World.cell?_setCell_same _ _ _ ((World.cell?_setCell_other _ _ _ _ n12).trans ((World.cell?_setCell_other _ _ _ _ n02).trans c2))
theorem below_drewN {B : Nat} {a w : World} (h : Below B a w) (n : Nat) : Below B a (w.drewN n) := ⟨h.os, h.tape, h.output, h.size, h.block⟩
theorem Box.set1 {w : World} {k : Nat} {x y z : Value} (h : Box w k x y z) (y' : Value) : Box (w.setCell ⟨k, 1, none⟩ y') k x y' z := by
  obtain ⟨c0, c1, c2, f0, f1, f2⟩ := h
  have n01 : (⟨k, 1, none⟩ : Addr) ≠ ⟨k, 0, none⟩ := by simp
  have n12 : (⟨k, 1, none⟩ : Addr) ≠ ⟨k, 2, none⟩ := by simp
  exact ⟨(World.cell?_setCell_other _ _ _ _ n01).trans c0, World.cell?_setCell_same _ _ _ c1, (World.cell?_setCell_other _ _ _ _ n12).trans c2, by simpa using f0, by simpa using f1, by simpa using f2⟩
theorem Box.set2 {w : World} {k : Nat} {x y z : Value} (h : Box w k x y z) (z' : Value) : Box (w.setCell ⟨k, 2, none⟩ z') k x y z' := by
  obtain ⟨c0, c1, c2, f0, f1, f2⟩ := h
  have n01 : (⟨k, 2, none⟩ : Addr) ≠ ⟨k, 0, none⟩ := by simp
  have n12 : (⟨k, 2, none⟩ : Addr) ≠ ⟨k, 1, none⟩ := by simp
  exact ⟨(World.cell?_setCell_other _ _ _ _ n01).trans c0, (World.cell?_setCell_other _ _ _ _ n12).trans c1, World.cell?_setCell_same _ _ _ c2, by simpa using f0, by simpa using f1, by simpa using f2⟩
theorem Box.far {w : World} {k : Nat} {x y z : Value} (h : Box w k x y z) (p : Addr) (v : Value) (hp : p.block ≠ k) : Box (w.setCell p v) k x y z := by
  obtain ⟨c0, c1, c2, f0, f1, f2⟩ := h
  have n0 : p ≠ ⟨k, 0, none⟩ := fun e => hp (by rw [e])
  have n1 : p ≠ ⟨k, 1, none⟩ := fun e => hp (by rw [e])
  have n2 : p ≠ ⟨k, 2, none⟩ := fun e => hp (by rw [e])
  exact ⟨(World.cell?_setCell_other _ _ _ _ n0).trans c0, (World.cell?_setCell_other _ _ _ _ n1).trans c1, (World.cell?_setCell_other _ _ _ _ n2).trans c2, by simpa using f0, by simpa using f1, by simpa using f2⟩
end St
end Go.Proofs.Ytmbbombjlijknaa

/- Facts on worlds under the draws of steps. -/
namespace Go.Proofs.Ytmbbombjlijknaa
namespace Cu
open Go.ChangeShapes Go.WideShapes Go.ChangeAt Go.RowKit St

theorem Touch.setNew {c : Nat} {u w : World} (h : Touch c u w) {p : Addr} (hp : u.heap.size ≤ p.block) (v : Value) : Touch c u (w.setCell p v) := by
  have hb := (Below.refl 0 w).setCell (p := p) (Nat.zero_le _) v
  refine ⟨hb.os.trans h.os, hb.tape.trans h.tape, hb.output.trans h.output, Nat.le_trans h.size hb.size, fun k hk hc => ?_⟩
  exact (Below.heap_setCell w p v k (by omega)).trans (h.block k hk hc)
theorem Touch.frozen {c : Nat} {u w : World} (h : Touch c u w) {p : Addr} (hp : p.block < u.heap.size) (hc : p.block ≠ c) : w.frozen? p = u.frozen? p := World.frozen?_of_block (w := u) (h.block p.block hp hc)
theorem Cur.setFar {B c : Nat} {w : World} {a : Option Addr} {len cap : Nat} (h : Cur B w c a len cap) {p : Addr} (hp : p.block ≠ c) (hB : B ≤ p.block) (v : Value) : Cur B (w.setCell p v) c a len cap := by
  obtain ⟨h1, h2, h3, ⟨i, hi, h4⟩, ⟨g, h5⟩, h6, h7, h8⟩ := h
  have ne : ∀ o, p ≠ ⟨c, o, none⟩ := fun o e => hp (by rw [e])
  have hb : Below B w (w.setCell p v) := (Below.refl B w).setCell hB v
  exact ⟨h1, Nat.lt_of_lt_of_le h2 hb.size, (World.cell?_setCell_other _ _ _ _ (ne _)).trans h3, ⟨i, hi, (World.cell?_setCell_other _ _ _ _ (ne _)).trans h4⟩, ⟨g, (World.cell?_setCell_other _ _ _ _ (ne _)).trans h5⟩, by simpa using h6, by simpa using h7, h8.below hb⟩
theorem Box.touch {u v : World} {c k : Nat} {x y z : Value} (h : Box u k x y z) (ht : Touch c u v) (hk : k ≠ c) : Box v k x y z := by
  have l : k < u.heap.size := St.cell_lt h.c0
  exact ⟨(ht.cell l hk).trans h.c0, (ht.cell l hk).trans h.c1, (ht.cell l hk).trans h.c2, (ht.frozen l hk).trans h.f0, (ht.frozen l hk).trans h.f1, (ht.frozen l hk).trans h.f2⟩
theorem touch_below {c : Nat} {u w : World} (h : Below u.heap.size u w) : Touch c u w := ⟨h.os, h.tape, h.output, h.size, fun k hk _ => h.block k hk⟩
theorem At.step {B c : Nat} {u v w : World} {a : Option Addr} {len cap : Nat} (h : At B u v c a len cap) (k : At B v w c a len cap) : At B u w c a len cap := ⟨h.1.trans k.1, k.2⟩
theorem own_touch {c B e q n : Nat} {u w : World} {v : Value} {xs : List Value} (h : u.ownsRow B e q v n xs) (ht : Touch c u w) (hc : c < B) : w.ownsRow B e q v n xs :=
  h.kept (row := some c) ⟨ht.os, ht.tape, ht.output, ht.size, fun k hk hne => ht.block k hk (fun e => hne (by rw [e]))⟩ (by
    cases hx : v.ownBlock with
    | none => exact Or.inl rfl
    | some g => exact Or.inr (by intro e; have := (h.lt g hx).1; simp at e; omega))
end Cu
end Go.Proofs.Ytmbbombjlijknaa

/- The contract of the draw of a step. -/
namespace Go.Proofs.Ytmbbombjlijknaa
namespace Cu
open Go.ChangeShapes Go.WideShapes Go.ChangeAt Go.RowKit St

/-- Some step has been drawn, its Op from 1 to 20, and the cursor stands. -/
def DrewIns (B : Nat) (w0 : World) (c : Nat) (a : Option Addr) (len cap : Nat) (e : Ending) (w' : World) : Prop :=
  ∃ op x y : Int, e = .returned (.agg #[.int .i64 op, .int .i64 x, .int .i64 y]) ∧ (-9223372036854775808 ≤ op ∧ op ≤ 9223372036854775807) ∧ (-9223372036854775808 ≤ x ∧ x ≤ 9223372036854775807) ∧ (-9223372036854775808 ≤ y ∧ y ≤ 9223372036854775807) ∧ At B w0 w' c a len cap

set_option maxHeartbeats 4000000 in
theorem drawInsn_at (B c : Nat) (w0 w : World) (a : Option Addr) (len cap : Nat) (n : Int) (h : At B w0 w c a len cap) :
    Calls Try.prog 111 #[.pointer (some ⟨c, 0, none⟩), .int .i64 n] w fun e w' => DrewIns B w0 c a len cap e w' := by
  have H : Hid (At B w0 w c a len cap) := h
  have hcw : c < w.heap.size := h.2.2.1
  have hBc : B ≤ c := h.2.1
  have hw0 : w0.heap.size ≤ w.heap.size := h.1.size
  clear h
  go_enter Try.func111, Try.ntmps111
  go_wp2_with fail
  refine (below_at B c _ _ a len cap _ (At.start (H.out.2.alloc _))).mono ?_
  rintro e w1 ⟨r, rfl, hr0, hr1, hr2, hr3, h1⟩
  have hr := hr2 (by omega)
  clear hr1 hr2 hr3
  have H1 : Hid (At B (w.alloc (.cells #[.int .i64 0, .int .i64 0, .int .i64 0] 68)) w1 c a len cap) := h1
  have T1 : Hid (Touch c w0 w1) := (H.out.1.alloc _).trans h1.1
  have BY1 : Hid (Box w1 w.heap.size (.int .i64 0) (.int .i64 0) (.int .i64 0)) := Box.touch (Box.new w _ _ _ _) h1.1 (by omega)
  have hw1 : w.heap.size < w1.heap.size := by have := h1.1.size; simp at this; omega
  clear h1
  have hcase : r = 0 ∨ r = 1 ∨ r = 2 ∨ r = 3 ∨ r = 4 ∨ r = 5 ∨ r = 6 ∨ r = 7 ∨ r = 8 ∨ r = 9 ∨ r = 10 ∨ r = 11 ∨ r = 12 ∨ r = 13 ∨ r = 14 ∨ r = 15 ∨ r = 16 ∨ r = 17 ∨ r = 18 ∨ r = 19 := by omega
  rcases hcase with rfl | rfl | rfl | rfl | rfl | rfl | rfl | rfl | rfl | rfl | rfl | rfl | rfl | rfl | rfl | rfl | rfl | rfl | rfl | rfl
  · go_wp2_with fail
    refine (drawWord_at B c _ _ a len cap (At.start (H1.out.2.alloc _))).mono ?_
    rintro e w3 ⟨x1, rfl, q10, q11, k1⟩
    have hI : w.heap.size < w3.heap.size := by have := k1.1.size; simp at this; omega
    have BX3 := Box.touch (Box.new w1 (.int .i64 1) (.int .i64 0) (.int .i64 0) 68) k1.1 (by omega)
    have BY3 := Box.touch (Box.on BY1.out ((Below.refl _ _).alloc (Nat.le_refl _) (.cells #[.int .i64 1, .int .i64 0, .int .i64 0] 68))) k1.1 (by omega)
    have T3 : Hid (Touch c w0 w3) := (T1.out.alloc _).trans k1.1
    have C3 : Hid (Cur B w3 c a len cap) := k1.2
    clear k1
    obtain ⟨c0, c1, c2, f0, f1, f2⟩ := BX3
    have BX4 := (Box.mk c0 c1 c2 f0 f1 f2).set1 (.int .i64 x1)
    have BY4 := BY3.far ⟨w1.heap.size, 1, none⟩ (.int .i64 x1) (by simp; omega)
    have TT : Hid (Touch c w0 (w3.setCell ⟨w1.heap.size, 1, none⟩ (.int .i64 x1))) := T3.out.setNew (by simp; omega) _
    have CC : Hid (Cur B (w3.setCell ⟨w1.heap.size, 1, none⟩ (.int .i64 x1)) c a len cap) := C3.out.setFar (by simp; omega) (by simp; omega) _
    obtain ⟨i0, i1, i2, _, _, _⟩ := BX4
    obtain ⟨d0, d1, d2, g0, g1, g2⟩ := BY4
    obtain ⟨e0, e1, e2, _, _, _⟩ := (Box.mk d0 d1 d2 g0 g1 g2).set (.int .i64 1) (.int .i64 x1) (.int .i64 0)
    go_wp2
    refine bodyPost_ret (v := .agg #[.int .i64 1, .int .i64 x1, .int .i64 0]) (by simp [results, Try.results111, go_sem, e0, e1, e2]) rfl ?_
    exact ⟨1, x1, 0, rfl, by omega, by omega, by omega, ((TT.out.setNew (p := ⟨w.heap.size, 0, none⟩) hw0 _).setNew (p := ⟨w.heap.size, 1, none⟩) hw0 _).setNew (p := ⟨w.heap.size, 2, none⟩) hw0 _, ((CC.out.setFar (p := ⟨w.heap.size, 0, none⟩) (by simp; omega) (by simp; omega) _).setFar (p := ⟨w.heap.size, 1, none⟩) (by simp; omega) (by simp; omega) _).setFar (p := ⟨w.heap.size, 2, none⟩) (by simp; omega) (by simp; omega) _⟩
  · go_wp2_with fail
    refine (below_at B c _ _ a len cap _ (At.start (H1.out.2.alloc _))).mono ?_
    rintro e w3 ⟨x1, rfl, q10, q11, q12, q13, k1⟩
    have hI : w.heap.size < w3.heap.size := by have := k1.1.size; simp at this; omega
    have BX3 := Box.touch (Box.new w1 (.int .i64 2) (.int .i64 0) (.int .i64 0) 68) k1.1 (by omega)
    have BY3 := Box.touch (Box.on BY1.out ((Below.refl _ _).alloc (Nat.le_refl _) (.cells #[.int .i64 2, .int .i64 0, .int .i64 0] 68))) k1.1 (by omega)
    have T3 : Hid (Touch c w0 w3) := (T1.out.alloc _).trans k1.1
    have C3 : Hid (Cur B w3 c a len cap) := k1.2
    clear k1
    obtain ⟨c0, c1, c2, f0, f1, f2⟩ := BX3
    have BX4 := (Box.mk c0 c1 c2 f0 f1 f2).set1 (.int .i64 x1)
    have BY4 := BY3.far ⟨w1.heap.size, 1, none⟩ (.int .i64 x1) (by simp; omega)
    have TT : Hid (Touch c w0 (w3.setCell ⟨w1.heap.size, 1, none⟩ (.int .i64 x1))) := T3.out.setNew (by simp; omega) _
    have CC : Hid (Cur B (w3.setCell ⟨w1.heap.size, 1, none⟩ (.int .i64 x1)) c a len cap) := C3.out.setFar (by simp; omega) (by simp; omega) _
    obtain ⟨i0, i1, i2, _, _, _⟩ := BX4
    obtain ⟨d0, d1, d2, g0, g1, g2⟩ := BY4
    obtain ⟨e0, e1, e2, _, _, _⟩ := (Box.mk d0 d1 d2 g0 g1 g2).set (.int .i64 2) (.int .i64 x1) (.int .i64 0)
    go_wp2
    refine bodyPost_ret (v := .agg #[.int .i64 2, .int .i64 x1, .int .i64 0]) (by simp [results, Try.results111, go_sem, e0, e1, e2]) rfl ?_
    exact ⟨2, x1, 0, rfl, by omega, by omega, by omega, ((TT.out.setNew (p := ⟨w.heap.size, 0, none⟩) hw0 _).setNew (p := ⟨w.heap.size, 1, none⟩) hw0 _).setNew (p := ⟨w.heap.size, 2, none⟩) hw0 _, ((CC.out.setFar (p := ⟨w.heap.size, 0, none⟩) (by simp; omega) (by simp; omega) _).setFar (p := ⟨w.heap.size, 1, none⟩) (by simp; omega) (by simp; omega) _).setFar (p := ⟨w.heap.size, 2, none⟩) (by simp; omega) (by simp; omega) _⟩
  · go_wp2_with fail
    refine (below_at B c _ _ a len cap _ (At.start (H1.out.2.alloc _))).mono ?_
    rintro e w3 ⟨x1, rfl, q10, q11, q12, q13, k1⟩
    have hI : w.heap.size < w3.heap.size := by have := k1.1.size; simp at this; omega
    have BX3 := Box.touch (Box.new w1 (.int .i64 3) (.int .i64 0) (.int .i64 0) 68) k1.1 (by omega)
    have BY3 := Box.touch (Box.on BY1.out ((Below.refl _ _).alloc (Nat.le_refl _) (.cells #[.int .i64 3, .int .i64 0, .int .i64 0] 68))) k1.1 (by omega)
    have T3 : Hid (Touch c w0 w3) := (T1.out.alloc _).trans k1.1
    have C3 : Hid (Cur B w3 c a len cap) := k1.2
    clear k1
    obtain ⟨c0, c1, c2, f0, f1, f2⟩ := BX3
    have BX4 := (Box.mk c0 c1 c2 f0 f1 f2).set1 (.int .i64 x1)
    have BY4 := BY3.far ⟨w1.heap.size, 1, none⟩ (.int .i64 x1) (by simp; omega)
    have TT : Hid (Touch c w0 (w3.setCell ⟨w1.heap.size, 1, none⟩ (.int .i64 x1))) := T3.out.setNew (by simp; omega) _
    have CC : Hid (Cur B (w3.setCell ⟨w1.heap.size, 1, none⟩ (.int .i64 x1)) c a len cap) := C3.out.setFar (by simp; omega) (by simp; omega) _
    obtain ⟨i0, i1, i2, _, _, _⟩ := BX4
    obtain ⟨d0, d1, d2, g0, g1, g2⟩ := BY4
    obtain ⟨e0, e1, e2, _, _, _⟩ := (Box.mk d0 d1 d2 g0 g1 g2).set (.int .i64 3) (.int .i64 x1) (.int .i64 0)
    go_wp2
    refine bodyPost_ret (v := .agg #[.int .i64 3, .int .i64 x1, .int .i64 0]) (by simp [results, Try.results111, go_sem, e0, e1, e2]) rfl ?_
    exact ⟨3, x1, 0, rfl, by omega, by omega, by omega, ((TT.out.setNew (p := ⟨w.heap.size, 0, none⟩) hw0 _).setNew (p := ⟨w.heap.size, 1, none⟩) hw0 _).setNew (p := ⟨w.heap.size, 2, none⟩) hw0 _, ((CC.out.setFar (p := ⟨w.heap.size, 0, none⟩) (by simp; omega) (by simp; omega) _).setFar (p := ⟨w.heap.size, 1, none⟩) (by simp; omega) (by simp; omega) _).setFar (p := ⟨w.heap.size, 2, none⟩) (by simp; omega) (by simp; omega) _⟩
  · obtain ⟨d0, d1, d2, g0, g1, g2⟩ := BY1.out
    obtain ⟨e0, e1, e2, _, _, _⟩ := Box.on ((Box.mk d0 d1 d2 g0 g1 g2).set (.int .i64 4) (.int .i64 0) (.int .i64 0)) ((Below.refl _ _).alloc (Nat.le_refl _) (.cells #[.int .i64 4, .int .i64 0, .int .i64 0] 68))
    go_wp2
    refine bodyPost_ret (v := .agg #[.int .i64 4, .int .i64 0, .int .i64 0]) (by simp [results, Try.results111, go_sem, e0, e1, e2]) rfl ?_
    exact ⟨4, 0, 0, rfl, by omega, by omega, by omega, (((T1.out.setNew (p := ⟨w.heap.size, 0, none⟩) hw0 _).setNew (p := ⟨w.heap.size, 1, none⟩) hw0 _).setNew (p := ⟨w.heap.size, 2, none⟩) hw0 _).alloc _, (((H1.out.2.setFar (p := ⟨w.heap.size, 0, none⟩) (by simp; omega) (by simp; omega) _).setFar (p := ⟨w.heap.size, 1, none⟩) (by simp; omega) (by simp; omega) _).setFar (p := ⟨w.heap.size, 2, none⟩) (by simp; omega) (by simp; omega) _).alloc _⟩
  · obtain ⟨d0, d1, d2, g0, g1, g2⟩ := BY1.out
    obtain ⟨e0, e1, e2, _, _, _⟩ := Box.on ((Box.mk d0 d1 d2 g0 g1 g2).set (.int .i64 5) (.int .i64 0) (.int .i64 0)) ((Below.refl _ _).alloc (Nat.le_refl _) (.cells #[.int .i64 5, .int .i64 0, .int .i64 0] 68))
    go_wp2
    refine bodyPost_ret (v := .agg #[.int .i64 5, .int .i64 0, .int .i64 0]) (by simp [results, Try.results111, go_sem, e0, e1, e2]) rfl ?_
    exact ⟨5, 0, 0, rfl, by omega, by omega, by omega, (((T1.out.setNew (p := ⟨w.heap.size, 0, none⟩) hw0 _).setNew (p := ⟨w.heap.size, 1, none⟩) hw0 _).setNew (p := ⟨w.heap.size, 2, none⟩) hw0 _).alloc _, (((H1.out.2.setFar (p := ⟨w.heap.size, 0, none⟩) (by simp; omega) (by simp; omega) _).setFar (p := ⟨w.heap.size, 1, none⟩) (by simp; omega) (by simp; omega) _).setFar (p := ⟨w.heap.size, 2, none⟩) (by simp; omega) (by simp; omega) _).alloc _⟩
  · obtain ⟨d0, d1, d2, g0, g1, g2⟩ := BY1.out
    obtain ⟨e0, e1, e2, _, _, _⟩ := Box.on ((Box.mk d0 d1 d2 g0 g1 g2).set (.int .i64 6) (.int .i64 0) (.int .i64 0)) ((Below.refl _ _).alloc (Nat.le_refl _) (.cells #[.int .i64 6, .int .i64 0, .int .i64 0] 68))
    go_wp2
    refine bodyPost_ret (v := .agg #[.int .i64 6, .int .i64 0, .int .i64 0]) (by simp [results, Try.results111, go_sem, e0, e1, e2]) rfl ?_
    exact ⟨6, 0, 0, rfl, by omega, by omega, by omega, (((T1.out.setNew (p := ⟨w.heap.size, 0, none⟩) hw0 _).setNew (p := ⟨w.heap.size, 1, none⟩) hw0 _).setNew (p := ⟨w.heap.size, 2, none⟩) hw0 _).alloc _, (((H1.out.2.setFar (p := ⟨w.heap.size, 0, none⟩) (by simp; omega) (by simp; omega) _).setFar (p := ⟨w.heap.size, 1, none⟩) (by simp; omega) (by simp; omega) _).setFar (p := ⟨w.heap.size, 2, none⟩) (by simp; omega) (by simp; omega) _).alloc _⟩
  · obtain ⟨d0, d1, d2, g0, g1, g2⟩ := BY1.out
    obtain ⟨e0, e1, e2, _, _, _⟩ := Box.on ((Box.mk d0 d1 d2 g0 g1 g2).set (.int .i64 7) (.int .i64 0) (.int .i64 0)) ((Below.refl _ _).alloc (Nat.le_refl _) (.cells #[.int .i64 7, .int .i64 0, .int .i64 0] 68))
    go_wp2
    refine bodyPost_ret (v := .agg #[.int .i64 7, .int .i64 0, .int .i64 0]) (by simp [results, Try.results111, go_sem, e0, e1, e2]) rfl ?_
    exact ⟨7, 0, 0, rfl, by omega, by omega, by omega, (((T1.out.setNew (p := ⟨w.heap.size, 0, none⟩) hw0 _).setNew (p := ⟨w.heap.size, 1, none⟩) hw0 _).setNew (p := ⟨w.heap.size, 2, none⟩) hw0 _).alloc _, (((H1.out.2.setFar (p := ⟨w.heap.size, 0, none⟩) (by simp; omega) (by simp; omega) _).setFar (p := ⟨w.heap.size, 1, none⟩) (by simp; omega) (by simp; omega) _).setFar (p := ⟨w.heap.size, 2, none⟩) (by simp; omega) (by simp; omega) _).alloc _⟩
  · obtain ⟨d0, d1, d2, g0, g1, g2⟩ := BY1.out
    obtain ⟨e0, e1, e2, _, _, _⟩ := Box.on ((Box.mk d0 d1 d2 g0 g1 g2).set (.int .i64 8) (.int .i64 0) (.int .i64 0)) ((Below.refl _ _).alloc (Nat.le_refl _) (.cells #[.int .i64 8, .int .i64 0, .int .i64 0] 68))
    go_wp2
    refine bodyPost_ret (v := .agg #[.int .i64 8, .int .i64 0, .int .i64 0]) (by simp [results, Try.results111, go_sem, e0, e1, e2]) rfl ?_
    exact ⟨8, 0, 0, rfl, by omega, by omega, by omega, (((T1.out.setNew (p := ⟨w.heap.size, 0, none⟩) hw0 _).setNew (p := ⟨w.heap.size, 1, none⟩) hw0 _).setNew (p := ⟨w.heap.size, 2, none⟩) hw0 _).alloc _, (((H1.out.2.setFar (p := ⟨w.heap.size, 0, none⟩) (by simp; omega) (by simp; omega) _).setFar (p := ⟨w.heap.size, 1, none⟩) (by simp; omega) (by simp; omega) _).setFar (p := ⟨w.heap.size, 2, none⟩) (by simp; omega) (by simp; omega) _).alloc _⟩
  · obtain ⟨d0, d1, d2, g0, g1, g2⟩ := BY1.out
    obtain ⟨e0, e1, e2, _, _, _⟩ := Box.on ((Box.mk d0 d1 d2 g0 g1 g2).set (.int .i64 9) (.int .i64 0) (.int .i64 0)) ((Below.refl _ _).alloc (Nat.le_refl _) (.cells #[.int .i64 9, .int .i64 0, .int .i64 0] 68))
    go_wp2
    refine bodyPost_ret (v := .agg #[.int .i64 9, .int .i64 0, .int .i64 0]) (by simp [results, Try.results111, go_sem, e0, e1, e2]) rfl ?_
    exact ⟨9, 0, 0, rfl, by omega, by omega, by omega, (((T1.out.setNew (p := ⟨w.heap.size, 0, none⟩) hw0 _).setNew (p := ⟨w.heap.size, 1, none⟩) hw0 _).setNew (p := ⟨w.heap.size, 2, none⟩) hw0 _).alloc _, (((H1.out.2.setFar (p := ⟨w.heap.size, 0, none⟩) (by simp; omega) (by simp; omega) _).setFar (p := ⟨w.heap.size, 1, none⟩) (by simp; omega) (by simp; omega) _).setFar (p := ⟨w.heap.size, 2, none⟩) (by simp; omega) (by simp; omega) _).alloc _⟩
  · obtain ⟨d0, d1, d2, g0, g1, g2⟩ := BY1.out
    obtain ⟨e0, e1, e2, _, _, _⟩ := Box.on ((Box.mk d0 d1 d2 g0 g1 g2).set (.int .i64 10) (.int .i64 0) (.int .i64 0)) ((Below.refl _ _).alloc (Nat.le_refl _) (.cells #[.int .i64 10, .int .i64 0, .int .i64 0] 68))
    go_wp2
    refine bodyPost_ret (v := .agg #[.int .i64 10, .int .i64 0, .int .i64 0]) (by simp [results, Try.results111, go_sem, e0, e1, e2]) rfl ?_
    exact ⟨10, 0, 0, rfl, by omega, by omega, by omega, (((T1.out.setNew (p := ⟨w.heap.size, 0, none⟩) hw0 _).setNew (p := ⟨w.heap.size, 1, none⟩) hw0 _).setNew (p := ⟨w.heap.size, 2, none⟩) hw0 _).alloc _, (((H1.out.2.setFar (p := ⟨w.heap.size, 0, none⟩) (by simp; omega) (by simp; omega) _).setFar (p := ⟨w.heap.size, 1, none⟩) (by simp; omega) (by simp; omega) _).setFar (p := ⟨w.heap.size, 2, none⟩) (by simp; omega) (by simp; omega) _).alloc _⟩
  · go_wp2_with fail
    refine (below_at B c _ _ a len cap _ (At.start (H1.out.2.alloc _))).mono ?_
    rintro e w3 ⟨x1, rfl, q10, q11, q12, q13, k1⟩
    have hI : w.heap.size < w3.heap.size := by have := k1.1.size; simp at this; omega
    have BX3 := Box.touch (Box.new w1 (.int .i64 11) (.int .i64 0) (.int .i64 0) 68) k1.1 (by omega)
    have BY3 := Box.touch (Box.on BY1.out ((Below.refl _ _).alloc (Nat.le_refl _) (.cells #[.int .i64 11, .int .i64 0, .int .i64 0] 68))) k1.1 (by omega)
    have T3 : Hid (Touch c w0 w3) := (T1.out.alloc _).trans k1.1
    have C3 : Hid (Cur B w3 c a len cap) := k1.2
    clear k1
    obtain ⟨c0, c1, c2, f0, f1, f2⟩ := BX3
    have BX4 := (Box.mk c0 c1 c2 f0 f1 f2).set1 (.int .i64 x1)
    have BY4 := BY3.far ⟨w1.heap.size, 1, none⟩ (.int .i64 x1) (by simp; omega)
    have TT : Hid (Touch c w0 (w3.setCell ⟨w1.heap.size, 1, none⟩ (.int .i64 x1))) := T3.out.setNew (by simp; omega) _
    have CC : Hid (Cur B (w3.setCell ⟨w1.heap.size, 1, none⟩ (.int .i64 x1)) c a len cap) := C3.out.setFar (by simp; omega) (by simp; omega) _
    obtain ⟨i0, i1, i2, _, _, _⟩ := BX4
    obtain ⟨d0, d1, d2, g0, g1, g2⟩ := BY4
    obtain ⟨e0, e1, e2, _, _, _⟩ := (Box.mk d0 d1 d2 g0 g1 g2).set (.int .i64 11) (.int .i64 x1) (.int .i64 0)
    go_wp2
    refine bodyPost_ret (v := .agg #[.int .i64 11, .int .i64 x1, .int .i64 0]) (by simp [results, Try.results111, go_sem, e0, e1, e2]) rfl ?_
    exact ⟨11, x1, 0, rfl, by omega, by omega, by omega, ((TT.out.setNew (p := ⟨w.heap.size, 0, none⟩) hw0 _).setNew (p := ⟨w.heap.size, 1, none⟩) hw0 _).setNew (p := ⟨w.heap.size, 2, none⟩) hw0 _, ((CC.out.setFar (p := ⟨w.heap.size, 0, none⟩) (by simp; omega) (by simp; omega) _).setFar (p := ⟨w.heap.size, 1, none⟩) (by simp; omega) (by simp; omega) _).setFar (p := ⟨w.heap.size, 2, none⟩) (by simp; omega) (by simp; omega) _⟩
  · go_wp2_with fail
    refine (below_at B c _ _ a len cap _ (At.start (H1.out.2.alloc _))).mono ?_
    rintro e w3 ⟨x1, rfl, q10, q11, q12, q13, k1⟩
    have hI : w.heap.size < w3.heap.size := by have := k1.1.size; simp at this; omega
    have BX3 := Box.touch (Box.new w1 (.int .i64 12) (.int .i64 0) (.int .i64 0) 68) k1.1 (by omega)
    have BY3 := Box.touch (Box.on BY1.out ((Below.refl _ _).alloc (Nat.le_refl _) (.cells #[.int .i64 12, .int .i64 0, .int .i64 0] 68))) k1.1 (by omega)
    have T3 : Hid (Touch c w0 w3) := (T1.out.alloc _).trans k1.1
    have C3 : Hid (Cur B w3 c a len cap) := k1.2
    clear k1
    obtain ⟨c0, c1, c2, f0, f1, f2⟩ := BX3
    have BX4 := (Box.mk c0 c1 c2 f0 f1 f2).set1 (.int .i64 x1)
    have BY4 := BY3.far ⟨w1.heap.size, 1, none⟩ (.int .i64 x1) (by simp; omega)
    have TT : Hid (Touch c w0 (w3.setCell ⟨w1.heap.size, 1, none⟩ (.int .i64 x1))) := T3.out.setNew (by simp; omega) _
    have CC : Hid (Cur B (w3.setCell ⟨w1.heap.size, 1, none⟩ (.int .i64 x1)) c a len cap) := C3.out.setFar (by simp; omega) (by simp; omega) _
    obtain ⟨i0, i1, i2, _, _, _⟩ := BX4
    obtain ⟨d0, d1, d2, g0, g1, g2⟩ := BY4
    obtain ⟨e0, e1, e2, _, _, _⟩ := (Box.mk d0 d1 d2 g0 g1 g2).set (.int .i64 12) (.int .i64 x1) (.int .i64 0)
    go_wp2
    refine bodyPost_ret (v := .agg #[.int .i64 12, .int .i64 x1, .int .i64 0]) (by simp [results, Try.results111, go_sem, e0, e1, e2]) rfl ?_
    exact ⟨12, x1, 0, rfl, by omega, by omega, by omega, ((TT.out.setNew (p := ⟨w.heap.size, 0, none⟩) hw0 _).setNew (p := ⟨w.heap.size, 1, none⟩) hw0 _).setNew (p := ⟨w.heap.size, 2, none⟩) hw0 _, ((CC.out.setFar (p := ⟨w.heap.size, 0, none⟩) (by simp; omega) (by simp; omega) _).setFar (p := ⟨w.heap.size, 1, none⟩) (by simp; omega) (by simp; omega) _).setFar (p := ⟨w.heap.size, 2, none⟩) (by simp; omega) (by simp; omega) _⟩
  · obtain ⟨d0, d1, d2, g0, g1, g2⟩ := BY1.out
    obtain ⟨e0, e1, e2, _, _, _⟩ := Box.on ((Box.mk d0 d1 d2 g0 g1 g2).set (.int .i64 13) (.int .i64 0) (.int .i64 0)) ((Below.refl _ _).alloc (Nat.le_refl _) (.cells #[.int .i64 13, .int .i64 0, .int .i64 0] 68))
    go_wp2
    refine bodyPost_ret (v := .agg #[.int .i64 13, .int .i64 0, .int .i64 0]) (by simp [results, Try.results111, go_sem, e0, e1, e2]) rfl ?_
    exact ⟨13, 0, 0, rfl, by omega, by omega, by omega, (((T1.out.setNew (p := ⟨w.heap.size, 0, none⟩) hw0 _).setNew (p := ⟨w.heap.size, 1, none⟩) hw0 _).setNew (p := ⟨w.heap.size, 2, none⟩) hw0 _).alloc _, (((H1.out.2.setFar (p := ⟨w.heap.size, 0, none⟩) (by simp; omega) (by simp; omega) _).setFar (p := ⟨w.heap.size, 1, none⟩) (by simp; omega) (by simp; omega) _).setFar (p := ⟨w.heap.size, 2, none⟩) (by simp; omega) (by simp; omega) _).alloc _⟩
  · go_wp2_with fail
    refine (below_at B c _ _ a len cap _ (At.start (H1.out.2.alloc _))).mono ?_
    rintro e w3 ⟨x1, rfl, q10, q11, q12, q13, k1⟩
    have hI : w.heap.size < w3.heap.size := by have := k1.1.size; simp at this; omega
    have BX3 := Box.touch (Box.new w1 (.int .i64 14) (.int .i64 0) (.int .i64 0) 68) k1.1 (by omega)
    have BY3 := Box.touch (Box.on BY1.out ((Below.refl _ _).alloc (Nat.le_refl _) (.cells #[.int .i64 14, .int .i64 0, .int .i64 0] 68))) k1.1 (by omega)
    have T3 : Hid (Touch c w0 w3) := (T1.out.alloc _).trans k1.1
    have C3 : Hid (Cur B w3 c a len cap) := k1.2
    clear k1
    obtain ⟨c0, c1, c2, f0, f1, f2⟩ := BX3
    have BX4 := (Box.mk c0 c1 c2 f0 f1 f2).set1 (.int .i64 x1)
    have BY4 := BY3.far ⟨w1.heap.size, 1, none⟩ (.int .i64 x1) (by simp; omega)
    have TT : Hid (Touch c w0 (w3.setCell ⟨w1.heap.size, 1, none⟩ (.int .i64 x1))) := T3.out.setNew (by simp; omega) _
    have CC : Hid (Cur B (w3.setCell ⟨w1.heap.size, 1, none⟩ (.int .i64 x1)) c a len cap) := C3.out.setFar (by simp; omega) (by simp; omega) _
    obtain ⟨i0, i1, i2, _, _, _⟩ := BX4
    obtain ⟨d0, d1, d2, g0, g1, g2⟩ := BY4
    obtain ⟨e0, e1, e2, _, _, _⟩ := (Box.mk d0 d1 d2 g0 g1 g2).set (.int .i64 14) (.int .i64 x1) (.int .i64 0)
    go_wp2
    refine bodyPost_ret (v := .agg #[.int .i64 14, .int .i64 x1, .int .i64 0]) (by simp [results, Try.results111, go_sem, e0, e1, e2]) rfl ?_
    exact ⟨14, x1, 0, rfl, by omega, by omega, by omega, ((TT.out.setNew (p := ⟨w.heap.size, 0, none⟩) hw0 _).setNew (p := ⟨w.heap.size, 1, none⟩) hw0 _).setNew (p := ⟨w.heap.size, 2, none⟩) hw0 _, ((CC.out.setFar (p := ⟨w.heap.size, 0, none⟩) (by simp; omega) (by simp; omega) _).setFar (p := ⟨w.heap.size, 1, none⟩) (by simp; omega) (by simp; omega) _).setFar (p := ⟨w.heap.size, 2, none⟩) (by simp; omega) (by simp; omega) _⟩
  · go_wp2_with fail
    refine (below_at B c _ _ a len cap _ (At.start (H1.out.2.alloc _))).mono ?_
    rintro e w3 ⟨x1, rfl, q10, q11, q12, q13, k1⟩
    have hI : w.heap.size < w3.heap.size := by have := k1.1.size; simp at this; omega
    have BX3 := Box.touch (Box.new w1 (.int .i64 15) (.int .i64 0) (.int .i64 0) 68) k1.1 (by omega)
    have BY3 := Box.touch (Box.on BY1.out ((Below.refl _ _).alloc (Nat.le_refl _) (.cells #[.int .i64 15, .int .i64 0, .int .i64 0] 68))) k1.1 (by omega)
    have T3 : Hid (Touch c w0 w3) := (T1.out.alloc _).trans k1.1
    have C3 : Hid (Cur B w3 c a len cap) := k1.2
    clear k1
    obtain ⟨c0, c1, c2, f0, f1, f2⟩ := BX3
    have BX4 := (Box.mk c0 c1 c2 f0 f1 f2).set1 (.int .i64 x1)
    have BY4 := BY3.far ⟨w1.heap.size, 1, none⟩ (.int .i64 x1) (by simp; omega)
    have T4 : Hid (Touch c w0 (w3.setCell ⟨w1.heap.size, 1, none⟩ (.int .i64 x1))) := T3.out.setNew (by simp; omega) _
    have C4 : Hid (Cur B (w3.setCell ⟨w1.heap.size, 1, none⟩ (.int .i64 x1)) c a len cap) := C3.out.setFar (by simp; omega) (by simp; omega) _
    go_wp2_with fail
    refine (below_at B c _ _ a len cap _ (At.start (C4.out))).mono ?_
    rintro e w5 ⟨x2, rfl, q20, q21, q22, q23, k2⟩
    have BX5 := Box.touch BX4 k2.1 (by omega)
    have BY5 := Box.touch BY4 k2.1 (by omega)
    have T5 : Hid (Touch c w0 w5) := T4.out.trans k2.1
    have C5 : Hid (Cur B w5 c a len cap) := k2.2
    clear k2 c0 c1 c2 f0 f1 f2
    obtain ⟨c0, c1, c2, f0, f1, f2⟩ := BX5
    have BX6 := (Box.mk c0 c1 c2 f0 f1 f2).set2 (.int .i64 x2)
    have BY6 := BY5.far ⟨w1.heap.size, 2, none⟩ (.int .i64 x2) (by simp; omega)
    have TT : Hid (Touch c w0 (w5.setCell ⟨w1.heap.size, 2, none⟩ (.int .i64 x2))) := T5.out.setNew (by simp; omega) _
    have CC : Hid (Cur B (w5.setCell ⟨w1.heap.size, 2, none⟩ (.int .i64 x2)) c a len cap) := C5.out.setFar (by simp; omega) (by simp; omega) _
    obtain ⟨i0, i1, i2, _, _, _⟩ := BX6
    obtain ⟨d0, d1, d2, g0, g1, g2⟩ := BY6
    obtain ⟨e0, e1, e2, _, _, _⟩ := (Box.mk d0 d1 d2 g0 g1 g2).set (.int .i64 15) (.int .i64 x1) (.int .i64 x2)
    go_wp2
    refine bodyPost_ret (v := .agg #[.int .i64 15, .int .i64 x1, .int .i64 x2]) (by simp [results, Try.results111, go_sem, e0, e1, e2]) rfl ?_
    exact ⟨15, x1, x2, rfl, by omega, by omega, by omega, ((TT.out.setNew (p := ⟨w.heap.size, 0, none⟩) hw0 _).setNew (p := ⟨w.heap.size, 1, none⟩) hw0 _).setNew (p := ⟨w.heap.size, 2, none⟩) hw0 _, ((CC.out.setFar (p := ⟨w.heap.size, 0, none⟩) (by simp; omega) (by simp; omega) _).setFar (p := ⟨w.heap.size, 1, none⟩) (by simp; omega) (by simp; omega) _).setFar (p := ⟨w.heap.size, 2, none⟩) (by simp; omega) (by simp; omega) _⟩
  · go_wp2_with fail
    refine (below_at B c _ _ a len cap _ (At.start (H1.out.2.alloc _))).mono ?_
    rintro e w3 ⟨x1, rfl, q10, q11, q12, q13, k1⟩
    have hI : w.heap.size < w3.heap.size := by have := k1.1.size; simp at this; omega
    have BX3 := Box.touch (Box.new w1 (.int .i64 16) (.int .i64 0) (.int .i64 0) 68) k1.1 (by omega)
    have BY3 := Box.touch (Box.on BY1.out ((Below.refl _ _).alloc (Nat.le_refl _) (.cells #[.int .i64 16, .int .i64 0, .int .i64 0] 68))) k1.1 (by omega)
    have T3 : Hid (Touch c w0 w3) := (T1.out.alloc _).trans k1.1
    have C3 : Hid (Cur B w3 c a len cap) := k1.2
    clear k1
    obtain ⟨c0, c1, c2, f0, f1, f2⟩ := BX3
    have BX4 := (Box.mk c0 c1 c2 f0 f1 f2).set1 (.int .i64 x1)
    have BY4 := BY3.far ⟨w1.heap.size, 1, none⟩ (.int .i64 x1) (by simp; omega)
    have T4 : Hid (Touch c w0 (w3.setCell ⟨w1.heap.size, 1, none⟩ (.int .i64 x1))) := T3.out.setNew (by simp; omega) _
    have C4 : Hid (Cur B (w3.setCell ⟨w1.heap.size, 1, none⟩ (.int .i64 x1)) c a len cap) := C3.out.setFar (by simp; omega) (by simp; omega) _
    go_wp2_with fail
    refine (below_at B c _ _ a len cap _ (At.start (C4.out))).mono ?_
    rintro e w5 ⟨x2, rfl, q20, q21, q22, q23, k2⟩
    have BX5 := Box.touch BX4 k2.1 (by omega)
    have BY5 := Box.touch BY4 k2.1 (by omega)
    have T5 : Hid (Touch c w0 w5) := T4.out.trans k2.1
    have C5 : Hid (Cur B w5 c a len cap) := k2.2
    clear k2 c0 c1 c2 f0 f1 f2
    obtain ⟨c0, c1, c2, f0, f1, f2⟩ := BX5
    have BX6 := (Box.mk c0 c1 c2 f0 f1 f2).set2 (.int .i64 x2)
    have BY6 := BY5.far ⟨w1.heap.size, 2, none⟩ (.int .i64 x2) (by simp; omega)
    have TT : Hid (Touch c w0 (w5.setCell ⟨w1.heap.size, 2, none⟩ (.int .i64 x2))) := T5.out.setNew (by simp; omega) _
    have CC : Hid (Cur B (w5.setCell ⟨w1.heap.size, 2, none⟩ (.int .i64 x2)) c a len cap) := C5.out.setFar (by simp; omega) (by simp; omega) _
    obtain ⟨i0, i1, i2, _, _, _⟩ := BX6
    obtain ⟨d0, d1, d2, g0, g1, g2⟩ := BY6
    obtain ⟨e0, e1, e2, _, _, _⟩ := (Box.mk d0 d1 d2 g0 g1 g2).set (.int .i64 16) (.int .i64 x1) (.int .i64 x2)
    go_wp2
    refine bodyPost_ret (v := .agg #[.int .i64 16, .int .i64 x1, .int .i64 x2]) (by simp [results, Try.results111, go_sem, e0, e1, e2]) rfl ?_
    exact ⟨16, x1, x2, rfl, by omega, by omega, by omega, ((TT.out.setNew (p := ⟨w.heap.size, 0, none⟩) hw0 _).setNew (p := ⟨w.heap.size, 1, none⟩) hw0 _).setNew (p := ⟨w.heap.size, 2, none⟩) hw0 _, ((CC.out.setFar (p := ⟨w.heap.size, 0, none⟩) (by simp; omega) (by simp; omega) _).setFar (p := ⟨w.heap.size, 1, none⟩) (by simp; omega) (by simp; omega) _).setFar (p := ⟨w.heap.size, 2, none⟩) (by simp; omega) (by simp; omega) _⟩
  · go_wp2_with fail
    refine (below_at B c _ _ a len cap _ (At.start (H1.out.2.alloc _))).mono ?_
    rintro e w3 ⟨x1, rfl, q10, q11, q12, q13, k1⟩
    have hI : w.heap.size < w3.heap.size := by have := k1.1.size; simp at this; omega
    have BX3 := Box.touch (Box.new w1 (.int .i64 17) (.int .i64 0) (.int .i64 0) 68) k1.1 (by omega)
    have BY3 := Box.touch (Box.on BY1.out ((Below.refl _ _).alloc (Nat.le_refl _) (.cells #[.int .i64 17, .int .i64 0, .int .i64 0] 68))) k1.1 (by omega)
    have T3 : Hid (Touch c w0 w3) := (T1.out.alloc _).trans k1.1
    have C3 : Hid (Cur B w3 c a len cap) := k1.2
    clear k1
    obtain ⟨c0, c1, c2, f0, f1, f2⟩ := BX3
    have BX4 := (Box.mk c0 c1 c2 f0 f1 f2).set1 (.int .i64 x1)
    have BY4 := BY3.far ⟨w1.heap.size, 1, none⟩ (.int .i64 x1) (by simp; omega)
    have T4 : Hid (Touch c w0 (w3.setCell ⟨w1.heap.size, 1, none⟩ (.int .i64 x1))) := T3.out.setNew (by simp; omega) _
    have C4 : Hid (Cur B (w3.setCell ⟨w1.heap.size, 1, none⟩ (.int .i64 x1)) c a len cap) := C3.out.setFar (by simp; omega) (by simp; omega) _
    go_wp2_with fail
    refine (below_at B c _ _ a len cap _ (At.start (C4.out))).mono ?_
    rintro e w5 ⟨x2, rfl, q20, q21, q22, q23, k2⟩
    have BX5 := Box.touch BX4 k2.1 (by omega)
    have BY5 := Box.touch BY4 k2.1 (by omega)
    have T5 : Hid (Touch c w0 w5) := T4.out.trans k2.1
    have C5 : Hid (Cur B w5 c a len cap) := k2.2
    clear k2 c0 c1 c2 f0 f1 f2
    obtain ⟨c0, c1, c2, f0, f1, f2⟩ := BX5
    have BX6 := (Box.mk c0 c1 c2 f0 f1 f2).set2 (.int .i64 x2)
    have BY6 := BY5.far ⟨w1.heap.size, 2, none⟩ (.int .i64 x2) (by simp; omega)
    have TT : Hid (Touch c w0 (w5.setCell ⟨w1.heap.size, 2, none⟩ (.int .i64 x2))) := T5.out.setNew (by simp; omega) _
    have CC : Hid (Cur B (w5.setCell ⟨w1.heap.size, 2, none⟩ (.int .i64 x2)) c a len cap) := C5.out.setFar (by simp; omega) (by simp; omega) _
    obtain ⟨i0, i1, i2, _, _, _⟩ := BX6
    obtain ⟨d0, d1, d2, g0, g1, g2⟩ := BY6
    obtain ⟨e0, e1, e2, _, _, _⟩ := (Box.mk d0 d1 d2 g0 g1 g2).set (.int .i64 17) (.int .i64 x1) (.int .i64 x2)
    go_wp2
    refine bodyPost_ret (v := .agg #[.int .i64 17, .int .i64 x1, .int .i64 x2]) (by simp [results, Try.results111, go_sem, e0, e1, e2]) rfl ?_
    exact ⟨17, x1, x2, rfl, by omega, by omega, by omega, ((TT.out.setNew (p := ⟨w.heap.size, 0, none⟩) hw0 _).setNew (p := ⟨w.heap.size, 1, none⟩) hw0 _).setNew (p := ⟨w.heap.size, 2, none⟩) hw0 _, ((CC.out.setFar (p := ⟨w.heap.size, 0, none⟩) (by simp; omega) (by simp; omega) _).setFar (p := ⟨w.heap.size, 1, none⟩) (by simp; omega) (by simp; omega) _).setFar (p := ⟨w.heap.size, 2, none⟩) (by simp; omega) (by simp; omega) _⟩
  · obtain ⟨d0, d1, d2, g0, g1, g2⟩ := BY1.out
    obtain ⟨e0, e1, e2, _, _, _⟩ := Box.on ((Box.mk d0 d1 d2 g0 g1 g2).set (.int .i64 18) (.int .i64 0) (.int .i64 0)) ((Below.refl _ _).alloc (Nat.le_refl _) (.cells #[.int .i64 18, .int .i64 0, .int .i64 0] 68))
    go_wp2
    refine bodyPost_ret (v := .agg #[.int .i64 18, .int .i64 0, .int .i64 0]) (by simp [results, Try.results111, go_sem, e0, e1, e2]) rfl ?_
    exact ⟨18, 0, 0, rfl, by omega, by omega, by omega, (((T1.out.setNew (p := ⟨w.heap.size, 0, none⟩) hw0 _).setNew (p := ⟨w.heap.size, 1, none⟩) hw0 _).setNew (p := ⟨w.heap.size, 2, none⟩) hw0 _).alloc _, (((H1.out.2.setFar (p := ⟨w.heap.size, 0, none⟩) (by simp; omega) (by simp; omega) _).setFar (p := ⟨w.heap.size, 1, none⟩) (by simp; omega) (by simp; omega) _).setFar (p := ⟨w.heap.size, 2, none⟩) (by simp; omega) (by simp; omega) _).alloc _⟩
  · obtain ⟨d0, d1, d2, g0, g1, g2⟩ := BY1.out
    obtain ⟨e0, e1, e2, _, _, _⟩ := Box.on ((Box.mk d0 d1 d2 g0 g1 g2).set (.int .i64 19) (.int .i64 0) (.int .i64 0)) ((Below.refl _ _).alloc (Nat.le_refl _) (.cells #[.int .i64 19, .int .i64 0, .int .i64 0] 68))
    go_wp2
    refine bodyPost_ret (v := .agg #[.int .i64 19, .int .i64 0, .int .i64 0]) (by simp [results, Try.results111, go_sem, e0, e1, e2]) rfl ?_
    exact ⟨19, 0, 0, rfl, by omega, by omega, by omega, (((T1.out.setNew (p := ⟨w.heap.size, 0, none⟩) hw0 _).setNew (p := ⟨w.heap.size, 1, none⟩) hw0 _).setNew (p := ⟨w.heap.size, 2, none⟩) hw0 _).alloc _, (((H1.out.2.setFar (p := ⟨w.heap.size, 0, none⟩) (by simp; omega) (by simp; omega) _).setFar (p := ⟨w.heap.size, 1, none⟩) (by simp; omega) (by simp; omega) _).setFar (p := ⟨w.heap.size, 2, none⟩) (by simp; omega) (by simp; omega) _).alloc _⟩
  · obtain ⟨d0, d1, d2, g0, g1, g2⟩ := BY1.out
    obtain ⟨e0, e1, e2, _, _, _⟩ := Box.on ((Box.mk d0 d1 d2 g0 g1 g2).set (.int .i64 20) (.int .i64 0) (.int .i64 0)) ((Below.refl _ _).alloc (Nat.le_refl _) (.cells #[.int .i64 20, .int .i64 0, .int .i64 0] 68))
    go_wp2
    refine bodyPost_ret (v := .agg #[.int .i64 20, .int .i64 0, .int .i64 0]) (by simp [results, Try.results111, go_sem, e0, e1, e2]) rfl ?_
    exact ⟨20, 0, 0, rfl, by omega, by omega, by omega, (((T1.out.setNew (p := ⟨w.heap.size, 0, none⟩) hw0 _).setNew (p := ⟨w.heap.size, 1, none⟩) hw0 _).setNew (p := ⟨w.heap.size, 2, none⟩) hw0 _).alloc _, (((H1.out.2.setFar (p := ⟨w.heap.size, 0, none⟩) (by simp; omega) (by simp; omega) _).setFar (p := ⟨w.heap.size, 1, none⟩) (by simp; omega) (by simp; omega) _).setFar (p := ⟨w.heap.size, 2, none⟩) (by simp; omega) (by simp; omega) _).alloc _⟩
end Cu
end Go.Proofs.Ytmbbombjlijknaa

/- The contract of the draw of any step. -/
namespace Go.Proofs.Ytmbbombjlijknaa
namespace Cu
open Go.ChangeShapes Go.WideShapes Go.ChangeAt Go.RowKit St

theorem Box.set0 {w : World} {k : Nat} {x y z : Value} (h : Box w k x y z) (x' : Value) : Box (w.setCell ⟨k, 0, none⟩ x') k x' y z := by
  obtain ⟨c0, c1, c2, f0, f1, f2⟩ := h
  have n01 : (⟨k, 0, none⟩ : Addr) ≠ ⟨k, 1, none⟩ := by simp
  have n02 : (⟨k, 0, none⟩ : Addr) ≠ ⟨k, 2, none⟩ := by simp
  exact ⟨World.cell?_setCell_same _ _ _ c0, (World.cell?_setCell_other _ _ _ _ n01).trans c1, (World.cell?_setCell_other _ _ _ _ n02).trans c2, by simpa using f0, by simpa using f1, by simpa using f2⟩

theorem row0 {w w2 : World} {c : Nat} {t : TypeId} (r : Int) (h0 : 0 ≤ r) (h1 : r < 4) (hc : c < w.heap.size) (ht : Touch c (w.alloc (.cells #[.int .i64 0, .int .i64 21, .int .i64 (-1), .int .i64 20] t)) w2) :
    ∃ v : Int, w2.cell? ⟨w.heap.size, r.toNat, none⟩ = some (.int .i64 v) ∧ -9223372036854775808 ≤ v ∧ v ≤ 9223372036854775807 := by
  obtain ⟨k, rfl⟩ := Int.eq_ofNat_of_zero_le h0
  rw [Int.toNat_natCast, ht.cell (p := ⟨w.heap.size, k, none⟩) (by simp) (by simp; omega)]
  have hk : k = 0 ∨ k = 1 ∨ k = 2 ∨ k = 3 := by omega
  rcases hk with rfl | rfl | rfl | rfl
  all_goals exact ⟨_, by simp [go_sem]; rfl, by omega, by omega⟩

theorem row1 {w w2 : World} {c : Nat} {t : TypeId} (r : Int) (h0 : 0 ≤ r) (h1 : r < 8) (hc : c < w.heap.size) (ht : Touch c (w.alloc (.cells #[.int .i64 (-1), .int .i64 5, .int .i64 6, .int .i64 7, .int .i64 8, .int .i64 39, .int .i64 40, .int .i64 2147483648] t)) w2) :
    ∃ v : Int, w2.cell? ⟨w.heap.size, r.toNat, none⟩ = some (.int .i64 v) ∧ -9223372036854775808 ≤ v ∧ v ≤ 9223372036854775807 := by
  obtain ⟨k, rfl⟩ := Int.eq_ofNat_of_zero_le h0
  rw [Int.toNat_natCast, ht.cell (p := ⟨w.heap.size, k, none⟩) (by simp) (by simp; omega)]
  have hk : k = 0 ∨ k = 1 ∨ k = 2 ∨ k = 3 ∨ k = 4 ∨ k = 5 ∨ k = 6 ∨ k = 7 := by omega
  rcases hk with rfl | rfl | rfl | rfl | rfl | rfl | rfl | rfl
  all_goals exact ⟨_, by simp [go_sem]; rfl, by omega, by omega⟩

theorem row2 {w w2 : World} {c : Nat} {t : TypeId} (r : Int) (h0 : 0 ≤ r) (h1 : r < 6) (hc : c < w.heap.size) (ht : Touch c (w.alloc (.cells #[.int .i64 (-1), .int .i64 1, .int .i64 3, .int .i64 4, .int .i64 19, .int .i64 20] t)) w2) :
    ∃ v : Int, w2.cell? ⟨w.heap.size, r.toNat, none⟩ = some (.int .i64 v) ∧ -9223372036854775808 ≤ v ∧ v ≤ 9223372036854775807 := by
  obtain ⟨k, rfl⟩ := Int.eq_ofNat_of_zero_le h0
  rw [Int.toNat_natCast, ht.cell (p := ⟨w.heap.size, k, none⟩) (by simp) (by simp; omega)]
  have hk : k = 0 ∨ k = 1 ∨ k = 2 ∨ k = 3 ∨ k = 4 ∨ k = 5 := by omega
  rcases hk with rfl | rfl | rfl | rfl | rfl | rfl
  all_goals exact ⟨_, by simp [go_sem]; rfl, by omega, by omega⟩

set_option maxHeartbeats 2000000 in
theorem drawAnyI_at (B c : Nat) (w0 w : World) (a : Option Addr) (len cap : Nat) (h : At B w0 w c a len cap) :
    Calls Try.prog 112 #[.pointer (some ⟨c, 0, none⟩)] w fun e w' => DrewIns B w0 c a len cap e w' := by
  have H : Hid (At B w0 w c a len cap) := h
  have hcw : c < w.heap.size := h.2.2.1
  have hBc : B ≤ c := h.2.1
  have hw0 : w0.heap.size ≤ w.heap.size := h.1.size
  clear h
  go_enter Try.func112, Try.ntmps112
  go_wp2_with fail
  refine (drawInsn_at B c _ _ a len cap 9 (At.start (H.out.2.alloc _))).mono ?_
  rintro e w1 ⟨op, x, y, rfl, bo, bx, by', h1⟩
  have T1 : Hid (Touch c w0 w1) := (H.out.1.alloc _).trans h1.1
  have BY1 : Hid (Box w1 w.heap.size (.int .i64 0) (.int .i64 0) (.int .i64 0)) := Box.touch (Box.new w _ _ _ _) h1.1 (by omega)
  have hw1 : w.heap.size < w1.heap.size := by have := h1.1.size; simp at this; omega
  have H1 : Hid (Cur B w1 c a len cap) := h1.2
  clear h1
  go_wp2_with fail
  refine (once_at B c _ _ a len cap _ (At.start (H1.out.alloc _))).mono ?_
  rintro e w2 ⟨q, rfl, h2⟩
  have T2 : Hid (Touch c w0 w2) := (T1.out.alloc _).trans h2.1
  have BX2 : Hid (Box w2 w1.heap.size (.int .i64 op) (.int .i64 x) (.int .i64 y)) := Box.touch (Box.new w1 _ _ _ _) h2.1 (by omega)
  have BY2 : Hid (Box w2 w.heap.size (.int .i64 0) (.int .i64 0) (.int .i64 0)) := Box.touch (Box.on BY1.out ((Below.refl _ _).alloc (Nat.le_refl _) _)) h2.1 (by omega)
  have H2 : Hid (Cur B w2 c a len cap) := h2.2
  have hw2 : w1.heap.size < w2.heap.size := by have := h2.1.size; simp at this; omega
  clear h2 BY1
  cases q
  · obtain ⟨i0, i1, i2, _, _, _⟩ := BX2.out
    obtain ⟨d0, d1, d2, g0, g1, g2⟩ := BY2.out
    obtain ⟨e0, e1, e2, _, _, _⟩ := (Box.mk d0 d1 d2 g0 g1 g2).set (.int .i64 op) (.int .i64 x) (.int .i64 y)
    go_wp2
    refine bodyPost_ret (v := .agg #[.int .i64 op, .int .i64 x, .int .i64 y]) (by simp [results, Try.results112, go_sem, e0, e1, e2]) rfl ?_
    exact ⟨op, x, y, rfl, bo, bx, by', ((T2.out.setNew (p := ⟨w.heap.size, 0, none⟩) hw0 _).setNew (p := ⟨w.heap.size, 1, none⟩) hw0 _).setNew (p := ⟨w.heap.size, 2, none⟩) hw0 _, ((H2.out.setFar (p := ⟨w.heap.size, 0, none⟩) (by simp; omega) (by simp; omega) _).setFar (p := ⟨w.heap.size, 1, none⟩) (by simp; omega) (by simp; omega) _).setFar (p := ⟨w.heap.size, 2, none⟩) (by simp; omega) (by simp; omega) _⟩
  · go_wp2_with fail
    refine (below_at B c _ _ a len cap _ (At.start H2.out)).mono ?_
    rintro e w3 ⟨r, rfl, hr0, hr1, hr2, hr3, h3⟩
    have hr := hr2 (by omega)
    clear hr1 hr2 hr3
    have T3 : Hid (Touch c w0 w3) := T2.out.trans h3.1
    have BX3 : Hid (Box w3 w1.heap.size (.int .i64 op) (.int .i64 x) (.int .i64 y)) := Box.touch BX2.out h3.1 (by omega)
    have BY3 : Hid (Box w3 w.heap.size (.int .i64 0) (.int .i64 0) (.int .i64 0)) := Box.touch BY2.out h3.1 (by omega)
    have H3 : Hid (Cur B w3 c a len cap) := h3.2
    have hw3 : w2.heap.size ≤ w3.heap.size := h3.1.size
    clear h3 BX2 BY2
    have hcase : r = 0 ∨ r = 1 ∨ r = 2 := by omega
    rcases hcase with rfl | rfl | rfl
    · go_wp2_with fail
      refine (below_at B c _ _ a len cap _ (At.start (H3.out.alloc _))).mono ?_
      rintro e w5 ⟨u, rfl, hu0, hu1, hu2, hu3, h5⟩
      have hu := hu2 (by omega)
      clear hu1 hu2 hu3
      obtain ⟨v, hv, hv0, hv1⟩ := row0 u hu0 hu H3.out.2.1 h5.1
      have T5 : Hid (Touch c w0 w5) := (T3.out.alloc _).trans h5.1
      have BX5 := Box.touch (Box.on BX3.out ((Below.refl _ _).alloc (Nat.le_refl _) _)) h5.1 (by omega)
      have BY5 := Box.touch (Box.on BY3.out ((Below.refl _ _).alloc (Nat.le_refl _) _)) h5.1 (by omega)
      have H5 : Hid (Cur B w5 c a len cap) := h5.2
      clear h5
      obtain ⟨c0, c1, c2, f0, f1, f2⟩ := BX5
      have BX6 := Box.set0 (Box.mk c0 c1 c2 f0 f1 f2) (.int .i64 v)
      have BY6 := BY5.far ⟨w1.heap.size, 0, none⟩ (.int .i64 v) (by simp; omega)
      have T6 : Hid (Touch c w0 (w5.setCell ⟨w1.heap.size, 0, none⟩ (.int .i64 v))) := T5.out.setNew (by simp; omega) _
      have H6 : Hid (Cur B (w5.setCell ⟨w1.heap.size, 0, none⟩ (.int .i64 v)) c a len cap) := H5.out.setFar (by simp; omega) (by simp; omega) _
      obtain ⟨i0, i1, i2, _, _, _⟩ := BX6
      obtain ⟨d0, d1, d2, g0, g1, g2⟩ := BY6
      obtain ⟨e0, e1, e2, _, _, _⟩ := (Box.mk d0 d1 d2 g0 g1 g2).set (.int .i64 v) (.int .i64 x) (.int .i64 y)
      go_wp2
      refine bodyPost_ret (v := .agg #[.int .i64 v, .int .i64 x, .int .i64 y]) (by simp [results, Try.results112, go_sem, e0, e1, e2]) rfl ?_
      exact ⟨v, x, y, rfl, ⟨hv0, hv1⟩, bx, by', ((T6.out.setNew (p := ⟨w.heap.size, 0, none⟩) hw0 _).setNew (p := ⟨w.heap.size, 1, none⟩) hw0 _).setNew (p := ⟨w.heap.size, 2, none⟩) hw0 _, ((H6.out.setFar (p := ⟨w.heap.size, 0, none⟩) (by simp; omega) (by simp; omega) _).setFar (p := ⟨w.heap.size, 1, none⟩) (by simp; omega) (by simp; omega) _).setFar (p := ⟨w.heap.size, 2, none⟩) (by simp; omega) (by simp; omega) _⟩
    · go_wp2_with fail
      refine (below_at B c _ _ a len cap _ (At.start (H3.out.alloc _))).mono ?_
      rintro e w5 ⟨u, rfl, hu0, hu1, hu2, hu3, h5⟩
      have hu := hu2 (by omega)
      clear hu1 hu2 hu3
      obtain ⟨v, hv, hv0, hv1⟩ := row1 u hu0 hu H3.out.2.1 h5.1
      have T5 : Hid (Touch c w0 w5) := (T3.out.alloc _).trans h5.1
      have BX5 := Box.touch (Box.on BX3.out ((Below.refl _ _).alloc (Nat.le_refl _) _)) h5.1 (by omega)
      have BY5 := Box.touch (Box.on BY3.out ((Below.refl _ _).alloc (Nat.le_refl _) _)) h5.1 (by omega)
      have H5 : Hid (Cur B w5 c a len cap) := h5.2
      clear h5
      obtain ⟨c0, c1, c2, f0, f1, f2⟩ := BX5
      have BX6 := Box.set1 (Box.mk c0 c1 c2 f0 f1 f2) (.int .i64 v)
      have BY6 := BY5.far ⟨w1.heap.size, 1, none⟩ (.int .i64 v) (by simp; omega)
      have T6 : Hid (Touch c w0 (w5.setCell ⟨w1.heap.size, 1, none⟩ (.int .i64 v))) := T5.out.setNew (by simp; omega) _
      have H6 : Hid (Cur B (w5.setCell ⟨w1.heap.size, 1, none⟩ (.int .i64 v)) c a len cap) := H5.out.setFar (by simp; omega) (by simp; omega) _
      obtain ⟨i0, i1, i2, _, _, _⟩ := BX6
      obtain ⟨d0, d1, d2, g0, g1, g2⟩ := BY6
      obtain ⟨e0, e1, e2, _, _, _⟩ := (Box.mk d0 d1 d2 g0 g1 g2).set (.int .i64 op) (.int .i64 v) (.int .i64 y)
      go_wp2
      refine bodyPost_ret (v := .agg #[.int .i64 op, .int .i64 v, .int .i64 y]) (by simp [results, Try.results112, go_sem, e0, e1, e2]) rfl ?_
      exact ⟨op, v, y, rfl, bo, ⟨hv0, hv1⟩, by', ((T6.out.setNew (p := ⟨w.heap.size, 0, none⟩) hw0 _).setNew (p := ⟨w.heap.size, 1, none⟩) hw0 _).setNew (p := ⟨w.heap.size, 2, none⟩) hw0 _, ((H6.out.setFar (p := ⟨w.heap.size, 0, none⟩) (by simp; omega) (by simp; omega) _).setFar (p := ⟨w.heap.size, 1, none⟩) (by simp; omega) (by simp; omega) _).setFar (p := ⟨w.heap.size, 2, none⟩) (by simp; omega) (by simp; omega) _⟩
    · go_wp2_with fail
      refine (below_at B c _ _ a len cap _ (At.start (H3.out.alloc _))).mono ?_
      rintro e w5 ⟨u, rfl, hu0, hu1, hu2, hu3, h5⟩
      have hu := hu2 (by omega)
      clear hu1 hu2 hu3
      obtain ⟨v, hv, hv0, hv1⟩ := row2 u hu0 hu H3.out.2.1 h5.1
      have T5 : Hid (Touch c w0 w5) := (T3.out.alloc _).trans h5.1
      have BX5 := Box.touch (Box.on BX3.out ((Below.refl _ _).alloc (Nat.le_refl _) _)) h5.1 (by omega)
      have BY5 := Box.touch (Box.on BY3.out ((Below.refl _ _).alloc (Nat.le_refl _) _)) h5.1 (by omega)
      have H5 : Hid (Cur B w5 c a len cap) := h5.2
      clear h5
      obtain ⟨c0, c1, c2, f0, f1, f2⟩ := BX5
      have BX6 := Box.set2 (Box.mk c0 c1 c2 f0 f1 f2) (.int .i64 v)
      have BY6 := BY5.far ⟨w1.heap.size, 2, none⟩ (.int .i64 v) (by simp; omega)
      have T6 : Hid (Touch c w0 (w5.setCell ⟨w1.heap.size, 2, none⟩ (.int .i64 v))) := T5.out.setNew (by simp; omega) _
      have H6 : Hid (Cur B (w5.setCell ⟨w1.heap.size, 2, none⟩ (.int .i64 v)) c a len cap) := H5.out.setFar (by simp; omega) (by simp; omega) _
      obtain ⟨i0, i1, i2, _, _, _⟩ := BX6
      obtain ⟨d0, d1, d2, g0, g1, g2⟩ := BY6
      obtain ⟨e0, e1, e2, _, _, _⟩ := (Box.mk d0 d1 d2 g0 g1 g2).set (.int .i64 op) (.int .i64 x) (.int .i64 v)
      go_wp2
      refine bodyPost_ret (v := .agg #[.int .i64 op, .int .i64 x, .int .i64 v]) (by simp [results, Try.results112, go_sem, e0, e1, e2]) rfl ?_
      exact ⟨op, x, v, rfl, bo, bx, ⟨hv0, hv1⟩, ((T6.out.setNew (p := ⟨w.heap.size, 0, none⟩) hw0 _).setNew (p := ⟨w.heap.size, 1, none⟩) hw0 _).setNew (p := ⟨w.heap.size, 2, none⟩) hw0 _, ((H6.out.setFar (p := ⟨w.heap.size, 0, none⟩) (by simp; omega) (by simp; omega) _).setFar (p := ⟨w.heap.size, 1, none⟩) (by simp; omega) (by simp; omega) _).setFar (p := ⟨w.heap.size, 2, none⟩) (by simp; omega) (by simp; omega) _⟩
end Cu
end Go.Proofs.Ytmbbombjlijknaa

/- Contracts of the laws' own functions on rows of steps. -/
namespace Go.Proofs.Ytmbbombjlijknaa
namespace St
open Go.ChangeShapes Go.WideShapes Go.ChangeAt Go.RowKit

theorem infoI : (Try.prog.info? 68).map (fun i => (i.zero, i.size, i.bytes)) = some (some (.agg #[.int .i64 0, .int .i64 0, .int .i64 0]), 3, 24) := by kernel_rfl

/-- The first n cells of block g are there and may be written. -/
def Room (w : World) (g n : Nat) : Prop := ∀ i, i < n → (∃ v, w.cell? ⟨g, i, none⟩ = some v) ∧ w.frozen? ⟨g, i, none⟩ = false
theorem Room.on {u v : World} {g n : Nat} (h : Room u g n) (hb : Below u.heap.size u v) : Room v g n := by
  intro i hi
  obtain ⟨⟨x, hx⟩, hf⟩ := h i hi
  have l : g < u.heap.size := cell_lt hx
  exact ⟨⟨x, (hb.cell l).trans hx⟩, (hb.frozen l).trans hf⟩
theorem Room.set {w : World} {g n : Nat} (h : Room w g n) (p : Addr) (v : Value) : Room (w.setCell p v) g n := by
  intro i hi
  obtain ⟨⟨x, hx⟩, hf⟩ := h i hi
  refine ⟨?_, by simpa using hf⟩
  by_cases e : p = ⟨g, i, none⟩
  · subst e; exact ⟨v, World.cell?_setCell_same _ _ _ hx⟩
  · exact ⟨x, (World.cell?_setCell_other _ _ _ _ e).trans hx⟩
theorem room_own {w : World} {B e n g cap q : Nat} {xs : List Value} (h : w.ownsRow B e q (.slice (some ⟨g, 0, none⟩) n cap) n xs) (hn : n ≤ cap) : Room w g (n * q) := by
  intro i hi
  obtain ⟨_, h | ⟨g', cap', cur, hv, _, hblk, _, _, hsz, _⟩⟩ := h
  · simp at h
  · injection hv with h1 h2 h3
    simp at h1
    subst h1 h3
    have hc : i < cur.size := by rw [hsz]; exact Nat.lt_of_lt_of_le hi (Nat.mul_le_mul_right _ hn)
    refine ⟨⟨cur[i], ?_⟩, ?_⟩
    · simp [World.cell?, hblk, hc]
    · simp [World.frozen?, hblk]

theorem row_made_lt {w : World} {B e n g cap q : Nat} {xs : List Value} (h : w.ownsRow B e q (.slice (some ⟨g, 0, none⟩) n cap) n xs) : g < w.heap.size := by
  obtain ⟨_, h | ⟨g', cap', cur, hv, _, hblk, _⟩⟩ := h
  · simp at h
  · injection hv with h1 h2 h3
    simp at h1
    subst h1
    rcases Nat.lt_or_ge g w.heap.size with h | h
    · exact h
    · rw [Array.getElem?_eq_none h] at hblk
      simp at hblk

/-- Three cells written: what the row then holds. -/
theorem row_next {w : World} {g k : Nat} {l : List Tx.Ins} (hk : k < l.length) (hroom : Room w g (l.length * 3)) (hr : Row w g 0 (l.take k)) :
    Row (((w.setCell ⟨g, k * 3, none⟩ (.int .i64 l[k].1)).setCell ⟨g, k * 3 + 1, none⟩ (.int .i64 l[k].2.1)).setCell ⟨g, k * 3 + 2, none⟩ (.int .i64 l[k].2.2)) g 0 (l.take (k + 1)) := by
  have ne : ∀ a b : Nat, a ≠ b → (⟨g, a, none⟩ : Addr) ≠ ⟨g, b, none⟩ := fun a b h e => h (congrArg Addr.off e)
  have far : ∀ i, i < k * 3 → ∀ u, w.cell? ⟨g, i, none⟩ = some u → (((w.setCell ⟨g, k * 3, none⟩ (.int .i64 l[k].1)).setCell ⟨g, k * 3 + 1, none⟩ (.int .i64 l[k].2.1)).setCell ⟨g, k * 3 + 2, none⟩ (.int .i64 l[k].2.2)).cell? ⟨g, i, none⟩ = some u := by
    intro i hi u hu
    rw [World.cell?_setCell_other _ _ _ _ (ne _ _ (by omega)), World.cell?_setCell_other _ _ _ _ (ne _ _ (by omega)), World.cell?_setCell_other _ _ _ _ (ne _ _ (by omega))]
    exact hu
  obtain ⟨⟨x0, h0⟩, _⟩ := hroom (k * 3) (by omega)
  obtain ⟨⟨x1, h1⟩, _⟩ := hroom (k * 3 + 1) (by omega)
  obtain ⟨⟨x2, h2⟩, _⟩ := hroom (k * 3 + 2) (by omega)
  intro j x hj
  rw [List.getElem?_take] at hj
  split at hj
  · rename_i hjk
    by_cases e : j = k
    · subst e
      rw [List.getElem?_eq_getElem hk] at hj
      injection hj with hj
      subst hj
      rw [Nat.zero_add]
      refine ⟨?_, ?_, ?_⟩
      · rw [World.cell?_setCell_other _ _ _ _ (ne _ _ (by omega)), World.cell?_setCell_other _ _ _ _ (ne _ _ (by omega))]
        exact World.cell?_setCell_same _ _ _ h0
      · rw [World.cell?_setCell_other _ _ _ _ (ne _ _ (by omega))]
        exact World.cell?_setCell_same _ _ _ ((World.cell?_setCell_other _ _ _ _ (ne _ _ (by omega))).trans h1)
      · exact World.cell?_setCell_same _ _ _ ((World.cell?_setCell_other _ _ _ _ (ne _ _ (by omega))).trans ((World.cell?_setCell_other _ _ _ _ (ne _ _ (by omega))).trans h2))
    · have hjt : (l.take k)[j]? = some x := by rw [List.getElem?_take, if_pos (by omega)]; exact hj
      obtain ⟨a0, a1, a2⟩ := hr j x hjt
      rw [Nat.zero_add] at a0 a1 a2 ⊢
      exact ⟨far _ (by omega) _ a0, far _ (by omega) _ a1, far _ (by omega) _ a2⟩
  · simp at hj

end St
end Go.Proofs.Ytmbbombjlijknaa

/- Contracts of the laws' marking of a row of steps. -/
namespace Go.Proofs.Ytmbbombjlijknaa
namespace St
open Go.ChangeShapes Go.WideShapes Go.ChangeAt Go.RowKit

/-- The marks 1, 2, 3 .. -/
def marks (n : Nat) : List Tx.Ins := (List.range n).map fun (j : Nat) => (((j : Int) * 3 + 1, (j : Int) * 3 + 2, (j : Int) * 3 + 3) : Tx.Ins)
theorem marks_len (n : Nat) : (marks n).length = n := by simp [marks]
theorem marks_at {n k : Nat} (h : k < n) : (marks n)[k]? = some ((k : Int) * 3 + 1, (k : Int) * 3 + 2, (k : Int) * 3 + 3) := by simp [marks, h]

/-- Only block g has turned. -/
structure Only (g : Nat) (u v : World) : Prop where
  os : v.os = u.os
  tape : v.tape = u.tape
  output : v.output = u.output
  size : v.heap.size = u.heap.size
  block : ∀ k, k ≠ g → v.heap[k]? = u.heap[k]?
theorem Only.refl (g : Nat) (w : World) : Only g w w := ⟨rfl, rfl, rfl, rfl, fun _ _ => rfl⟩
theorem Only.set {g : Nat} {u v : World} (h : Only g u v) (o : Nat) (x : Value) : Only g u (v.setCell ⟨g, o, none⟩ x) := by
  have hb := (Below.refl 0 v).setCell (p := ⟨g, o, none⟩) (Nat.zero_le _) x
  exact ⟨hb.os.trans h.os, hb.tape.trans h.tape, hb.output.trans h.output, by simp [h.size], fun k hk => (Below.heap_setCell v ⟨g, o, none⟩ x k hk).trans (h.block k hk)⟩
theorem Only.row {g g' o : Nat} {u v : World} {l : List Tx.Ins} (h : Only g u v) (hne : g' ≠ g) (hr : Row u g' o l) : Row v g' o l := by
  intro j x hj
  obtain ⟨a, b, c⟩ := hr j x hj
  exact ⟨(World.cell?_of_block (w := u) (h.block g' hne)).trans a, (World.cell?_of_block (w := u) (h.block g' hne)).trans b, (World.cell?_of_block (w := u) (h.block g' hne)).trans c⟩
theorem Only.below {g B : Nat} {u v : World} (h : Only g u v) (hg : B ≤ g) : Below B u v :=
  ⟨h.os, h.tape, h.output, by rw [h.size]; exact Nat.le_refl _, fun k hk => h.block k (by omega)⟩

end St
end Go.Proofs.Ytmbbombjlijknaa

/- Rows of steps that a call has made. -/
namespace Go.Proofs.Ytmbbombjlijknaa
namespace St
open Go.ChangeShapes Go.WideShapes Go.ChangeAt Go.RowKit

/-- The cells of steps, one behind the other. -/
def flat (l : List Tx.Ins) : List Value := l.flatMap fun x => [.int .i64 x.1, .int .i64 x.2.1, .int .i64 x.2.2]
theorem flat_snoc (l : List Tx.Ins) (x : Tx.Ins) : flat (l ++ [x]) = flat l ++ [.int .i64 x.1, .int .i64 x.2.1, .int .i64 x.2.2] := by simp [flat]
theorem flat_at (l : List Tx.Ins) : ∀ (j : Nat) (x : Tx.Ins), l[j]? = some x → (flat l)[j * 3]? = some (.int .i64 x.1) ∧ (flat l)[j * 3 + 1]? = some (.int .i64 x.2.1) ∧ (flat l)[j * 3 + 2]? = some (.int .i64 x.2.2) := by
  induction l with
  | nil => intro j x h; simp at h
  | cons y l ih =>
    intro j x h
    have e : flat (y :: l) = .int .i64 y.1 :: .int .i64 y.2.1 :: .int .i64 y.2.2 :: flat l := by simp [flat]
    rw [e]
    cases j with
    | zero => simp at h; subst h; exact ⟨rfl, rfl, rfl⟩
    | succ j =>
      have h' : l[j]? = some x := by simpa using h
      have := ih j x h'
      have e3 : (j + 1) * 3 = j * 3 + 3 := by omega
      rw [e3]
      simpa using this

/-- A row of steps that the call has made: the slice, its steps, room to write. -/
def Got (B : Nat) (w : World) (v : Value) (l : List Tx.Ins) : Prop :=
  ∃ g cap, v = .slice (some ⟨g, 0, none⟩) l.length cap ∧ B ≤ g ∧ g < w.heap.size ∧ Row w g 0 l ∧ Room w g (l.length * 3)
theorem got_of {w : World} {B : Nat} {e : TypeId} {v : Value} {l : List Tx.Ins} (h : w.ownsRow B e 3 v l.length (flat l)) (hv : v ≠ .slice none 0 0) : Got B w v l := by
  have hc := @World.ownsRow.cells w B e 3 v l.length (flat l) h
  have hl := @World.ownsRow.lt w B e 3 v l.length (flat l) h
  have h' := h
  obtain ⟨_, ⟨h, _⟩ | ⟨g, cap, cur, rfl, hB, _, hcap, _⟩⟩ := h
  · exact absurd h hv
  · refine ⟨g, cap, rfl, hB, (hl g rfl).2, fun j x hj => ?_, room_own h' hcap⟩
    obtain ⟨f0, f1, f2⟩ := flat_at l j x hj
    have g0 := hc (g := g) rfl _ _ f0
    have g1 := hc (g := g) rfl _ _ f1
    have g2 := hc (g := g) rfl _ _ f2
    simp only [Go.WideShapes.add_plain] at g0 g1 g2
    exact ⟨g0, by simpa [Nat.add_assoc] using g1, by simpa [Nat.add_assoc] using g2⟩
theorem Got.on {B : Nat} {u w : World} {v : Value} {l : List Tx.Ins} (h : Got B u v l) (hb : Below u.heap.size u w) : Got B w v l := by
  obtain ⟨g, cap, hv, h1, h2, h3, h4⟩ := h
  exact ⟨g, cap, hv, h1, Nat.lt_of_lt_of_le h2 hb.size, h3.on hb, h4.on hb⟩
theorem got_nil (w : World) (B : Nat) (hB : B ≤ w.heap.size) (t : TypeId) : Got B (w.alloc (.cells #[] t)) (.slice (some ⟨w.heap.size, 0, none⟩) 0 0) [] :=
  ⟨w.heap.size, 0, rfl, hB, by simp, fun j x h => by simp at h, fun i h => by simp at h⟩
theorem got_nil2 (w : World) (o : Obj) (B : Nat) (hB : B ≤ w.heap.size) (t : TypeId) : Got B ((w.alloc o).alloc (.cells #[] t)) (.slice (some ⟨w.heap.size + 1, 0, none⟩) 0 0) [] :=
  ⟨w.heap.size + 1, 0, rfl, by omega, by simp, fun j x h => by simp at h, fun i h => by simp at h⟩
theorem own_base {w : World} {B B' : Nat} {e : TypeId} {q n : Nat} {x : Value} {xs : List Value} (h : w.ownsRow B e q x n xs) (hB : B' ≤ B) : w.ownsRow B' e q x n xs := by
  obtain ⟨q1, q2 | ⟨g1, c1, cur1, q3, q4, q5⟩⟩ := h
  · exact ⟨q1, Or.inl q2⟩
  · exact ⟨q1, Or.inr ⟨g1, c1, cur1, q3, Nat.le_trans hB q4, q5⟩⟩
theorem own_ne {w : World} {B B' : Nat} {e e' : TypeId} {q q' n m : Nat} {x y : Value} {xs ys : List Value} (h : w.ownsRow B e q x n xs) (h' : w.ownsRow B' e' q' y m ys) (hne : e ≠ e') {g : Nat} (hg : x.ownBlock = some g) : y.ownBlock ≠ some g := by
  intro hy
  obtain ⟨_, ⟨rfl, _⟩ | ⟨g1, c1, cur1, rfl, _, hb1, _⟩⟩ := h
  · simp [Value.ownBlock] at hg
  · obtain ⟨_, ⟨rfl, _⟩ | ⟨g2, c2, cur2, rfl, _, hb2, _⟩⟩ := h'
    · simp [Value.ownBlock] at hy
    · simp only [Value.ownBlock, Option.some.injEq] at hg hy
      subst hg hy
      rw [hb1] at hb2
      simp at hb2
      exact hne hb2.2
theorem keep_own {u v : World} {B n q : Nat} {e : TypeId} {x : Value} {xs : List Value} (h : u.ownsRow B e q x n xs) (hb : Below u.heap.size u v) : v.ownsRow B e q x n xs :=
  h.kept (row := none) ⟨hb.os, hb.tape, hb.output, hb.size, fun k hk _ => hb.block k hk⟩ (by
    cases hx : x.ownBlock with
    | none => exact Or.inl rfl
    | some g => exact Or.inr (by simp))

/-- The cells of steps, where they lie. -/
theorem flat_len (l : List Tx.Ins) : (flat l).length = l.length * 3 := by
  induction l with
  | nil => rfl
  | cons x l ih => have e : flat (x :: l) = .int .i64 x.1 :: .int .i64 x.2.1 :: .int .i64 x.2.2 :: flat l := by simp [flat]
                   rw [e]; simp [ih]; omega
theorem flat_append (l r : List Tx.Ins) : flat (l ++ r) = flat l ++ flat r := by simp [flat]
theorem flat_one (l : List Tx.Ins) : ∀ u ∈ flat l, u.oneCell' = true := by
  intro u hu
  obtain ⟨x, _, hx⟩ := List.mem_flatMap.1 hu
  simp at hx
  rcases hx with rfl | rfl | rfl <;> rfl
theorem flat_get {l : List Tx.Ins} {j : Nat} {u : Value} (h : (flat l)[j]? = some u) : ∃ x, l[j / 3]? = some x ∧ ((j % 3 = 0 ∧ u = .int .i64 x.1) ∨ (j % 3 = 1 ∧ u = .int .i64 x.2.1) ∨ (j % 3 = 2 ∧ u = .int .i64 x.2.2)) := by
  have hj : j < (flat l).length := (List.getElem?_eq_some_iff.1 h).1
  rw [flat_len] at hj
  have hq : j / 3 < l.length := by omega
  refine ⟨l[j / 3], List.getElem?_eq_getElem hq, ?_⟩
  obtain ⟨f0, f1, f2⟩ := flat_at l (j / 3) _ (List.getElem?_eq_getElem hq)
  have hm : j % 3 = 0 ∨ j % 3 = 1 ∨ j % 3 = 2 := by omega
  rcases hm with hm | hm | hm
  · refine .inl ⟨hm, ?_⟩
    have e : j / 3 * 3 = j := by omega
    rw [e, h] at f0; exact Option.some.inj f0
  · refine .inr (.inl ⟨hm, ?_⟩)
    have e : j / 3 * 3 + 1 = j := by omega
    rw [e, h] at f1; exact Option.some.inj f1
  · refine .inr (.inr ⟨hm, ?_⟩)
    have e : j / 3 * 3 + 2 = j := by omega
    rw [e, h] at f2; exact Option.some.inj f2
theorem Row.flat {w : World} {g o : Nat} {l : List Tx.Ins} (h : Row w g o l) : ∀ j u, (flat l)[j]? = some u → w.cell? ((⟨g, o, none⟩ : Addr).add j) = some u := by
  intro j u hu
  obtain ⟨x, hx, hh⟩ := flat_get hu
  obtain ⟨h0, h1, h2⟩ := h _ _ hx
  rw [Go.WideShapes.add_plain]
  rcases hh with ⟨hm, rfl⟩ | ⟨hm, rfl⟩ | ⟨hm, rfl⟩
  · have e : o + j / 3 * 3 = o + j := by omega
    rw [e] at h0; exact h0
  · have e : o + j / 3 * 3 + 1 = o + j := by omega
    rw [e] at h1; exact h1
  · have e : o + j / 3 * 3 + 2 = o + j := by omega
    rw [e] at h2; exact h2
/-- A literal of steps. -/
theorem got_lit (w : World) (B : Nat) (hB : B ≤ w.heap.size) (l : List Tx.Ins) (cap : Nat) (t : TypeId) (cs : Array Value) (hcs : cs = (flat l).toArray) : Got B (w.alloc (.cells cs t)) (.slice (some ⟨w.heap.size, 0, none⟩) l.length cap) l := by
  subst hcs
  have hc : ∀ j u, (flat l)[j]? = some u → (w.alloc (.cells (flat l).toArray t)).cell? ⟨w.heap.size, j, none⟩ = some u := by
    intro j u hu
    simp [go_sem, hu]
  refine ⟨w.heap.size, cap, rfl, hB, by simp, fun j x hj => ?_, fun i hi => ?_⟩
  · obtain ⟨f0, f1, f2⟩ := flat_at l j x hj
    rw [Nat.zero_add]
    exact ⟨hc _ _ f0, hc _ _ f1, hc _ _ f2⟩
  · have : i < (flat l).length := by rw [flat_len]; exact hi
    exact ⟨⟨_, hc i _ (List.getElem?_eq_getElem this)⟩, by simp [go_sem]⟩
theorem Got.base {B B' : Nat} {w : World} {v : Value} {l : List Tx.Ins} (h : Got B w v l) (hB : B' ≤ B) : Got B' w v l := by
  obtain ⟨g, cap, hv, h1, h2, h3, h4⟩ := h
  exact ⟨g, cap, hv, Nat.le_trans hB h1, h2, h3, h4⟩
end St
end Go.Proofs.Ytmbbombjlijknaa
