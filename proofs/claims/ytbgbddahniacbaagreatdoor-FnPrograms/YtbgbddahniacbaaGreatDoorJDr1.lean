/- The contract of the draw of a step. -/
import Derived.Test.YtbgbddahniacbaaGreatDoorJDr0
namespace Go.Proofs.YtbgbddahniacbaaGreatDoor
namespace Cu
open Go.ChangeShapes Go.WideShapes Go.ChangeAt Go.RowKit St

/-- Some step has been drawn, its Op from 1 to 20, and the cursor stands. -/
def DrewIns (B : Nat) (w0 : World) (c : Nat) (a : Option Addr) (len cap : Nat) (e : Ending) (w' : World) : Prop :=
  ∃ op x y : Int, e = .returned (.agg #[.int .i64 op, .int .i64 x, .int .i64 y]) ∧ (-9223372036854775808 ≤ op ∧ op ≤ 9223372036854775807) ∧ (-9223372036854775808 ≤ x ∧ x ≤ 9223372036854775807) ∧ (-9223372036854775808 ≤ y ∧ y ≤ 9223372036854775807) ∧ At B w0 w' c a len cap

set_option maxHeartbeats 4000000 in
theorem drawInsn_at (B c : Nat) (w0 w : World) (a : Option Addr) (len cap : Nat) (n : Int) (h : At B w0 w c a len cap) :
    Calls Tryz.prog 65 #[.pointer (some ⟨c, 0, none⟩), .int .i64 n] w fun e w' => DrewIns B w0 c a len cap e w' := by
  have H : Hid (At B w0 w c a len cap) := h
  have hcw : c < w.heap.size := h.2.2.1
  have hBc : B ≤ c := h.2.1
  have hw0 : w0.heap.size ≤ w.heap.size := h.1.size
  clear h
  go_enter Tryz.func65, Tryz.ntmps65
  go_wp2_with fail
  refine (below_at B c _ _ a len cap _ (At.start (H.out.2.alloc _))).mono ?_
  rintro e w1 ⟨r, rfl, hr0, hr1, hr2, hr3, h1⟩
  have hr := hr2 (by omega)
  clear hr1 hr2 hr3
  have H1 : Hid (At B (w.alloc (.cells #[.int .i64 0, .int .i64 0, .int .i64 0] 73)) w1 c a len cap) := h1
  have T1 : Hid (Touch c w0 w1) := (H.out.1.alloc _).trans h1.1
  have BY1 : Hid (Box w1 w.heap.size (.int .i64 0) (.int .i64 0) (.int .i64 0)) := Box.touch (Box.new w _ _ _ _) h1.1 (by omega)
  have hw1 : w.heap.size < w1.heap.size := by have := h1.1.size; simp at this; omega
  clear h1
  have hcase : r = 0 ∨ r = 1 ∨ r = 2 ∨ r = 3 ∨ r = 4 ∨ r = 5 ∨ r = 6 ∨ r = 7 ∨ r = 8 ∨ r = 9 ∨ r = 10 ∨ r = 11 ∨ r = 12 ∨ r = 13 ∨ r = 14 ∨ r = 15 ∨ r = 16 ∨ r = 17 ∨ r = 18 ∨ r = 19 := by omega
  rcases hcase with rfl | rfl | rfl | rfl | rfl | rfl | rfl | rfl | rfl | rfl | rfl | rfl | rfl | rfl | rfl | rfl | rfl | rfl | rfl | rfl
  · go_wp2_with fail
    refine (drawWord_at B c _ _ a len cap (At.start (H1.out.2.alloc _))).mono ?_
    rintro e w3 ⟨x1, rfl, q10, q11, k1⟩
    have hI : w.heap.size < w3.heap.size := by have := k1.1.size; simp at this; omega
    have BX3 := Box.touch (Box.new w1 (.int .i64 1) (.int .i64 0) (.int .i64 0) 73) k1.1 (by omega)
    have BY3 := Box.touch (Box.on BY1.out ((Below.refl _ _).alloc (Nat.le_refl _) (.cells #[.int .i64 1, .int .i64 0, .int .i64 0] 73))) k1.1 (by omega)
    have T3 : Hid (Touch c w0 w3) := (T1.out.alloc _).trans k1.1
    have C3 : Hid (Cur B w3 c a len cap) := k1.2
    clear k1
    obtain ⟨c0, c1, c2, f0, f1, f2⟩ := BX3
    have BX4 := (Box.mk c0 c1 c2 f0 f1 f2).set1 (.int .i64 x1)
    have BY4 := BY3.far ⟨w1.heap.size, 1, none⟩ (.int .i64 x1) (by simp; omega)
    have TT : Hid (Touch c w0 (w3.setCell ⟨w1.heap.size, 1, none⟩ (.int .i64 x1))) := T3.out.setNew (by simp; omega) _
    have CC : Hid (Cur B (w3.setCell ⟨w1.heap.size, 1, none⟩ (.int .i64 x1)) c a len cap) := C3.out.setFar (by simp; omega) (by simp; omega) _
    obtain ⟨i0, i1, i2, _, _, _⟩ := BX4
    obtain ⟨d0, d1, d2, g0, g1, g2⟩ := BY4
    obtain ⟨e0, e1, e2, _, _, _⟩ := (Box.mk d0 d1 d2 g0 g1 g2).set (.int .i64 1) (.int .i64 x1) (.int .i64 0)
    go_wp2
    refine bodyPost_ret (v := .agg #[.int .i64 1, .int .i64 x1, .int .i64 0]) (by simp [results, Tryz.results65, go_sem, e0, e1, e2]) rfl ?_
    exact ⟨1, x1, 0, rfl, by omega, by omega, by omega, ((TT.out.setNew (p := ⟨w.heap.size, 0, none⟩) hw0 _).setNew (p := ⟨w.heap.size, 1, none⟩) hw0 _).setNew (p := ⟨w.heap.size, 2, none⟩) hw0 _, ((CC.out.setFar (p := ⟨w.heap.size, 0, none⟩) (by simp; omega) (by simp; omega) _).setFar (p := ⟨w.heap.size, 1, none⟩) (by simp; omega) (by simp; omega) _).setFar (p := ⟨w.heap.size, 2, none⟩) (by simp; omega) (by simp; omega) _⟩
  · go_wp2_with fail
    refine (below_at B c _ _ a len cap _ (At.start (H1.out.2.alloc _))).mono ?_
    rintro e w3 ⟨x1, rfl, q10, q11, q12, q13, k1⟩
    have hI : w.heap.size < w3.heap.size := by have := k1.1.size; simp at this; omega
    have BX3 := Box.touch (Box.new w1 (.int .i64 2) (.int .i64 0) (.int .i64 0) 73) k1.1 (by omega)
    have BY3 := Box.touch (Box.on BY1.out ((Below.refl _ _).alloc (Nat.le_refl _) (.cells #[.int .i64 2, .int .i64 0, .int .i64 0] 73))) k1.1 (by omega)
    have T3 : Hid (Touch c w0 w3) := (T1.out.alloc _).trans k1.1
    have C3 : Hid (Cur B w3 c a len cap) := k1.2
    clear k1
    obtain ⟨c0, c1, c2, f0, f1, f2⟩ := BX3
    have BX4 := (Box.mk c0 c1 c2 f0 f1 f2).set1 (.int .i64 x1)
    have BY4 := BY3.far ⟨w1.heap.size, 1, none⟩ (.int .i64 x1) (by simp; omega)
    have TT : Hid (Touch c w0 (w3.setCell ⟨w1.heap.size, 1, none⟩ (.int .i64 x1))) := T3.out.setNew (by simp; omega) _
    have CC : Hid (Cur B (w3.setCell ⟨w1.heap.size, 1, none⟩ (.int .i64 x1)) c a len cap) := C3.out.setFar (by simp; omega) (by simp; omega) _
    obtain ⟨i0, i1, i2, _, _, _⟩ := BX4
    obtain ⟨d0, d1, d2, g0, g1, g2⟩ := BY4
    obtain ⟨e0, e1, e2, _, _, _⟩ := (Box.mk d0 d1 d2 g0 g1 g2).set (.int .i64 2) (.int .i64 x1) (.int .i64 0)
    go_wp2
    refine bodyPost_ret (v := .agg #[.int .i64 2, .int .i64 x1, .int .i64 0]) (by simp [results, Tryz.results65, go_sem, e0, e1, e2]) rfl ?_
    exact ⟨2, x1, 0, rfl, by omega, by omega, by omega, ((TT.out.setNew (p := ⟨w.heap.size, 0, none⟩) hw0 _).setNew (p := ⟨w.heap.size, 1, none⟩) hw0 _).setNew (p := ⟨w.heap.size, 2, none⟩) hw0 _, ((CC.out.setFar (p := ⟨w.heap.size, 0, none⟩) (by simp; omega) (by simp; omega) _).setFar (p := ⟨w.heap.size, 1, none⟩) (by simp; omega) (by simp; omega) _).setFar (p := ⟨w.heap.size, 2, none⟩) (by simp; omega) (by simp; omega) _⟩
  · go_wp2_with fail
    refine (below_at B c _ _ a len cap _ (At.start (H1.out.2.alloc _))).mono ?_
    rintro e w3 ⟨x1, rfl, q10, q11, q12, q13, k1⟩
    have hI : w.heap.size < w3.heap.size := by have := k1.1.size; simp at this; omega
    have BX3 := Box.touch (Box.new w1 (.int .i64 3) (.int .i64 0) (.int .i64 0) 73) k1.1 (by omega)
    have BY3 := Box.touch (Box.on BY1.out ((Below.refl _ _).alloc (Nat.le_refl _) (.cells #[.int .i64 3, .int .i64 0, .int .i64 0] 73))) k1.1 (by omega)
    have T3 : Hid (Touch c w0 w3) := (T1.out.alloc _).trans k1.1
    have C3 : Hid (Cur B w3 c a len cap) := k1.2
    clear k1
    obtain ⟨c0, c1, c2, f0, f1, f2⟩ := BX3
    have BX4 := (Box.mk c0 c1 c2 f0 f1 f2).set1 (.int .i64 x1)
    have BY4 := BY3.far ⟨w1.heap.size, 1, none⟩ (.int .i64 x1) (by simp; omega)
    have TT : Hid (Touch c w0 (w3.setCell ⟨w1.heap.size, 1, none⟩ (.int .i64 x1))) := T3.out.setNew (by simp; omega) _
    have CC : Hid (Cur B (w3.setCell ⟨w1.heap.size, 1, none⟩ (.int .i64 x1)) c a len cap) := C3.out.setFar (by simp; omega) (by simp; omega) _
    obtain ⟨i0, i1, i2, _, _, _⟩ := BX4
    obtain ⟨d0, d1, d2, g0, g1, g2⟩ := BY4
    obtain ⟨e0, e1, e2, _, _, _⟩ := (Box.mk d0 d1 d2 g0 g1 g2).set (.int .i64 3) (.int .i64 x1) (.int .i64 0)
    go_wp2
    refine bodyPost_ret (v := .agg #[.int .i64 3, .int .i64 x1, .int .i64 0]) (by simp [results, Tryz.results65, go_sem, e0, e1, e2]) rfl ?_
    exact ⟨3, x1, 0, rfl, by omega, by omega, by omega, ((TT.out.setNew (p := ⟨w.heap.size, 0, none⟩) hw0 _).setNew (p := ⟨w.heap.size, 1, none⟩) hw0 _).setNew (p := ⟨w.heap.size, 2, none⟩) hw0 _, ((CC.out.setFar (p := ⟨w.heap.size, 0, none⟩) (by simp; omega) (by simp; omega) _).setFar (p := ⟨w.heap.size, 1, none⟩) (by simp; omega) (by simp; omega) _).setFar (p := ⟨w.heap.size, 2, none⟩) (by simp; omega) (by simp; omega) _⟩
  · obtain ⟨d0, d1, d2, g0, g1, g2⟩ := BY1.out
    obtain ⟨e0, e1, e2, _, _, _⟩ := Box.on ((Box.mk d0 d1 d2 g0 g1 g2).set (.int .i64 4) (.int .i64 0) (.int .i64 0)) ((Below.refl _ _).alloc (Nat.le_refl _) (.cells #[.int .i64 4, .int .i64 0, .int .i64 0] 73))
    go_wp2
    refine bodyPost_ret (v := .agg #[.int .i64 4, .int .i64 0, .int .i64 0]) (by simp [results, Tryz.results65, go_sem, e0, e1, e2]) rfl ?_
    exact ⟨4, 0, 0, rfl, by omega, by omega, by omega, (((T1.out.setNew (p := ⟨w.heap.size, 0, none⟩) hw0 _).setNew (p := ⟨w.heap.size, 1, none⟩) hw0 _).setNew (p := ⟨w.heap.size, 2, none⟩) hw0 _).alloc _, (((H1.out.2.setFar (p := ⟨w.heap.size, 0, none⟩) (by simp; omega) (by simp; omega) _).setFar (p := ⟨w.heap.size, 1, none⟩) (by simp; omega) (by simp; omega) _).setFar (p := ⟨w.heap.size, 2, none⟩) (by simp; omega) (by simp; omega) _).alloc _⟩
  · obtain ⟨d0, d1, d2, g0, g1, g2⟩ := BY1.out
    obtain ⟨e0, e1, e2, _, _, _⟩ := Box.on ((Box.mk d0 d1 d2 g0 g1 g2).set (.int .i64 5) (.int .i64 0) (.int .i64 0)) ((Below.refl _ _).alloc (Nat.le_refl _) (.cells #[.int .i64 5, .int .i64 0, .int .i64 0] 73))
    go_wp2
    refine bodyPost_ret (v := .agg #[.int .i64 5, .int .i64 0, .int .i64 0]) (by simp [results, Tryz.results65, go_sem, e0, e1, e2]) rfl ?_
    exact ⟨5, 0, 0, rfl, by omega, by omega, by omega, (((T1.out.setNew (p := ⟨w.heap.size, 0, none⟩) hw0 _).setNew (p := ⟨w.heap.size, 1, none⟩) hw0 _).setNew (p := ⟨w.heap.size, 2, none⟩) hw0 _).alloc _, (((H1.out.2.setFar (p := ⟨w.heap.size, 0, none⟩) (by simp; omega) (by simp; omega) _).setFar (p := ⟨w.heap.size, 1, none⟩) (by simp; omega) (by simp; omega) _).setFar (p := ⟨w.heap.size, 2, none⟩) (by simp; omega) (by simp; omega) _).alloc _⟩
  · obtain ⟨d0, d1, d2, g0, g1, g2⟩ := BY1.out
    obtain ⟨e0, e1, e2, _, _, _⟩ := Box.on ((Box.mk d0 d1 d2 g0 g1 g2).set (.int .i64 6) (.int .i64 0) (.int .i64 0)) ((Below.refl _ _).alloc (Nat.le_refl _) (.cells #[.int .i64 6, .int .i64 0, .int .i64 0] 73))
    go_wp2
    refine bodyPost_ret (v := .agg #[.int .i64 6, .int .i64 0, .int .i64 0]) (by simp [results, Tryz.results65, go_sem, e0, e1, e2]) rfl ?_
    exact ⟨6, 0, 0, rfl, by omega, by omega, by omega, (((T1.out.setNew (p := ⟨w.heap.size, 0, none⟩) hw0 _).setNew (p := ⟨w.heap.size, 1, none⟩) hw0 _).setNew (p := ⟨w.heap.size, 2, none⟩) hw0 _).alloc _, (((H1.out.2.setFar (p := ⟨w.heap.size, 0, none⟩) (by simp; omega) (by simp; omega) _).setFar (p := ⟨w.heap.size, 1, none⟩) (by simp; omega) (by simp; omega) _).setFar (p := ⟨w.heap.size, 2, none⟩) (by simp; omega) (by simp; omega) _).alloc _⟩
  · obtain ⟨d0, d1, d2, g0, g1, g2⟩ := BY1.out
    obtain ⟨e0, e1, e2, _, _, _⟩ := Box.on ((Box.mk d0 d1 d2 g0 g1 g2).set (.int .i64 7) (.int .i64 0) (.int .i64 0)) ((Below.refl _ _).alloc (Nat.le_refl _) (.cells #[.int .i64 7, .int .i64 0, .int .i64 0] 73))
    go_wp2
    refine bodyPost_ret (v := .agg #[.int .i64 7, .int .i64 0, .int .i64 0]) (by simp [results, Tryz.results65, go_sem, e0, e1, e2]) rfl ?_
    exact ⟨7, 0, 0, rfl, by omega, by omega, by omega, (((T1.out.setNew (p := ⟨w.heap.size, 0, none⟩) hw0 _).setNew (p := ⟨w.heap.size, 1, none⟩) hw0 _).setNew (p := ⟨w.heap.size, 2, none⟩) hw0 _).alloc _, (((H1.out.2.setFar (p := ⟨w.heap.size, 0, none⟩) (by simp; omega) (by simp; omega) _).setFar (p := ⟨w.heap.size, 1, none⟩) (by simp; omega) (by simp; omega) _).setFar (p := ⟨w.heap.size, 2, none⟩) (by simp; omega) (by simp; omega) _).alloc _⟩
  · obtain ⟨d0, d1, d2, g0, g1, g2⟩ := BY1.out
    obtain ⟨e0, e1, e2, _, _, _⟩ := Box.on ((Box.mk d0 d1 d2 g0 g1 g2).set (.int .i64 8) (.int .i64 0) (.int .i64 0)) ((Below.refl _ _).alloc (Nat.le_refl _) (.cells #[.int .i64 8, .int .i64 0, .int .i64 0] 73))
    go_wp2
    refine bodyPost_ret (v := .agg #[.int .i64 8, .int .i64 0, .int .i64 0]) (by simp [results, Tryz.results65, go_sem, e0, e1, e2]) rfl ?_
    exact ⟨8, 0, 0, rfl, by omega, by omega, by omega, (((T1.out.setNew (p := ⟨w.heap.size, 0, none⟩) hw0 _).setNew (p := ⟨w.heap.size, 1, none⟩) hw0 _).setNew (p := ⟨w.heap.size, 2, none⟩) hw0 _).alloc _, (((H1.out.2.setFar (p := ⟨w.heap.size, 0, none⟩) (by simp; omega) (by simp; omega) _).setFar (p := ⟨w.heap.size, 1, none⟩) (by simp; omega) (by simp; omega) _).setFar (p := ⟨w.heap.size, 2, none⟩) (by simp; omega) (by simp; omega) _).alloc _⟩
  · obtain ⟨d0, d1, d2, g0, g1, g2⟩ := BY1.out
    obtain ⟨e0, e1, e2, _, _, _⟩ := Box.on ((Box.mk d0 d1 d2 g0 g1 g2).set (.int .i64 9) (.int .i64 0) (.int .i64 0)) ((Below.refl _ _).alloc (Nat.le_refl _) (.cells #[.int .i64 9, .int .i64 0, .int .i64 0] 73))
    go_wp2
    refine bodyPost_ret (v := .agg #[.int .i64 9, .int .i64 0, .int .i64 0]) (by simp [results, Tryz.results65, go_sem, e0, e1, e2]) rfl ?_
    exact ⟨9, 0, 0, rfl, by omega, by omega, by omega, (((T1.out.setNew (p := ⟨w.heap.size, 0, none⟩) hw0 _).setNew (p := ⟨w.heap.size, 1, none⟩) hw0 _).setNew (p := ⟨w.heap.size, 2, none⟩) hw0 _).alloc _, (((H1.out.2.setFar (p := ⟨w.heap.size, 0, none⟩) (by simp; omega) (by simp; omega) _).setFar (p := ⟨w.heap.size, 1, none⟩) (by simp; omega) (by simp; omega) _).setFar (p := ⟨w.heap.size, 2, none⟩) (by simp; omega) (by simp; omega) _).alloc _⟩
  · obtain ⟨d0, d1, d2, g0, g1, g2⟩ := BY1.out
    obtain ⟨e0, e1, e2, _, _, _⟩ := Box.on ((Box.mk d0 d1 d2 g0 g1 g2).set (.int .i64 10) (.int .i64 0) (.int .i64 0)) ((Below.refl _ _).alloc (Nat.le_refl _) (.cells #[.int .i64 10, .int .i64 0, .int .i64 0] 73))
    go_wp2
    refine bodyPost_ret (v := .agg #[.int .i64 10, .int .i64 0, .int .i64 0]) (by simp [results, Tryz.results65, go_sem, e0, e1, e2]) rfl ?_
    exact ⟨10, 0, 0, rfl, by omega, by omega, by omega, (((T1.out.setNew (p := ⟨w.heap.size, 0, none⟩) hw0 _).setNew (p := ⟨w.heap.size, 1, none⟩) hw0 _).setNew (p := ⟨w.heap.size, 2, none⟩) hw0 _).alloc _, (((H1.out.2.setFar (p := ⟨w.heap.size, 0, none⟩) (by simp; omega) (by simp; omega) _).setFar (p := ⟨w.heap.size, 1, none⟩) (by simp; omega) (by simp; omega) _).setFar (p := ⟨w.heap.size, 2, none⟩) (by simp; omega) (by simp; omega) _).alloc _⟩
  · go_wp2_with fail
    refine (below_at B c _ _ a len cap _ (At.start (H1.out.2.alloc _))).mono ?_
    rintro e w3 ⟨x1, rfl, q10, q11, q12, q13, k1⟩
    have hI : w.heap.size < w3.heap.size := by have := k1.1.size; simp at this; omega
    have BX3 := Box.touch (Box.new w1 (.int .i64 11) (.int .i64 0) (.int .i64 0) 73) k1.1 (by omega)
    have BY3 := Box.touch (Box.on BY1.out ((Below.refl _ _).alloc (Nat.le_refl _) (.cells #[.int .i64 11, .int .i64 0, .int .i64 0] 73))) k1.1 (by omega)
    have T3 : Hid (Touch c w0 w3) := (T1.out.alloc _).trans k1.1
    have C3 : Hid (Cur B w3 c a len cap) := k1.2
    clear k1
    obtain ⟨c0, c1, c2, f0, f1, f2⟩ := BX3
    have BX4 := (Box.mk c0 c1 c2 f0 f1 f2).set1 (.int .i64 x1)
    have BY4 := BY3.far ⟨w1.heap.size, 1, none⟩ (.int .i64 x1) (by simp; omega)
    have TT : Hid (Touch c w0 (w3.setCell ⟨w1.heap.size, 1, none⟩ (.int .i64 x1))) := T3.out.setNew (by simp; omega) _
    have CC : Hid (Cur B (w3.setCell ⟨w1.heap.size, 1, none⟩ (.int .i64 x1)) c a len cap) := C3.out.setFar (by simp; omega) (by simp; omega) _
    obtain ⟨i0, i1, i2, _, _, _⟩ := BX4
    obtain ⟨d0, d1, d2, g0, g1, g2⟩ := BY4
    obtain ⟨e0, e1, e2, _, _, _⟩ := (Box.mk d0 d1 d2 g0 g1 g2).set (.int .i64 11) (.int .i64 x1) (.int .i64 0)
    go_wp2
    refine bodyPost_ret (v := .agg #[.int .i64 11, .int .i64 x1, .int .i64 0]) (by simp [results, Tryz.results65, go_sem, e0, e1, e2]) rfl ?_
    exact ⟨11, x1, 0, rfl, by omega, by omega, by omega, ((TT.out.setNew (p := ⟨w.heap.size, 0, none⟩) hw0 _).setNew (p := ⟨w.heap.size, 1, none⟩) hw0 _).setNew (p := ⟨w.heap.size, 2, none⟩) hw0 _, ((CC.out.setFar (p := ⟨w.heap.size, 0, none⟩) (by simp; omega) (by simp; omega) _).setFar (p := ⟨w.heap.size, 1, none⟩) (by simp; omega) (by simp; omega) _).setFar (p := ⟨w.heap.size, 2, none⟩) (by simp; omega) (by simp; omega) _⟩
  · go_wp2_with fail
    refine (below_at B c _ _ a len cap _ (At.start (H1.out.2.alloc _))).mono ?_
    rintro e w3 ⟨x1, rfl, q10, q11, q12, q13, k1⟩
    have hI : w.heap.size < w3.heap.size := by have := k1.1.size; simp at this; omega
    have BX3 := Box.touch (Box.new w1 (.int .i64 12) (.int .i64 0) (.int .i64 0) 73) k1.1 (by omega)
    have BY3 := Box.touch (Box.on BY1.out ((Below.refl _ _).alloc (Nat.le_refl _) (.cells #[.int .i64 12, .int .i64 0, .int .i64 0] 73))) k1.1 (by omega)
    have T3 : Hid (Touch c w0 w3) := (T1.out.alloc _).trans k1.1
    have C3 : Hid (Cur B w3 c a len cap) := k1.2
    clear k1
    obtain ⟨c0, c1, c2, f0, f1, f2⟩ := BX3
    have BX4 := (Box.mk c0 c1 c2 f0 f1 f2).set1 (.int .i64 x1)
    have BY4 := BY3.far ⟨w1.heap.size, 1, none⟩ (.int .i64 x1) (by simp; omega)
    have TT : Hid (Touch c w0 (w3.setCell ⟨w1.heap.size, 1, none⟩ (.int .i64 x1))) := T3.out.setNew (by simp; omega) _
    have CC : Hid (Cur B (w3.setCell ⟨w1.heap.size, 1, none⟩ (.int .i64 x1)) c a len cap) := C3.out.setFar (by simp; omega) (by simp; omega) _
    obtain ⟨i0, i1, i2, _, _, _⟩ := BX4
    obtain ⟨d0, d1, d2, g0, g1, g2⟩ := BY4
    obtain ⟨e0, e1, e2, _, _, _⟩ := (Box.mk d0 d1 d2 g0 g1 g2).set (.int .i64 12) (.int .i64 x1) (.int .i64 0)
    go_wp2
    refine bodyPost_ret (v := .agg #[.int .i64 12, .int .i64 x1, .int .i64 0]) (by simp [results, Tryz.results65, go_sem, e0, e1, e2]) rfl ?_
    exact ⟨12, x1, 0, rfl, by omega, by omega, by omega, ((TT.out.setNew (p := ⟨w.heap.size, 0, none⟩) hw0 _).setNew (p := ⟨w.heap.size, 1, none⟩) hw0 _).setNew (p := ⟨w.heap.size, 2, none⟩) hw0 _, ((CC.out.setFar (p := ⟨w.heap.size, 0, none⟩) (by simp; omega) (by simp; omega) _).setFar (p := ⟨w.heap.size, 1, none⟩) (by simp; omega) (by simp; omega) _).setFar (p := ⟨w.heap.size, 2, none⟩) (by simp; omega) (by simp; omega) _⟩
  · obtain ⟨d0, d1, d2, g0, g1, g2⟩ := BY1.out
    obtain ⟨e0, e1, e2, _, _, _⟩ := Box.on ((Box.mk d0 d1 d2 g0 g1 g2).set (.int .i64 13) (.int .i64 0) (.int .i64 0)) ((Below.refl _ _).alloc (Nat.le_refl _) (.cells #[.int .i64 13, .int .i64 0, .int .i64 0] 73))
    go_wp2
    refine bodyPost_ret (v := .agg #[.int .i64 13, .int .i64 0, .int .i64 0]) (by simp [results, Tryz.results65, go_sem, e0, e1, e2]) rfl ?_
    exact ⟨13, 0, 0, rfl, by omega, by omega, by omega, (((T1.out.setNew (p := ⟨w.heap.size, 0, none⟩) hw0 _).setNew (p := ⟨w.heap.size, 1, none⟩) hw0 _).setNew (p := ⟨w.heap.size, 2, none⟩) hw0 _).alloc _, (((H1.out.2.setFar (p := ⟨w.heap.size, 0, none⟩) (by simp; omega) (by simp; omega) _).setFar (p := ⟨w.heap.size, 1, none⟩) (by simp; omega) (by simp; omega) _).setFar (p := ⟨w.heap.size, 2, none⟩) (by simp; omega) (by simp; omega) _).alloc _⟩
  · go_wp2_with fail
    refine (below_at B c _ _ a len cap _ (At.start (H1.out.2.alloc _))).mono ?_
    rintro e w3 ⟨x1, rfl, q10, q11, q12, q13, k1⟩
    have hI : w.heap.size < w3.heap.size := by have := k1.1.size; simp at this; omega
    have BX3 := Box.touch (Box.new w1 (.int .i64 14) (.int .i64 0) (.int .i64 0) 73) k1.1 (by omega)
    have BY3 := Box.touch (Box.on BY1.out ((Below.refl _ _).alloc (Nat.le_refl _) (.cells #[.int .i64 14, .int .i64 0, .int .i64 0] 73))) k1.1 (by omega)
    have T3 : Hid (Touch c w0 w3) := (T1.out.alloc _).trans k1.1
    have C3 : Hid (Cur B w3 c a len cap) := k1.2
    clear k1
    obtain ⟨c0, c1, c2, f0, f1, f2⟩ := BX3
    have BX4 := (Box.mk c0 c1 c2 f0 f1 f2).set1 (.int .i64 x1)
    have BY4 := BY3.far ⟨w1.heap.size, 1, none⟩ (.int .i64 x1) (by simp; omega)
    have TT : Hid (Touch c w0 (w3.setCell ⟨w1.heap.size, 1, none⟩ (.int .i64 x1))) := T3.out.setNew (by simp; omega) _
    have CC : Hid (Cur B (w3.setCell ⟨w1.heap.size, 1, none⟩ (.int .i64 x1)) c a len cap) := C3.out.setFar (by simp; omega) (by simp; omega) _
    obtain ⟨i0, i1, i2, _, _, _⟩ := BX4
    obtain ⟨d0, d1, d2, g0, g1, g2⟩ := BY4
    obtain ⟨e0, e1, e2, _, _, _⟩ := (Box.mk d0 d1 d2 g0 g1 g2).set (.int .i64 14) (.int .i64 x1) (.int .i64 0)
    go_wp2
    refine bodyPost_ret (v := .agg #[.int .i64 14, .int .i64 x1, .int .i64 0]) (by simp [results, Tryz.results65, go_sem, e0, e1, e2]) rfl ?_
    exact ⟨14, x1, 0, rfl, by omega, by omega, by omega, ((TT.out.setNew (p := ⟨w.heap.size, 0, none⟩) hw0 _).setNew (p := ⟨w.heap.size, 1, none⟩) hw0 _).setNew (p := ⟨w.heap.size, 2, none⟩) hw0 _, ((CC.out.setFar (p := ⟨w.heap.size, 0, none⟩) (by simp; omega) (by simp; omega) _).setFar (p := ⟨w.heap.size, 1, none⟩) (by simp; omega) (by simp; omega) _).setFar (p := ⟨w.heap.size, 2, none⟩) (by simp; omega) (by simp; omega) _⟩
  · go_wp2_with fail
    refine (below_at B c _ _ a len cap _ (At.start (H1.out.2.alloc _))).mono ?_
    rintro e w3 ⟨x1, rfl, q10, q11, q12, q13, k1⟩
    have hI : w.heap.size < w3.heap.size := by have := k1.1.size; simp at this; omega
    have BX3 := Box.touch (Box.new w1 (.int .i64 15) (.int .i64 0) (.int .i64 0) 73) k1.1 (by omega)
    have BY3 := Box.touch (Box.on BY1.out ((Below.refl _ _).alloc (Nat.le_refl _) (.cells #[.int .i64 15, .int .i64 0, .int .i64 0] 73))) k1.1 (by omega)
    have T3 : Hid (Touch c w0 w3) := (T1.out.alloc _).trans k1.1
    have C3 : Hid (Cur B w3 c a len cap) := k1.2
    clear k1
    obtain ⟨c0, c1, c2, f0, f1, f2⟩ := BX3
    have BX4 := (Box.mk c0 c1 c2 f0 f1 f2).set1 (.int .i64 x1)
    have BY4 := BY3.far ⟨w1.heap.size, 1, none⟩ (.int .i64 x1) (by simp; omega)
    have T4 : Hid (Touch c w0 (w3.setCell ⟨w1.heap.size, 1, none⟩ (.int .i64 x1))) := T3.out.setNew (by simp; omega) _
    have C4 : Hid (Cur B (w3.setCell ⟨w1.heap.size, 1, none⟩ (.int .i64 x1)) c a len cap) := C3.out.setFar (by simp; omega) (by simp; omega) _
    go_wp2_with fail
    refine (below_at B c _ _ a len cap _ (At.start (C4.out))).mono ?_
    rintro e w5 ⟨x2, rfl, q20, q21, q22, q23, k2⟩
    have BX5 := Box.touch BX4 k2.1 (by omega)
    have BY5 := Box.touch BY4 k2.1 (by omega)
    have T5 : Hid (Touch c w0 w5) := T4.out.trans k2.1
    have C5 : Hid (Cur B w5 c a len cap) := k2.2
    clear k2 c0 c1 c2 f0 f1 f2
    obtain ⟨c0, c1, c2, f0, f1, f2⟩ := BX5
    have BX6 := (Box.mk c0 c1 c2 f0 f1 f2).set2 (.int .i64 x2)
    have BY6 := BY5.far ⟨w1.heap.size, 2, none⟩ (.int .i64 x2) (by simp; omega)
    have TT : Hid (Touch c w0 (w5.setCell ⟨w1.heap.size, 2, none⟩ (.int .i64 x2))) := T5.out.setNew (by simp; omega) _
    have CC : Hid (Cur B (w5.setCell ⟨w1.heap.size, 2, none⟩ (.int .i64 x2)) c a len cap) := C5.out.setFar (by simp; omega) (by simp; omega) _
    obtain ⟨i0, i1, i2, _, _, _⟩ := BX6
    obtain ⟨d0, d1, d2, g0, g1, g2⟩ := BY6
    obtain ⟨e0, e1, e2, _, _, _⟩ := (Box.mk d0 d1 d2 g0 g1 g2).set (.int .i64 15) (.int .i64 x1) (.int .i64 x2)
    go_wp2
    refine bodyPost_ret (v := .agg #[.int .i64 15, .int .i64 x1, .int .i64 x2]) (by simp [results, Tryz.results65, go_sem, e0, e1, e2]) rfl ?_
    exact ⟨15, x1, x2, rfl, by omega, by omega, by omega, ((TT.out.setNew (p := ⟨w.heap.size, 0, none⟩) hw0 _).setNew (p := ⟨w.heap.size, 1, none⟩) hw0 _).setNew (p := ⟨w.heap.size, 2, none⟩) hw0 _, ((CC.out.setFar (p := ⟨w.heap.size, 0, none⟩) (by simp; omega) (by simp; omega) _).setFar (p := ⟨w.heap.size, 1, none⟩) (by simp; omega) (by simp; omega) _).setFar (p := ⟨w.heap.size, 2, none⟩) (by simp; omega) (by simp; omega) _⟩
  · go_wp2_with fail
    refine (below_at B c _ _ a len cap _ (At.start (H1.out.2.alloc _))).mono ?_
    rintro e w3 ⟨x1, rfl, q10, q11, q12, q13, k1⟩
    have hI : w.heap.size < w3.heap.size := by have := k1.1.size; simp at this; omega
    have BX3 := Box.touch (Box.new w1 (.int .i64 16) (.int .i64 0) (.int .i64 0) 73) k1.1 (by omega)
    have BY3 := Box.touch (Box.on BY1.out ((Below.refl _ _).alloc (Nat.le_refl _) (.cells #[.int .i64 16, .int .i64 0, .int .i64 0] 73))) k1.1 (by omega)
    have T3 : Hid (Touch c w0 w3) := (T1.out.alloc _).trans k1.1
    have C3 : Hid (Cur B w3 c a len cap) := k1.2
    clear k1
    obtain ⟨c0, c1, c2, f0, f1, f2⟩ := BX3
    have BX4 := (Box.mk c0 c1 c2 f0 f1 f2).set1 (.int .i64 x1)
    have BY4 := BY3.far ⟨w1.heap.size, 1, none⟩ (.int .i64 x1) (by simp; omega)
    have T4 : Hid (Touch c w0 (w3.setCell ⟨w1.heap.size, 1, none⟩ (.int .i64 x1))) := T3.out.setNew (by simp; omega) _
    have C4 : Hid (Cur B (w3.setCell ⟨w1.heap.size, 1, none⟩ (.int .i64 x1)) c a len cap) := C3.out.setFar (by simp; omega) (by simp; omega) _
    go_wp2_with fail
    refine (below_at B c _ _ a len cap _ (At.start (C4.out))).mono ?_
    rintro e w5 ⟨x2, rfl, q20, q21, q22, q23, k2⟩
    have BX5 := Box.touch BX4 k2.1 (by omega)
    have BY5 := Box.touch BY4 k2.1 (by omega)
    have T5 : Hid (Touch c w0 w5) := T4.out.trans k2.1
    have C5 : Hid (Cur B w5 c a len cap) := k2.2
    clear k2 c0 c1 c2 f0 f1 f2
    obtain ⟨c0, c1, c2, f0, f1, f2⟩ := BX5
    have BX6 := (Box.mk c0 c1 c2 f0 f1 f2).set2 (.int .i64 x2)
    have BY6 := BY5.far ⟨w1.heap.size, 2, none⟩ (.int .i64 x2) (by simp; omega)
    have TT : Hid (Touch c w0 (w5.setCell ⟨w1.heap.size, 2, none⟩ (.int .i64 x2))) := T5.out.setNew (by simp; omega) _
    have CC : Hid (Cur B (w5.setCell ⟨w1.heap.size, 2, none⟩ (.int .i64 x2)) c a len cap) := C5.out.setFar (by simp; omega) (by simp; omega) _
    obtain ⟨i0, i1, i2, _, _, _⟩ := BX6
    obtain ⟨d0, d1, d2, g0, g1, g2⟩ := BY6
    obtain ⟨e0, e1, e2, _, _, _⟩ := (Box.mk d0 d1 d2 g0 g1 g2).set (.int .i64 16) (.int .i64 x1) (.int .i64 x2)
    go_wp2
    refine bodyPost_ret (v := .agg #[.int .i64 16, .int .i64 x1, .int .i64 x2]) (by simp [results, Tryz.results65, go_sem, e0, e1, e2]) rfl ?_
    exact ⟨16, x1, x2, rfl, by omega, by omega, by omega, ((TT.out.setNew (p := ⟨w.heap.size, 0, none⟩) hw0 _).setNew (p := ⟨w.heap.size, 1, none⟩) hw0 _).setNew (p := ⟨w.heap.size, 2, none⟩) hw0 _, ((CC.out.setFar (p := ⟨w.heap.size, 0, none⟩) (by simp; omega) (by simp; omega) _).setFar (p := ⟨w.heap.size, 1, none⟩) (by simp; omega) (by simp; omega) _).setFar (p := ⟨w.heap.size, 2, none⟩) (by simp; omega) (by simp; omega) _⟩
  · go_wp2_with fail
    refine (below_at B c _ _ a len cap _ (At.start (H1.out.2.alloc _))).mono ?_
    rintro e w3 ⟨x1, rfl, q10, q11, q12, q13, k1⟩
    have hI : w.heap.size < w3.heap.size := by have := k1.1.size; simp at this; omega
    have BX3 := Box.touch (Box.new w1 (.int .i64 17) (.int .i64 0) (.int .i64 0) 73) k1.1 (by omega)
    have BY3 := Box.touch (Box.on BY1.out ((Below.refl _ _).alloc (Nat.le_refl _) (.cells #[.int .i64 17, .int .i64 0, .int .i64 0] 73))) k1.1 (by omega)
    have T3 : Hid (Touch c w0 w3) := (T1.out.alloc _).trans k1.1
    have C3 : Hid (Cur B w3 c a len cap) := k1.2
    clear k1
    obtain ⟨c0, c1, c2, f0, f1, f2⟩ := BX3
    have BX4 := (Box.mk c0 c1 c2 f0 f1 f2).set1 (.int .i64 x1)
    have BY4 := BY3.far ⟨w1.heap.size, 1, none⟩ (.int .i64 x1) (by simp; omega)
    have T4 : Hid (Touch c w0 (w3.setCell ⟨w1.heap.size, 1, none⟩ (.int .i64 x1))) := T3.out.setNew (by simp; omega) _
    have C4 : Hid (Cur B (w3.setCell ⟨w1.heap.size, 1, none⟩ (.int .i64 x1)) c a len cap) := C3.out.setFar (by simp; omega) (by simp; omega) _
    go_wp2_with fail
    refine (below_at B c _ _ a len cap _ (At.start (C4.out))).mono ?_
    rintro e w5 ⟨x2, rfl, q20, q21, q22, q23, k2⟩
    have BX5 := Box.touch BX4 k2.1 (by omega)
    have BY5 := Box.touch BY4 k2.1 (by omega)
    have T5 : Hid (Touch c w0 w5) := T4.out.trans k2.1
    have C5 : Hid (Cur B w5 c a len cap) := k2.2
    clear k2 c0 c1 c2 f0 f1 f2
    obtain ⟨c0, c1, c2, f0, f1, f2⟩ := BX5
    have BX6 := (Box.mk c0 c1 c2 f0 f1 f2).set2 (.int .i64 x2)
    have BY6 := BY5.far ⟨w1.heap.size, 2, none⟩ (.int .i64 x2) (by simp; omega)
    have TT : Hid (Touch c w0 (w5.setCell ⟨w1.heap.size, 2, none⟩ (.int .i64 x2))) := T5.out.setNew (by simp; omega) _
    have CC : Hid (Cur B (w5.setCell ⟨w1.heap.size, 2, none⟩ (.int .i64 x2)) c a len cap) := C5.out.setFar (by simp; omega) (by simp; omega) _
    obtain ⟨i0, i1, i2, _, _, _⟩ := BX6
    obtain ⟨d0, d1, d2, g0, g1, g2⟩ := BY6
    obtain ⟨e0, e1, e2, _, _, _⟩ := (Box.mk d0 d1 d2 g0 g1 g2).set (.int .i64 17) (.int .i64 x1) (.int .i64 x2)
    go_wp2
    refine bodyPost_ret (v := .agg #[.int .i64 17, .int .i64 x1, .int .i64 x2]) (by simp [results, Tryz.results65, go_sem, e0, e1, e2]) rfl ?_
    exact ⟨17, x1, x2, rfl, by omega, by omega, by omega, ((TT.out.setNew (p := ⟨w.heap.size, 0, none⟩) hw0 _).setNew (p := ⟨w.heap.size, 1, none⟩) hw0 _).setNew (p := ⟨w.heap.size, 2, none⟩) hw0 _, ((CC.out.setFar (p := ⟨w.heap.size, 0, none⟩) (by simp; omega) (by simp; omega) _).setFar (p := ⟨w.heap.size, 1, none⟩) (by simp; omega) (by simp; omega) _).setFar (p := ⟨w.heap.size, 2, none⟩) (by simp; omega) (by simp; omega) _⟩
  · obtain ⟨d0, d1, d2, g0, g1, g2⟩ := BY1.out
    obtain ⟨e0, e1, e2, _, _, _⟩ := Box.on ((Box.mk d0 d1 d2 g0 g1 g2).set (.int .i64 18) (.int .i64 0) (.int .i64 0)) ((Below.refl _ _).alloc (Nat.le_refl _) (.cells #[.int .i64 18, .int .i64 0, .int .i64 0] 73))
    go_wp2
    refine bodyPost_ret (v := .agg #[.int .i64 18, .int .i64 0, .int .i64 0]) (by simp [results, Tryz.results65, go_sem, e0, e1, e2]) rfl ?_
    exact ⟨18, 0, 0, rfl, by omega, by omega, by omega, (((T1.out.setNew (p := ⟨w.heap.size, 0, none⟩) hw0 _).setNew (p := ⟨w.heap.size, 1, none⟩) hw0 _).setNew (p := ⟨w.heap.size, 2, none⟩) hw0 _).alloc _, (((H1.out.2.setFar (p := ⟨w.heap.size, 0, none⟩) (by simp; omega) (by simp; omega) _).setFar (p := ⟨w.heap.size, 1, none⟩) (by simp; omega) (by simp; omega) _).setFar (p := ⟨w.heap.size, 2, none⟩) (by simp; omega) (by simp; omega) _).alloc _⟩
  · obtain ⟨d0, d1, d2, g0, g1, g2⟩ := BY1.out
    obtain ⟨e0, e1, e2, _, _, _⟩ := Box.on ((Box.mk d0 d1 d2 g0 g1 g2).set (.int .i64 19) (.int .i64 0) (.int .i64 0)) ((Below.refl _ _).alloc (Nat.le_refl _) (.cells #[.int .i64 19, .int .i64 0, .int .i64 0] 73))
    go_wp2
    refine bodyPost_ret (v := .agg #[.int .i64 19, .int .i64 0, .int .i64 0]) (by simp [results, Tryz.results65, go_sem, e0, e1, e2]) rfl ?_
    exact ⟨19, 0, 0, rfl, by omega, by omega, by omega, (((T1.out.setNew (p := ⟨w.heap.size, 0, none⟩) hw0 _).setNew (p := ⟨w.heap.size, 1, none⟩) hw0 _).setNew (p := ⟨w.heap.size, 2, none⟩) hw0 _).alloc _, (((H1.out.2.setFar (p := ⟨w.heap.size, 0, none⟩) (by simp; omega) (by simp; omega) _).setFar (p := ⟨w.heap.size, 1, none⟩) (by simp; omega) (by simp; omega) _).setFar (p := ⟨w.heap.size, 2, none⟩) (by simp; omega) (by simp; omega) _).alloc _⟩
  · obtain ⟨d0, d1, d2, g0, g1, g2⟩ := BY1.out
    obtain ⟨e0, e1, e2, _, _, _⟩ := Box.on ((Box.mk d0 d1 d2 g0 g1 g2).set (.int .i64 20) (.int .i64 0) (.int .i64 0)) ((Below.refl _ _).alloc (Nat.le_refl _) (.cells #[.int .i64 20, .int .i64 0, .int .i64 0] 73))
    go_wp2
    refine bodyPost_ret (v := .agg #[.int .i64 20, .int .i64 0, .int .i64 0]) (by simp [results, Tryz.results65, go_sem, e0, e1, e2]) rfl ?_
    exact ⟨20, 0, 0, rfl, by omega, by omega, by omega, (((T1.out.setNew (p := ⟨w.heap.size, 0, none⟩) hw0 _).setNew (p := ⟨w.heap.size, 1, none⟩) hw0 _).setNew (p := ⟨w.heap.size, 2, none⟩) hw0 _).alloc _, (((H1.out.2.setFar (p := ⟨w.heap.size, 0, none⟩) (by simp; omega) (by simp; omega) _).setFar (p := ⟨w.heap.size, 1, none⟩) (by simp; omega) (by simp; omega) _).setFar (p := ⟨w.heap.size, 2, none⟩) (by simp; omega) (by simp; omega) _).alloc _⟩
end Cu
end Go.Proofs.YtbgbddahniacbaaGreatDoor
