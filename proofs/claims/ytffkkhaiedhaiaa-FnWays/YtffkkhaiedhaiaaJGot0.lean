/- The contract of the draw of a step. -/
import Derived.Test.YtffkkhaiedhaiaaJDr0
import Derived.Test.YtffkkhaiedhaiaaJLay
namespace Go.Proofs.Ytffkkhaiedhaiaa
namespace Cu
open Go.ChangeShapes Go.WideShapes Go.ChangeAt Go.RowKit St

/-- Some step has been drawn, its Op from 1 to 20, and the cursor stands. -/
def DrewIns (B : Nat) (w0 : World) (c : Nat) (a : Option Addr) (len cap : Nat) (e : Ending) (w' : World) : Prop :=
  ∃ op x y : Int, e = .returned (.agg #[.int .i64 op, .int .i64 x, .int .i64 y]) ∧ (-9223372036854775808 ≤ op ∧ op ≤ 9223372036854775807) ∧ (-9223372036854775808 ≤ x ∧ x ≤ 9223372036854775807) ∧ (-9223372036854775808 ≤ y ∧ y ≤ 9223372036854775807) ∧ At B w0 w' c a len cap

set_option maxHeartbeats 4000000 in
theorem drawInsn_at (B c : Nat) (w0 w : World) (a : Option Addr) (len cap : Nat) (n : Int) (h : At B w0 w c a len cap) :
    Calls Try.prog 68 #[.pointer (some ⟨c, 0, none⟩), .int .i64 n] w fun e w' => DrewIns B w0 c a len cap e w' := by
  have H : Hid (At B w0 w c a len cap) := h
  have hcw : c < w.heap.size := h.2.2.1
  have hBc : B ≤ c := h.2.1
  have hw0 : w0.heap.size ≤ w.heap.size := h.1.size
  clear h
  go_enter Try.func68, Try.ntmps68
  go_wp2_with fail
  refine (below_at B c _ _ a len cap _ (At.start (H.out.2.alloc _))).mono ?_
  rintro e w1 ⟨r, rfl, hr0, hr1, hr2, hr3, h1⟩
  have hr := hr2 (by omega)
  clear hr1 hr2 hr3
  have H1 : Hid (At B (w.alloc (.cells #[.int .i64 0, .int .i64 0, .int .i64 0] 76)) w1 c a len cap) := h1
  have T1 : Hid (Touch c w0 w1) := (H.out.1.alloc _).trans h1.1
  have BY1 : Hid (Box w1 w.heap.size (.int .i64 0) (.int .i64 0) (.int .i64 0)) := Box.touch (Box.new w _ _ _ _) h1.1 (by omega)
  have hw1 : w.heap.size < w1.heap.size := by have := h1.1.size; simp at this; omega
  clear h1
  have hcase : r = 0 ∨ r = 1 ∨ r = 2 ∨ r = 3 ∨ r = 4 ∨ r = 5 ∨ r = 6 ∨ r = 7 ∨ r = 8 ∨ r = 9 ∨ r = 10 ∨ r = 11 ∨ r = 12 ∨ r = 13 ∨ r = 14 ∨ r = 15 ∨ r = 16 ∨ r = 17 ∨ r = 18 ∨ r = 19 := by omega
  rcases hcase with rfl | rfl | rfl | rfl | rfl | rfl | rfl | rfl | rfl | rfl | rfl | rfl | rfl | rfl | rfl | rfl | rfl | rfl | rfl | rfl
  · go_wp2_with fail
    refine (drawWord_at B c _ _ a len cap (At.start (H1.out.2.alloc _))).mono ?_
    rintro e w3 ⟨x1, rfl, q10, q11, k1⟩
    have hI : w.heap.size < w3.heap.size := by have := k1.1.size; simp at this; omega
    have BX3 := Box.touch (Box.new w1 (.int .i64 1) (.int .i64 0) (.int .i64 0) 76) k1.1 (by omega)
    have BY3 := Box.touch (Box.on BY1.out ((Below.refl _ _).alloc (Nat.le_refl _) (.cells #[.int .i64 1, .int .i64 0, .int .i64 0] 76))) k1.1 (by omega)
    have T3 : Hid (Touch c w0 w3) := (T1.out.alloc _).trans k1.1
    have C3 : Hid (Cur B w3 c a len cap) := k1.2
    clear k1
    obtain ⟨c0, c1, c2, f0, f1, f2⟩ := BX3
    have BX4 := (Box.mk c0 c1 c2 f0 f1 f2).set1 (.int .i64 x1)
    have BY4 := BY3.far ⟨w1.heap.size, 1, none⟩ (.int .i64 x1) (by simp; omega)
    have TT : Hid (Touch c w0 (w3.setCell ⟨w1.heap.size, 1, none⟩ (.int .i64 x1))) := T3.out.setNew (by simp; omega) _
    have CC : Hid (Cur B (w3.setCell ⟨w1.heap.size, 1, none⟩ (.int .i64 x1)) c a len cap) := C3.out.setFar (by simp; omega) (by simp; omega) _
    obtain ⟨i0, i1, i2, _, _, _⟩ := BX4
    obtain ⟨d0, d1, d2, g0, g1, g2⟩ := BY4
    obtain ⟨e0, e1, e2, _, _, _⟩ := (Box.mk d0 d1 d2 g0 g1 g2).set (.int .i64 1) (.int .i64 x1) (.int .i64 0)
    go_wp2
    refine bodyPost_ret (v := .agg #[.int .i64 1, .int .i64 x1, .int .i64 0]) (by simp [results, Try.results68, go_sem, e0, e1, e2]) rfl ?_
    exact ⟨1, x1, 0, rfl, by omega, by omega, by omega, ((TT.out.setNew (p := ⟨w.heap.size, 0, none⟩) hw0 _).setNew (p := ⟨w.heap.size, 1, none⟩) hw0 _).setNew (p := ⟨w.heap.size, 2, none⟩) hw0 _, ((CC.out.setFar (p := ⟨w.heap.size, 0, none⟩) (by simp; omega) (by simp; omega) _).setFar (p := ⟨w.heap.size, 1, none⟩) (by simp; omega) (by simp; omega) _).setFar (p := ⟨w.heap.size, 2, none⟩) (by simp; omega) (by simp; omega) _⟩
  · go_wp2_with fail
    refine (below_at B c _ _ a len cap _ (At.start (H1.out.2.alloc _))).mono ?_
    rintro e w3 ⟨x1, rfl, q10, q11, q12, q13, k1⟩
    have hI : w.heap.size < w3.heap.size := by have := k1.1.size; simp at this; omega
    have BX3 := Box.touch (Box.new w1 (.int .i64 2) (.int .i64 0) (.int .i64 0) 76) k1.1 (by omega)
    have BY3 := Box.touch (Box.on BY1.out ((Below.refl _ _).alloc (Nat.le_refl _) (.cells #[.int .i64 2, .int .i64 0, .int .i64 0] 76))) k1.1 (by omega)
    have T3 : Hid (Touch c w0 w3) := (T1.out.alloc _).trans k1.1
    have C3 : Hid (Cur B w3 c a len cap) := k1.2
    clear k1
    obtain ⟨c0, c1, c2, f0, f1, f2⟩ := BX3
    have BX4 := (Box.mk c0 c1 c2 f0 f1 f2).set1 (.int .i64 x1)
    have BY4 := BY3.far ⟨w1.heap.size, 1, none⟩ (.int .i64 x1) (by simp; omega)
    have TT : Hid (Touch c w0 (w3.setCell ⟨w1.heap.size, 1, none⟩ (.int .i64 x1))) := T3.out.setNew (by simp; omega) _
    have CC : Hid (Cur B (w3.setCell ⟨w1.heap.size, 1, none⟩ (.int .i64 x1)) c a len cap) := C3.out.setFar (by simp; omega) (by simp; omega) _
    obtain ⟨i0, i1, i2, _, _, _⟩ := BX4
    obtain ⟨d0, d1, d2, g0, g1, g2⟩ := BY4
    obtain ⟨e0, e1, e2, _, _, _⟩ := (Box.mk d0 d1 d2 g0 g1 g2).set (.int .i64 2) (.int .i64 x1) (.int .i64 0)
    go_wp2
    refine bodyPost_ret (v := .agg #[.int .i64 2, .int .i64 x1, .int .i64 0]) (by simp [results, Try.results68, go_sem, e0, e1, e2]) rfl ?_
    exact ⟨2, x1, 0, rfl, by omega, by omega, by omega, ((TT.out.setNew (p := ⟨w.heap.size, 0, none⟩) hw0 _).setNew (p := ⟨w.heap.size, 1, none⟩) hw0 _).setNew (p := ⟨w.heap.size, 2, none⟩) hw0 _, ((CC.out.setFar (p := ⟨w.heap.size, 0, none⟩) (by simp; omega) (by simp; omega) _).setFar (p := ⟨w.heap.size, 1, none⟩) (by simp; omega) (by simp; omega) _).setFar (p := ⟨w.heap.size, 2, none⟩) (by simp; omega) (by simp; omega) _⟩
  · go_wp2_with fail
    refine (below_at B c _ _ a len cap _ (At.start (H1.out.2.alloc _))).mono ?_
    rintro e w3 ⟨x1, rfl, q10, q11, q12, q13, k1⟩
    have hI : w.heap.size < w3.heap.size := by have := k1.1.size; simp at this; omega
    have BX3 := Box.touch (Box.new w1 (.int .i64 3) (.int .i64 0) (.int .i64 0) 76) k1.1 (by omega)
    have BY3 := Box.touch (Box.on BY1.out ((Below.refl _ _).alloc (Nat.le_refl _) (.cells #[.int .i64 3, .int .i64 0, .int .i64 0] 76))) k1.1 (by omega)
    have T3 : Hid (Touch c w0 w3) := (T1.out.alloc _).trans k1.1
    have C3 : Hid (Cur B w3 c a len cap) := k1.2
    clear k1
    obtain ⟨c0, c1, c2, f0, f1, f2⟩ := BX3
    have BX4 := (Box.mk c0 c1 c2 f0 f1 f2).set1 (.int .i64 x1)
    have BY4 := BY3.far ⟨w1.heap.size, 1, none⟩ (.int .i64 x1) (by simp; omega)
    have TT : Hid (Touch c w0 (w3.setCell ⟨w1.heap.size, 1, none⟩ (.int .i64 x1))) := T3.out.setNew (by simp; omega) _
    have CC : Hid (Cur B (w3.setCell ⟨w1.heap.size, 1, none⟩ (.int .i64 x1)) c a len cap) := C3.out.setFar (by simp; omega) (by simp; omega) _
    obtain ⟨i0, i1, i2, _, _, _⟩ := BX4
    obtain ⟨d0, d1, d2, g0, g1, g2⟩ := BY4
    obtain ⟨e0, e1, e2, _, _, _⟩ := (Box.mk d0 d1 d2 g0 g1 g2).set (.int .i64 3) (.int .i64 x1) (.int .i64 0)
    go_wp2
    refine bodyPost_ret (v := .agg #[.int .i64 3, .int .i64 x1, .int .i64 0]) (by simp [results, Try.results68, go_sem, e0, e1, e2]) rfl ?_
    exact ⟨3, x1, 0, rfl, by omega, by omega, by omega, ((TT.out.setNew (p := ⟨w.heap.size, 0, none⟩) hw0 _).setNew (p := ⟨w.heap.size, 1, none⟩) hw0 _).setNew (p := ⟨w.heap.size, 2, none⟩) hw0 _, ((CC.out.setFar (p := ⟨w.heap.size, 0, none⟩) (by simp; omega) (by simp; omega) _).setFar (p := ⟨w.heap.size, 1, none⟩) (by simp; omega) (by simp; omega) _).setFar (p := ⟨w.heap.size, 2, none⟩) (by simp; omega) (by simp; omega) _⟩
  · obtain ⟨d0, d1, d2, g0, g1, g2⟩ := BY1.out
    obtain ⟨e0, e1, e2, _, _, _⟩ := Box.on ((Box.mk d0 d1 d2 g0 g1 g2).set (.int .i64 4) (.int .i64 0) (.int .i64 0)) ((Below.refl _ _).alloc (Nat.le_refl _) (.cells #[.int .i64 4, .int .i64 0, .int .i64 0] 76))
    go_wp2
    refine bodyPost_ret (v := .agg #[.int .i64 4, .int .i64 0, .int .i64 0]) (by simp [results, Try.results68, go_sem, e0, e1, e2]) rfl ?_
    exact ⟨4, 0, 0, rfl, by omega, by omega, by omega, (((T1.out.setNew (p := ⟨w.heap.size, 0, none⟩) hw0 _).setNew (p := ⟨w.heap.size, 1, none⟩) hw0 _).setNew (p := ⟨w.heap.size, 2, none⟩) hw0 _).alloc _, (((H1.out.2.setFar (p := ⟨w.heap.size, 0, none⟩) (by simp; omega) (by simp; omega) _).setFar (p := ⟨w.heap.size, 1, none⟩) (by simp; omega) (by simp; omega) _).setFar (p := ⟨w.heap.size, 2, none⟩) (by simp; omega) (by simp; omega) _).alloc _⟩
  · obtain ⟨d0, d1, d2, g0, g1, g2⟩ := BY1.out
    obtain ⟨e0, e1, e2, _, _, _⟩ := Box.on ((Box.mk d0 d1 d2 g0 g1 g2).set (.int .i64 5) (.int .i64 0) (.int .i64 0)) ((Below.refl _ _).alloc (Nat.le_refl _) (.cells #[.int .i64 5, .int .i64 0, .int .i64 0] 76))
    go_wp2
    refine bodyPost_ret (v := .agg #[.int .i64 5, .int .i64 0, .int .i64 0]) (by simp [results, Try.results68, go_sem, e0, e1, e2]) rfl ?_
    exact ⟨5, 0, 0, rfl, by omega, by omega, by omega, (((T1.out.setNew (p := ⟨w.heap.size, 0, none⟩) hw0 _).setNew (p := ⟨w.heap.size, 1, none⟩) hw0 _).setNew (p := ⟨w.heap.size, 2, none⟩) hw0 _).alloc _, (((H1.out.2.setFar (p := ⟨w.heap.size, 0, none⟩) (by simp; omega) (by simp; omega) _).setFar (p := ⟨w.heap.size, 1, none⟩) (by simp; omega) (by simp; omega) _).setFar (p := ⟨w.heap.size, 2, none⟩) (by simp; omega) (by simp; omega) _).alloc _⟩
  · obtain ⟨d0, d1, d2, g0, g1, g2⟩ := BY1.out
    obtain ⟨e0, e1, e2, _, _, _⟩ := Box.on ((Box.mk d0 d1 d2 g0 g1 g2).set (.int .i64 6) (.int .i64 0) (.int .i64 0)) ((Below.refl _ _).alloc (Nat.le_refl _) (.cells #[.int .i64 6, .int .i64 0, .int .i64 0] 76))
    go_wp2
    refine bodyPost_ret (v := .agg #[.int .i64 6, .int .i64 0, .int .i64 0]) (by simp [results, Try.results68, go_sem, e0, e1, e2]) rfl ?_
    exact ⟨6, 0, 0, rfl, by omega, by omega, by omega, (((T1.out.setNew (p := ⟨w.heap.size, 0, none⟩) hw0 _).setNew (p := ⟨w.heap.size, 1, none⟩) hw0 _).setNew (p := ⟨w.heap.size, 2, none⟩) hw0 _).alloc _, (((H1.out.2.setFar (p := ⟨w.heap.size, 0, none⟩) (by simp; omega) (by simp; omega) _).setFar (p := ⟨w.heap.size, 1, none⟩) (by simp; omega) (by simp; omega) _).setFar (p := ⟨w.heap.size, 2, none⟩) (by simp; omega) (by simp; omega) _).alloc _⟩
  · obtain ⟨d0, d1, d2, g0, g1, g2⟩ := BY1.out
    obtain ⟨e0, e1, e2, _, _, _⟩ := Box.on ((Box.mk d0 d1 d2 g0 g1 g2).set (.int .i64 7) (.int .i64 0) (.int .i64 0)) ((Below.refl _ _).alloc (Nat.le_refl _) (.cells #[.int .i64 7, .int .i64 0, .int .i64 0] 76))
    go_wp2
    refine bodyPost_ret (v := .agg #[.int .i64 7, .int .i64 0, .int .i64 0]) (by simp [results, Try.results68, go_sem, e0, e1, e2]) rfl ?_
    exact ⟨7, 0, 0, rfl, by omega, by omega, by omega, (((T1.out.setNew (p := ⟨w.heap.size, 0, none⟩) hw0 _).setNew (p := ⟨w.heap.size, 1, none⟩) hw0 _).setNew (p := ⟨w.heap.size, 2, none⟩) hw0 _).alloc _, (((H1.out.2.setFar (p := ⟨w.heap.size, 0, none⟩) (by simp; omega) (by simp; omega) _).setFar (p := ⟨w.heap.size, 1, none⟩) (by simp; omega) (by simp; omega) _).setFar (p := ⟨w.heap.size, 2, none⟩) (by simp; omega) (by simp; omega) _).alloc _⟩
  · obtain ⟨d0, d1, d2, g0, g1, g2⟩ := BY1.out
    obtain ⟨e0, e1, e2, _, _, _⟩ := Box.on ((Box.mk d0 d1 d2 g0 g1 g2).set (.int .i64 8) (.int .i64 0) (.int .i64 0)) ((Below.refl _ _).alloc (Nat.le_refl _) (.cells #[.int .i64 8, .int .i64 0, .int .i64 0] 76))
    go_wp2
    refine bodyPost_ret (v := .agg #[.int .i64 8, .int .i64 0, .int .i64 0]) (by simp [results, Try.results68, go_sem, e0, e1, e2]) rfl ?_
    exact ⟨8, 0, 0, rfl, by omega, by omega, by omega, (((T1.out.setNew (p := ⟨w.heap.size, 0, none⟩) hw0 _).setNew (p := ⟨w.heap.size, 1, none⟩) hw0 _).setNew (p := ⟨w.heap.size, 2, none⟩) hw0 _).alloc _, (((H1.out.2.setFar (p := ⟨w.heap.size, 0, none⟩) (by simp; omega) (by simp; omega) _).setFar (p := ⟨w.heap.size, 1, none⟩) (by simp; omega) (by simp; omega) _).setFar (p := ⟨w.heap.size, 2, none⟩) (by simp; omega) (by simp; omega) _).alloc _⟩
  · obtain ⟨d0, d1, d2, g0, g1, g2⟩ := BY1.out
    obtain ⟨e0, e1, e2, _, _, _⟩ := Box.on ((Box.mk d0 d1 d2 g0 g1 g2).set (.int .i64 9) (.int .i64 0) (.int .i64 0)) ((Below.refl _ _).alloc (Nat.le_refl _) (.cells #[.int .i64 9, .int .i64 0, .int .i64 0] 76))
    go_wp2
    refine bodyPost_ret (v := .agg #[.int .i64 9, .int .i64 0, .int .i64 0]) (by simp [results, Try.results68, go_sem, e0, e1, e2]) rfl ?_
    exact ⟨9, 0, 0, rfl, by omega, by omega, by omega, (((T1.out.setNew (p := ⟨w.heap.size, 0, none⟩) hw0 _).setNew (p := ⟨w.heap.size, 1, none⟩) hw0 _).setNew (p := ⟨w.heap.size, 2, none⟩) hw0 _).alloc _, (((H1.out.2.setFar (p := ⟨w.heap.size, 0, none⟩) (by simp; omega) (by simp; omega) _).setFar (p := ⟨w.heap.size, 1, none⟩) (by simp; omega) (by simp; omega) _).setFar (p := ⟨w.heap.size, 2, none⟩) (by simp; omega) (by simp; omega) _).alloc _⟩
  · obtain ⟨d0, d1, d2, g0, g1, g2⟩ := BY1.out
    obtain ⟨e0, e1, e2, _, _, _⟩ := Box.on ((Box.mk d0 d1 d2 g0 g1 g2).set (.int .i64 10) (.int .i64 0) (.int .i64 0)) ((Below.refl _ _).alloc (Nat.le_refl _) (.cells #[.int .i64 10, .int .i64 0, .int .i64 0] 76))
    go_wp2
    refine bodyPost_ret (v := .agg #[.int .i64 10, .int .i64 0, .int .i64 0]) (by simp [results, Try.results68, go_sem, e0, e1, e2]) rfl ?_
    exact ⟨10, 0, 0, rfl, by omega, by omega, by omega, (((T1.out.setNew (p := ⟨w.heap.size, 0, none⟩) hw0 _).setNew (p := ⟨w.heap.size, 1, none⟩) hw0 _).setNew (p := ⟨w.heap.size, 2, none⟩) hw0 _).alloc _, (((H1.out.2.setFar (p := ⟨w.heap.size, 0, none⟩) (by simp; omega) (by simp; omega) _).setFar (p := ⟨w.heap.size, 1, none⟩) (by simp; omega) (by simp; omega) _).setFar (p := ⟨w.heap.size, 2, none⟩) (by simp; omega) (by simp; omega) _).alloc _⟩
  · go_wp2_with fail
    refine (below_at B c _ _ a len cap _ (At.start (H1.out.2.alloc _))).mono ?_
    rintro e w3 ⟨x1, rfl, q10, q11, q12, q13, k1⟩
    have hI : w.heap.size < w3.heap.size := by have := k1.1.size; simp at this; omega
    have BX3 := Box.touch (Box.new w1 (.int .i64 11) (.int .i64 0) (.int .i64 0) 76) k1.1 (by omega)
    have BY3 := Box.touch (Box.on BY1.out ((Below.refl _ _).alloc (Nat.le_refl _) (.cells #[.int .i64 11, .int .i64 0, .int .i64 0] 76))) k1.1 (by omega)
    have T3 : Hid (Touch c w0 w3) := (T1.out.alloc _).trans k1.1
    have C3 : Hid (Cur B w3 c a len cap) := k1.2
    clear k1
    obtain ⟨c0, c1, c2, f0, f1, f2⟩ := BX3
    have BX4 := (Box.mk c0 c1 c2 f0 f1 f2).set1 (.int .i64 x1)
    have BY4 := BY3.far ⟨w1.heap.size, 1, none⟩ (.int .i64 x1) (by simp; omega)
    have TT : Hid (Touch c w0 (w3.setCell ⟨w1.heap.size, 1, none⟩ (.int .i64 x1))) := T3.out.setNew (by simp; omega) _
    have CC : Hid (Cur B (w3.setCell ⟨w1.heap.size, 1, none⟩ (.int .i64 x1)) c a len cap) := C3.out.setFar (by simp; omega) (by simp; omega) _
    obtain ⟨i0, i1, i2, _, _, _⟩ := BX4
    obtain ⟨d0, d1, d2, g0, g1, g2⟩ := BY4
    obtain ⟨e0, e1, e2, _, _, _⟩ := (Box.mk d0 d1 d2 g0 g1 g2).set (.int .i64 11) (.int .i64 x1) (.int .i64 0)
    go_wp2
    refine bodyPost_ret (v := .agg #[.int .i64 11, .int .i64 x1, .int .i64 0]) (by simp [results, Try.results68, go_sem, e0, e1, e2]) rfl ?_
    exact ⟨11, x1, 0, rfl, by omega, by omega, by omega, ((TT.out.setNew (p := ⟨w.heap.size, 0, none⟩) hw0 _).setNew (p := ⟨w.heap.size, 1, none⟩) hw0 _).setNew (p := ⟨w.heap.size, 2, none⟩) hw0 _, ((CC.out.setFar (p := ⟨w.heap.size, 0, none⟩) (by simp; omega) (by simp; omega) _).setFar (p := ⟨w.heap.size, 1, none⟩) (by simp; omega) (by simp; omega) _).setFar (p := ⟨w.heap.size, 2, none⟩) (by simp; omega) (by simp; omega) _⟩
  · go_wp2_with fail
    refine (below_at B c _ _ a len cap _ (At.start (H1.out.2.alloc _))).mono ?_
    rintro e w3 ⟨x1, rfl, q10, q11, q12, q13, k1⟩
    have hI : w.heap.size < w3.heap.size := by have := k1.1.size; simp at this; omega
    have BX3 := Box.touch (Box.new w1 (.int .i64 12) (.int .i64 0) (.int .i64 0) 76) k1.1 (by omega)
    have BY3 := Box.touch (Box.on BY1.out ((Below.refl _ _).alloc (Nat.le_refl _) (.cells #[.int .i64 12, .int .i64 0, .int .i64 0] 76))) k1.1 (by omega)
    have T3 : Hid (Touch c w0 w3) := (T1.out.alloc _).trans k1.1
    have C3 : Hid (Cur B w3 c a len cap) := k1.2
    clear k1
    obtain ⟨c0, c1, c2, f0, f1, f2⟩ := BX3
    have BX4 := (Box.mk c0 c1 c2 f0 f1 f2).set1 (.int .i64 x1)
    have BY4 := BY3.far ⟨w1.heap.size, 1, none⟩ (.int .i64 x1) (by simp; omega)
    have TT : Hid (Touch c w0 (w3.setCell ⟨w1.heap.size, 1, none⟩ (.int .i64 x1))) := T3.out.setNew (by simp; omega) _
    have CC : Hid (Cur B (w3.setCell ⟨w1.heap.size, 1, none⟩ (.int .i64 x1)) c a len cap) := C3.out.setFar (by simp; omega) (by simp; omega) _
    obtain ⟨i0, i1, i2, _, _, _⟩ := BX4
    obtain ⟨d0, d1, d2, g0, g1, g2⟩ := BY4
    obtain ⟨e0, e1, e2, _, _, _⟩ := (Box.mk d0 d1 d2 g0 g1 g2).set (.int .i64 12) (.int .i64 x1) (.int .i64 0)
    go_wp2
    refine bodyPost_ret (v := .agg #[.int .i64 12, .int .i64 x1, .int .i64 0]) (by simp [results, Try.results68, go_sem, e0, e1, e2]) rfl ?_
    exact ⟨12, x1, 0, rfl, by omega, by omega, by omega, ((TT.out.setNew (p := ⟨w.heap.size, 0, none⟩) hw0 _).setNew (p := ⟨w.heap.size, 1, none⟩) hw0 _).setNew (p := ⟨w.heap.size, 2, none⟩) hw0 _, ((CC.out.setFar (p := ⟨w.heap.size, 0, none⟩) (by simp; omega) (by simp; omega) _).setFar (p := ⟨w.heap.size, 1, none⟩) (by simp; omega) (by simp; omega) _).setFar (p := ⟨w.heap.size, 2, none⟩) (by simp; omega) (by simp; omega) _⟩
  · obtain ⟨d0, d1, d2, g0, g1, g2⟩ := BY1.out
    obtain ⟨e0, e1, e2, _, _, _⟩ := Box.on ((Box.mk d0 d1 d2 g0 g1 g2).set (.int .i64 13) (.int .i64 0) (.int .i64 0)) ((Below.refl _ _).alloc (Nat.le_refl _) (.cells #[.int .i64 13, .int .i64 0, .int .i64 0] 76))
    go_wp2
    refine bodyPost_ret (v := .agg #[.int .i64 13, .int .i64 0, .int .i64 0]) (by simp [results, Try.results68, go_sem, e0, e1, e2]) rfl ?_
    exact ⟨13, 0, 0, rfl, by omega, by omega, by omega, (((T1.out.setNew (p := ⟨w.heap.size, 0, none⟩) hw0 _).setNew (p := ⟨w.heap.size, 1, none⟩) hw0 _).setNew (p := ⟨w.heap.size, 2, none⟩) hw0 _).alloc _, (((H1.out.2.setFar (p := ⟨w.heap.size, 0, none⟩) (by simp; omega) (by simp; omega) _).setFar (p := ⟨w.heap.size, 1, none⟩) (by simp; omega) (by simp; omega) _).setFar (p := ⟨w.heap.size, 2, none⟩) (by simp; omega) (by simp; omega) _).alloc _⟩
  · go_wp2_with fail
    refine (below_at B c _ _ a len cap _ (At.start (H1.out.2.alloc _))).mono ?_
    rintro e w3 ⟨x1, rfl, q10, q11, q12, q13, k1⟩
    have hI : w.heap.size < w3.heap.size := by have := k1.1.size; simp at this; omega
    have BX3 := Box.touch (Box.new w1 (.int .i64 14) (.int .i64 0) (.int .i64 0) 76) k1.1 (by omega)
    have BY3 := Box.touch (Box.on BY1.out ((Below.refl _ _).alloc (Nat.le_refl _) (.cells #[.int .i64 14, .int .i64 0, .int .i64 0] 76))) k1.1 (by omega)
    have T3 : Hid (Touch c w0 w3) := (T1.out.alloc _).trans k1.1
    have C3 : Hid (Cur B w3 c a len cap) := k1.2
    clear k1
    obtain ⟨c0, c1, c2, f0, f1, f2⟩ := BX3
    have BX4 := (Box.mk c0 c1 c2 f0 f1 f2).set1 (.int .i64 x1)
    have BY4 := BY3.far ⟨w1.heap.size, 1, none⟩ (.int .i64 x1) (by simp; omega)
    have TT : Hid (Touch c w0 (w3.setCell ⟨w1.heap.size, 1, none⟩ (.int .i64 x1))) := T3.out.setNew (by simp; omega) _
    have CC : Hid (Cur B (w3.setCell ⟨w1.heap.size, 1, none⟩ (.int .i64 x1)) c a len cap) := C3.out.setFar (by simp; omega) (by simp; omega) _
    obtain ⟨i0, i1, i2, _, _, _⟩ := BX4
    obtain ⟨d0, d1, d2, g0, g1, g2⟩ := BY4
    obtain ⟨e0, e1, e2, _, _, _⟩ := (Box.mk d0 d1 d2 g0 g1 g2).set (.int .i64 14) (.int .i64 x1) (.int .i64 0)
    go_wp2
    refine bodyPost_ret (v := .agg #[.int .i64 14, .int .i64 x1, .int .i64 0]) (by simp [results, Try.results68, go_sem, e0, e1, e2]) rfl ?_
    exact ⟨14, x1, 0, rfl, by omega, by omega, by omega, ((TT.out.setNew (p := ⟨w.heap.size, 0, none⟩) hw0 _).setNew (p := ⟨w.heap.size, 1, none⟩) hw0 _).setNew (p := ⟨w.heap.size, 2, none⟩) hw0 _, ((CC.out.setFar (p := ⟨w.heap.size, 0, none⟩) (by simp; omega) (by simp; omega) _).setFar (p := ⟨w.heap.size, 1, none⟩) (by simp; omega) (by simp; omega) _).setFar (p := ⟨w.heap.size, 2, none⟩) (by simp; omega) (by simp; omega) _⟩
  · go_wp2_with fail
    refine (below_at B c _ _ a len cap _ (At.start (H1.out.2.alloc _))).mono ?_
    rintro e w3 ⟨x1, rfl, q10, q11, q12, q13, k1⟩
    have hI : w.heap.size < w3.heap.size := by have := k1.1.size; simp at this; omega
    have BX3 := Box.touch (Box.new w1 (.int .i64 15) (.int .i64 0) (.int .i64 0) 76) k1.1 (by omega)
    have BY3 := Box.touch (Box.on BY1.out ((Below.refl _ _).alloc (Nat.le_refl _) (.cells #[.int .i64 15, .int .i64 0, .int .i64 0] 76))) k1.1 (by omega)
    have T3 : Hid (Touch c w0 w3) := (T1.out.alloc _).trans k1.1
    have C3 : Hid (Cur B w3 c a len cap) := k1.2
    clear k1
    obtain ⟨c0, c1, c2, f0, f1, f2⟩ := BX3
    have BX4 := (Box.mk c0 c1 c2 f0 f1 f2).set1 (.int .i64 x1)
    have BY4 := BY3.far ⟨w1.heap.size, 1, none⟩ (.int .i64 x1) (by simp; omega)
    have T4 : Hid (Touch c w0 (w3.setCell ⟨w1.heap.size, 1, none⟩ (.int .i64 x1))) := T3.out.setNew (by simp; omega) _
    have C4 : Hid (Cur B (w3.setCell ⟨w1.heap.size, 1, none⟩ (.int .i64 x1)) c a len cap) := C3.out.setFar (by simp; omega) (by simp; omega) _
    go_wp2_with fail
    refine (below_at B c _ _ a len cap _ (At.start (C4.out))).mono ?_
    rintro e w5 ⟨x2, rfl, q20, q21, q22, q23, k2⟩
    have BX5 := Box.touch BX4 k2.1 (by omega)
    have BY5 := Box.touch BY4 k2.1 (by omega)
    have T5 : Hid (Touch c w0 w5) := T4.out.trans k2.1
    have C5 : Hid (Cur B w5 c a len cap) := k2.2
    clear k2 c0 c1 c2 f0 f1 f2
    obtain ⟨c0, c1, c2, f0, f1, f2⟩ := BX5
    have BX6 := (Box.mk c0 c1 c2 f0 f1 f2).set2 (.int .i64 x2)
    have BY6 := BY5.far ⟨w1.heap.size, 2, none⟩ (.int .i64 x2) (by simp; omega)
    have TT : Hid (Touch c w0 (w5.setCell ⟨w1.heap.size, 2, none⟩ (.int .i64 x2))) := T5.out.setNew (by simp; omega) _
    have CC : Hid (Cur B (w5.setCell ⟨w1.heap.size, 2, none⟩ (.int .i64 x2)) c a len cap) := C5.out.setFar (by simp; omega) (by simp; omega) _
    obtain ⟨i0, i1, i2, _, _, _⟩ := BX6
    obtain ⟨d0, d1, d2, g0, g1, g2⟩ := BY6
    obtain ⟨e0, e1, e2, _, _, _⟩ := (Box.mk d0 d1 d2 g0 g1 g2).set (.int .i64 15) (.int .i64 x1) (.int .i64 x2)
    go_wp2
    refine bodyPost_ret (v := .agg #[.int .i64 15, .int .i64 x1, .int .i64 x2]) (by simp [results, Try.results68, go_sem, e0, e1, e2]) rfl ?_
    exact ⟨15, x1, x2, rfl, by omega, by omega, by omega, ((TT.out.setNew (p := ⟨w.heap.size, 0, none⟩) hw0 _).setNew (p := ⟨w.heap.size, 1, none⟩) hw0 _).setNew (p := ⟨w.heap.size, 2, none⟩) hw0 _, ((CC.out.setFar (p := ⟨w.heap.size, 0, none⟩) (by simp; omega) (by simp; omega) _).setFar (p := ⟨w.heap.size, 1, none⟩) (by simp; omega) (by simp; omega) _).setFar (p := ⟨w.heap.size, 2, none⟩) (by simp; omega) (by simp; omega) _⟩
  · go_wp2_with fail
    refine (below_at B c _ _ a len cap _ (At.start (H1.out.2.alloc _))).mono ?_
    rintro e w3 ⟨x1, rfl, q10, q11, q12, q13, k1⟩
    have hI : w.heap.size < w3.heap.size := by have := k1.1.size; simp at this; omega
    have BX3 := Box.touch (Box.new w1 (.int .i64 16) (.int .i64 0) (.int .i64 0) 76) k1.1 (by omega)
    have BY3 := Box.touch (Box.on BY1.out ((Below.refl _ _).alloc (Nat.le_refl _) (.cells #[.int .i64 16, .int .i64 0, .int .i64 0] 76))) k1.1 (by omega)
    have T3 : Hid (Touch c w0 w3) := (T1.out.alloc _).trans k1.1
    have C3 : Hid (Cur B w3 c a len cap) := k1.2
    clear k1
    obtain ⟨c0, c1, c2, f0, f1, f2⟩ := BX3
    have BX4 := (Box.mk c0 c1 c2 f0 f1 f2).set1 (.int .i64 x1)
    have BY4 := BY3.far ⟨w1.heap.size, 1, none⟩ (.int .i64 x1) (by simp; omega)
    have T4 : Hid (Touch c w0 (w3.setCell ⟨w1.heap.size, 1, none⟩ (.int .i64 x1))) := T3.out.setNew (by simp; omega) _
    have C4 : Hid (Cur B (w3.setCell ⟨w1.heap.size, 1, none⟩ (.int .i64 x1)) c a len cap) := C3.out.setFar (by simp; omega) (by simp; omega) _
    go_wp2_with fail
    refine (below_at B c _ _ a len cap _ (At.start (C4.out))).mono ?_
    rintro e w5 ⟨x2, rfl, q20, q21, q22, q23, k2⟩
    have BX5 := Box.touch BX4 k2.1 (by omega)
    have BY5 := Box.touch BY4 k2.1 (by omega)
    have T5 : Hid (Touch c w0 w5) := T4.out.trans k2.1
    have C5 : Hid (Cur B w5 c a len cap) := k2.2
    clear k2 c0 c1 c2 f0 f1 f2
    obtain ⟨c0, c1, c2, f0, f1, f2⟩ := BX5
    have BX6 := (Box.mk c0 c1 c2 f0 f1 f2).set2 (.int .i64 x2)
    have BY6 := BY5.far ⟨w1.heap.size, 2, none⟩ (.int .i64 x2) (by simp; omega)
    have TT : Hid (Touch c w0 (w5.setCell ⟨w1.heap.size, 2, none⟩ (.int .i64 x2))) := T5.out.setNew (by simp; omega) _
    have CC : Hid (Cur B (w5.setCell ⟨w1.heap.size, 2, none⟩ (.int .i64 x2)) c a len cap) := C5.out.setFar (by simp; omega) (by simp; omega) _
    obtain ⟨i0, i1, i2, _, _, _⟩ := BX6
    obtain ⟨d0, d1, d2, g0, g1, g2⟩ := BY6
    obtain ⟨e0, e1, e2, _, _, _⟩ := (Box.mk d0 d1 d2 g0 g1 g2).set (.int .i64 16) (.int .i64 x1) (.int .i64 x2)
    go_wp2
    refine bodyPost_ret (v := .agg #[.int .i64 16, .int .i64 x1, .int .i64 x2]) (by simp [results, Try.results68, go_sem, e0, e1, e2]) rfl ?_
    exact ⟨16, x1, x2, rfl, by omega, by omega, by omega, ((TT.out.setNew (p := ⟨w.heap.size, 0, none⟩) hw0 _).setNew (p := ⟨w.heap.size, 1, none⟩) hw0 _).setNew (p := ⟨w.heap.size, 2, none⟩) hw0 _, ((CC.out.setFar (p := ⟨w.heap.size, 0, none⟩) (by simp; omega) (by simp; omega) _).setFar (p := ⟨w.heap.size, 1, none⟩) (by simp; omega) (by simp; omega) _).setFar (p := ⟨w.heap.size, 2, none⟩) (by simp; omega) (by simp; omega) _⟩
  · go_wp2_with fail
    refine (below_at B c _ _ a len cap _ (At.start (H1.out.2.alloc _))).mono ?_
    rintro e w3 ⟨x1, rfl, q10, q11, q12, q13, k1⟩
    have hI : w.heap.size < w3.heap.size := by have := k1.1.size; simp at this; omega
    have BX3 := Box.touch (Box.new w1 (.int .i64 17) (.int .i64 0) (.int .i64 0) 76) k1.1 (by omega)
    have BY3 := Box.touch (Box.on BY1.out ((Below.refl _ _).alloc (Nat.le_refl _) (.cells #[.int .i64 17, .int .i64 0, .int .i64 0] 76))) k1.1 (by omega)
    have T3 : Hid (Touch c w0 w3) := (T1.out.alloc _).trans k1.1
    have C3 : Hid (Cur B w3 c a len cap) := k1.2
    clear k1
    obtain ⟨c0, c1, c2, f0, f1, f2⟩ := BX3
    have BX4 := (Box.mk c0 c1 c2 f0 f1 f2).set1 (.int .i64 x1)
    have BY4 := BY3.far ⟨w1.heap.size, 1, none⟩ (.int .i64 x1) (by simp; omega)
    have T4 : Hid (Touch c w0 (w3.setCell ⟨w1.heap.size, 1, none⟩ (.int .i64 x1))) := T3.out.setNew (by simp; omega) _
    have C4 : Hid (Cur B (w3.setCell ⟨w1.heap.size, 1, none⟩ (.int .i64 x1)) c a len cap) := C3.out.setFar (by simp; omega) (by simp; omega) _
    go_wp2_with fail
    refine (below_at B c _ _ a len cap _ (At.start (C4.out))).mono ?_
    rintro e w5 ⟨x2, rfl, q20, q21, q22, q23, k2⟩
    have BX5 := Box.touch BX4 k2.1 (by omega)
    have BY5 := Box.touch BY4 k2.1 (by omega)
    have T5 : Hid (Touch c w0 w5) := T4.out.trans k2.1
    have C5 : Hid (Cur B w5 c a len cap) := k2.2
    clear k2 c0 c1 c2 f0 f1 f2
    obtain ⟨c0, c1, c2, f0, f1, f2⟩ := BX5
    have BX6 := (Box.mk c0 c1 c2 f0 f1 f2).set2 (.int .i64 x2)
    have BY6 := BY5.far ⟨w1.heap.size, 2, none⟩ (.int .i64 x2) (by simp; omega)
    have TT : Hid (Touch c w0 (w5.setCell ⟨w1.heap.size, 2, none⟩ (.int .i64 x2))) := T5.out.setNew (by simp; omega) _
    have CC : Hid (Cur B (w5.setCell ⟨w1.heap.size, 2, none⟩ (.int .i64 x2)) c a len cap) := C5.out.setFar (by simp; omega) (by simp; omega) _
    obtain ⟨i0, i1, i2, _, _, _⟩ := BX6
    obtain ⟨d0, d1, d2, g0, g1, g2⟩ := BY6
    obtain ⟨e0, e1, e2, _, _, _⟩ := (Box.mk d0 d1 d2 g0 g1 g2).set (.int .i64 17) (.int .i64 x1) (.int .i64 x2)
    go_wp2
    refine bodyPost_ret (v := .agg #[.int .i64 17, .int .i64 x1, .int .i64 x2]) (by simp [results, Try.results68, go_sem, e0, e1, e2]) rfl ?_
    exact ⟨17, x1, x2, rfl, by omega, by omega, by omega, ((TT.out.setNew (p := ⟨w.heap.size, 0, none⟩) hw0 _).setNew (p := ⟨w.heap.size, 1, none⟩) hw0 _).setNew (p := ⟨w.heap.size, 2, none⟩) hw0 _, ((CC.out.setFar (p := ⟨w.heap.size, 0, none⟩) (by simp; omega) (by simp; omega) _).setFar (p := ⟨w.heap.size, 1, none⟩) (by simp; omega) (by simp; omega) _).setFar (p := ⟨w.heap.size, 2, none⟩) (by simp; omega) (by simp; omega) _⟩
  · obtain ⟨d0, d1, d2, g0, g1, g2⟩ := BY1.out
    obtain ⟨e0, e1, e2, _, _, _⟩ := Box.on ((Box.mk d0 d1 d2 g0 g1 g2).set (.int .i64 18) (.int .i64 0) (.int .i64 0)) ((Below.refl _ _).alloc (Nat.le_refl _) (.cells #[.int .i64 18, .int .i64 0, .int .i64 0] 76))
    go_wp2
    refine bodyPost_ret (v := .agg #[.int .i64 18, .int .i64 0, .int .i64 0]) (by simp [results, Try.results68, go_sem, e0, e1, e2]) rfl ?_
    exact ⟨18, 0, 0, rfl, by omega, by omega, by omega, (((T1.out.setNew (p := ⟨w.heap.size, 0, none⟩) hw0 _).setNew (p := ⟨w.heap.size, 1, none⟩) hw0 _).setNew (p := ⟨w.heap.size, 2, none⟩) hw0 _).alloc _, (((H1.out.2.setFar (p := ⟨w.heap.size, 0, none⟩) (by simp; omega) (by simp; omega) _).setFar (p := ⟨w.heap.size, 1, none⟩) (by simp; omega) (by simp; omega) _).setFar (p := ⟨w.heap.size, 2, none⟩) (by simp; omega) (by simp; omega) _).alloc _⟩
  · obtain ⟨d0, d1, d2, g0, g1, g2⟩ := BY1.out
    obtain ⟨e0, e1, e2, _, _, _⟩ := Box.on ((Box.mk d0 d1 d2 g0 g1 g2).set (.int .i64 19) (.int .i64 0) (.int .i64 0)) ((Below.refl _ _).alloc (Nat.le_refl _) (.cells #[.int .i64 19, .int .i64 0, .int .i64 0] 76))
    go_wp2
    refine bodyPost_ret (v := .agg #[.int .i64 19, .int .i64 0, .int .i64 0]) (by simp [results, Try.results68, go_sem, e0, e1, e2]) rfl ?_
    exact ⟨19, 0, 0, rfl, by omega, by omega, by omega, (((T1.out.setNew (p := ⟨w.heap.size, 0, none⟩) hw0 _).setNew (p := ⟨w.heap.size, 1, none⟩) hw0 _).setNew (p := ⟨w.heap.size, 2, none⟩) hw0 _).alloc _, (((H1.out.2.setFar (p := ⟨w.heap.size, 0, none⟩) (by simp; omega) (by simp; omega) _).setFar (p := ⟨w.heap.size, 1, none⟩) (by simp; omega) (by simp; omega) _).setFar (p := ⟨w.heap.size, 2, none⟩) (by simp; omega) (by simp; omega) _).alloc _⟩
  · obtain ⟨d0, d1, d2, g0, g1, g2⟩ := BY1.out
    obtain ⟨e0, e1, e2, _, _, _⟩ := Box.on ((Box.mk d0 d1 d2 g0 g1 g2).set (.int .i64 20) (.int .i64 0) (.int .i64 0)) ((Below.refl _ _).alloc (Nat.le_refl _) (.cells #[.int .i64 20, .int .i64 0, .int .i64 0] 76))
    go_wp2
    refine bodyPost_ret (v := .agg #[.int .i64 20, .int .i64 0, .int .i64 0]) (by simp [results, Try.results68, go_sem, e0, e1, e2]) rfl ?_
    exact ⟨20, 0, 0, rfl, by omega, by omega, by omega, (((T1.out.setNew (p := ⟨w.heap.size, 0, none⟩) hw0 _).setNew (p := ⟨w.heap.size, 1, none⟩) hw0 _).setNew (p := ⟨w.heap.size, 2, none⟩) hw0 _).alloc _, (((H1.out.2.setFar (p := ⟨w.heap.size, 0, none⟩) (by simp; omega) (by simp; omega) _).setFar (p := ⟨w.heap.size, 1, none⟩) (by simp; omega) (by simp; omega) _).setFar (p := ⟨w.heap.size, 2, none⟩) (by simp; omega) (by simp; omega) _).alloc _⟩
end Cu
end Go.Proofs.Ytffkkhaiedhaiaa

/- The contract of the draw of any step. -/
namespace Go.Proofs.Ytffkkhaiedhaiaa
namespace Cu
open Go.ChangeShapes Go.WideShapes Go.ChangeAt Go.RowKit St

theorem Box.set0 {w : World} {k : Nat} {x y z : Value} (h : Box w k x y z) (x' : Value) : Box (w.setCell ⟨k, 0, none⟩ x') k x' y z := by
  obtain ⟨c0, c1, c2, f0, f1, f2⟩ := h
  have n01 : (⟨k, 0, none⟩ : Addr) ≠ ⟨k, 1, none⟩ := by simp
  have n02 : (⟨k, 0, none⟩ : Addr) ≠ ⟨k, 2, none⟩ := by simp
  exact ⟨World.cell?_setCell_same _ _ _ c0, (World.cell?_setCell_other _ _ _ _ n01).trans c1, (World.cell?_setCell_other _ _ _ _ n02).trans c2, by simpa using f0, by simpa using f1, by simpa using f2⟩

theorem row0 {w w2 : World} {c : Nat} {t : TypeId} (r : Int) (h0 : 0 ≤ r) (h1 : r < 4) (hc : c < w.heap.size) (ht : Touch c (w.alloc (.cells #[.int .i64 0, .int .i64 21, .int .i64 (-1), .int .i64 20] t)) w2) :
    ∃ v : Int, w2.cell? ⟨w.heap.size, r.toNat, none⟩ = some (.int .i64 v) ∧ -9223372036854775808 ≤ v ∧ v ≤ 9223372036854775807 := by
  obtain ⟨k, rfl⟩ := Int.eq_ofNat_of_zero_le h0
  rw [Int.toNat_natCast, ht.cell (p := ⟨w.heap.size, k, none⟩) (by simp) (by simp; omega)]
  have hk : k = 0 ∨ k = 1 ∨ k = 2 ∨ k = 3 := by omega
  rcases hk with rfl | rfl | rfl | rfl
  all_goals exact ⟨_, by simp [go_sem]; rfl, by omega, by omega⟩

theorem row1 {w w2 : World} {c : Nat} {t : TypeId} (r : Int) (h0 : 0 ≤ r) (h1 : r < 8) (hc : c < w.heap.size) (ht : Touch c (w.alloc (.cells #[.int .i64 (-1), .int .i64 5, .int .i64 6, .int .i64 7, .int .i64 8, .int .i64 39, .int .i64 40, .int .i64 2147483648] t)) w2) :
    ∃ v : Int, w2.cell? ⟨w.heap.size, r.toNat, none⟩ = some (.int .i64 v) ∧ -9223372036854775808 ≤ v ∧ v ≤ 9223372036854775807 := by
  obtain ⟨k, rfl⟩ := Int.eq_ofNat_of_zero_le h0
  rw [Int.toNat_natCast, ht.cell (p := ⟨w.heap.size, k, none⟩) (by simp) (by simp; omega)]
  have hk : k = 0 ∨ k = 1 ∨ k = 2 ∨ k = 3 ∨ k = 4 ∨ k = 5 ∨ k = 6 ∨ k = 7 := by omega
  rcases hk with rfl | rfl | rfl | rfl | rfl | rfl | rfl | rfl
  all_goals exact ⟨_, by simp [go_sem]; rfl, by omega, by omega⟩

theorem row2 {w w2 : World} {c : Nat} {t : TypeId} (r : Int) (h0 : 0 ≤ r) (h1 : r < 6) (hc : c < w.heap.size) (ht : Touch c (w.alloc (.cells #[.int .i64 (-1), .int .i64 1, .int .i64 3, .int .i64 4, .int .i64 19, .int .i64 20] t)) w2) :
    ∃ v : Int, w2.cell? ⟨w.heap.size, r.toNat, none⟩ = some (.int .i64 v) ∧ -9223372036854775808 ≤ v ∧ v ≤ 9223372036854775807 := by
  obtain ⟨k, rfl⟩ := Int.eq_ofNat_of_zero_le h0
  rw [Int.toNat_natCast, ht.cell (p := ⟨w.heap.size, k, none⟩) (by simp) (by simp; omega)]
  have hk : k = 0 ∨ k = 1 ∨ k = 2 ∨ k = 3 ∨ k = 4 ∨ k = 5 := by omega
  rcases hk with rfl | rfl | rfl | rfl | rfl | rfl
  all_goals exact ⟨_, by simp [go_sem]; rfl, by omega, by omega⟩

set_option maxHeartbeats 2000000 in
theorem drawAnyI_at (B c : Nat) (w0 w : World) (a : Option Addr) (len cap : Nat) (h : At B w0 w c a len cap) :
    Calls Try.prog 69 #[.pointer (some ⟨c, 0, none⟩)] w fun e w' => DrewIns B w0 c a len cap e w' := by
  have H : Hid (At B w0 w c a len cap) := h
  have hcw : c < w.heap.size := h.2.2.1
  have hBc : B ≤ c := h.2.1
  have hw0 : w0.heap.size ≤ w.heap.size := h.1.size
  clear h
  go_enter Try.func69, Try.ntmps69
  go_wp2_with fail
  refine (drawInsn_at B c _ _ a len cap 9 (At.start (H.out.2.alloc _))).mono ?_
  rintro e w1 ⟨op, x, y, rfl, bo, bx, by', h1⟩
  have T1 : Hid (Touch c w0 w1) := (H.out.1.alloc _).trans h1.1
  have BY1 : Hid (Box w1 w.heap.size (.int .i64 0) (.int .i64 0) (.int .i64 0)) := Box.touch (Box.new w _ _ _ _) h1.1 (by omega)
  have hw1 : w.heap.size < w1.heap.size := by have := h1.1.size; simp at this; omega
  have H1 : Hid (Cur B w1 c a len cap) := h1.2
  clear h1
  go_wp2_with fail
  refine (once_at B c _ _ a len cap _ (At.start (H1.out.alloc _))).mono ?_
  rintro e w2 ⟨q, rfl, h2⟩
  have T2 : Hid (Touch c w0 w2) := (T1.out.alloc _).trans h2.1
  have BX2 : Hid (Box w2 w1.heap.size (.int .i64 op) (.int .i64 x) (.int .i64 y)) := Box.touch (Box.new w1 _ _ _ _) h2.1 (by omega)
  have BY2 : Hid (Box w2 w.heap.size (.int .i64 0) (.int .i64 0) (.int .i64 0)) := Box.touch (Box.on BY1.out ((Below.refl _ _).alloc (Nat.le_refl _) _)) h2.1 (by omega)
  have H2 : Hid (Cur B w2 c a len cap) := h2.2
  have hw2 : w1.heap.size < w2.heap.size := by have := h2.1.size; simp at this; omega
  clear h2 BY1
  cases q
  · obtain ⟨i0, i1, i2, _, _, _⟩ := BX2.out
    obtain ⟨d0, d1, d2, g0, g1, g2⟩ := BY2.out
    obtain ⟨e0, e1, e2, _, _, _⟩ := (Box.mk d0 d1 d2 g0 g1 g2).set (.int .i64 op) (.int .i64 x) (.int .i64 y)
    go_wp2
    refine bodyPost_ret (v := .agg #[.int .i64 op, .int .i64 x, .int .i64 y]) (by simp [results, Try.results69, go_sem, e0, e1, e2]) rfl ?_
    exact ⟨op, x, y, rfl, bo, bx, by', ((T2.out.setNew (p := ⟨w.heap.size, 0, none⟩) hw0 _).setNew (p := ⟨w.heap.size, 1, none⟩) hw0 _).setNew (p := ⟨w.heap.size, 2, none⟩) hw0 _, ((H2.out.setFar (p := ⟨w.heap.size, 0, none⟩) (by simp; omega) (by simp; omega) _).setFar (p := ⟨w.heap.size, 1, none⟩) (by simp; omega) (by simp; omega) _).setFar (p := ⟨w.heap.size, 2, none⟩) (by simp; omega) (by simp; omega) _⟩
  · go_wp2_with fail
    refine (below_at B c _ _ a len cap _ (At.start H2.out)).mono ?_
    rintro e w3 ⟨r, rfl, hr0, hr1, hr2, hr3, h3⟩
    have hr := hr2 (by omega)
    clear hr1 hr2 hr3
    have T3 : Hid (Touch c w0 w3) := T2.out.trans h3.1
    have BX3 : Hid (Box w3 w1.heap.size (.int .i64 op) (.int .i64 x) (.int .i64 y)) := Box.touch BX2.out h3.1 (by omega)
    have BY3 : Hid (Box w3 w.heap.size (.int .i64 0) (.int .i64 0) (.int .i64 0)) := Box.touch BY2.out h3.1 (by omega)
    have H3 : Hid (Cur B w3 c a len cap) := h3.2
    have hw3 : w2.heap.size ≤ w3.heap.size := h3.1.size
    clear h3 BX2 BY2
    have hcase : r = 0 ∨ r = 1 ∨ r = 2 := by omega
    rcases hcase with rfl | rfl | rfl
    · go_wp2_with fail
      refine (below_at B c _ _ a len cap _ (At.start (H3.out.alloc _))).mono ?_
      rintro e w5 ⟨u, rfl, hu0, hu1, hu2, hu3, h5⟩
      have hu := hu2 (by omega)
      clear hu1 hu2 hu3
      obtain ⟨v, hv, hv0, hv1⟩ := row0 u hu0 hu H3.out.2.1 h5.1
      have T5 : Hid (Touch c w0 w5) := (T3.out.alloc _).trans h5.1
      have BX5 := Box.touch (Box.on BX3.out ((Below.refl _ _).alloc (Nat.le_refl _) _)) h5.1 (by omega)
      have BY5 := Box.touch (Box.on BY3.out ((Below.refl _ _).alloc (Nat.le_refl _) _)) h5.1 (by omega)
      have H5 : Hid (Cur B w5 c a len cap) := h5.2
      clear h5
      obtain ⟨c0, c1, c2, f0, f1, f2⟩ := BX5
      have BX6 := Box.set0 (Box.mk c0 c1 c2 f0 f1 f2) (.int .i64 v)
      have BY6 := BY5.far ⟨w1.heap.size, 0, none⟩ (.int .i64 v) (by simp; omega)
      have T6 : Hid (Touch c w0 (w5.setCell ⟨w1.heap.size, 0, none⟩ (.int .i64 v))) := T5.out.setNew (by simp; omega) _
      have H6 : Hid (Cur B (w5.setCell ⟨w1.heap.size, 0, none⟩ (.int .i64 v)) c a len cap) := H5.out.setFar (by simp; omega) (by simp; omega) _
      obtain ⟨i0, i1, i2, _, _, _⟩ := BX6
      obtain ⟨d0, d1, d2, g0, g1, g2⟩ := BY6
      obtain ⟨e0, e1, e2, _, _, _⟩ := (Box.mk d0 d1 d2 g0 g1 g2).set (.int .i64 v) (.int .i64 x) (.int .i64 y)
      go_wp2
      refine bodyPost_ret (v := .agg #[.int .i64 v, .int .i64 x, .int .i64 y]) (by simp [results, Try.results69, go_sem, e0, e1, e2]) rfl ?_
      exact ⟨v, x, y, rfl, ⟨hv0, hv1⟩, bx, by', ((T6.out.setNew (p := ⟨w.heap.size, 0, none⟩) hw0 _).setNew (p := ⟨w.heap.size, 1, none⟩) hw0 _).setNew (p := ⟨w.heap.size, 2, none⟩) hw0 _, ((H6.out.setFar (p := ⟨w.heap.size, 0, none⟩) (by simp; omega) (by simp; omega) _).setFar (p := ⟨w.heap.size, 1, none⟩) (by simp; omega) (by simp; omega) _).setFar (p := ⟨w.heap.size, 2, none⟩) (by simp; omega) (by simp; omega) _⟩
    · go_wp2_with fail
      refine (below_at B c _ _ a len cap _ (At.start (H3.out.alloc _))).mono ?_
      rintro e w5 ⟨u, rfl, hu0, hu1, hu2, hu3, h5⟩
      have hu := hu2 (by omega)
      clear hu1 hu2 hu3
      obtain ⟨v, hv, hv0, hv1⟩ := row1 u hu0 hu H3.out.2.1 h5.1
      have T5 : Hid (Touch c w0 w5) := (T3.out.alloc _).trans h5.1
      have BX5 := Box.touch (Box.on BX3.out ((Below.refl _ _).alloc (Nat.le_refl _) _)) h5.1 (by omega)
      have BY5 := Box.touch (Box.on BY3.out ((Below.refl _ _).alloc (Nat.le_refl _) _)) h5.1 (by omega)
      have H5 : Hid (Cur B w5 c a len cap) := h5.2
      clear h5
      obtain ⟨c0, c1, c2, f0, f1, f2⟩ := BX5
      have BX6 := Box.set1 (Box.mk c0 c1 c2 f0 f1 f2) (.int .i64 v)
      have BY6 := BY5.far ⟨w1.heap.size, 1, none⟩ (.int .i64 v) (by simp; omega)
      have T6 : Hid (Touch c w0 (w5.setCell ⟨w1.heap.size, 1, none⟩ (.int .i64 v))) := T5.out.setNew (by simp; omega) _
      have H6 : Hid (Cur B (w5.setCell ⟨w1.heap.size, 1, none⟩ (.int .i64 v)) c a len cap) := H5.out.setFar (by simp; omega) (by simp; omega) _
      obtain ⟨i0, i1, i2, _, _, _⟩ := BX6
      obtain ⟨d0, d1, d2, g0, g1, g2⟩ := BY6
      obtain ⟨e0, e1, e2, _, _, _⟩ := (Box.mk d0 d1 d2 g0 g1 g2).set (.int .i64 op) (.int .i64 v) (.int .i64 y)
      go_wp2
      refine bodyPost_ret (v := .agg #[.int .i64 op, .int .i64 v, .int .i64 y]) (by simp [results, Try.results69, go_sem, e0, e1, e2]) rfl ?_
      exact ⟨op, v, y, rfl, bo, ⟨hv0, hv1⟩, by', ((T6.out.setNew (p := ⟨w.heap.size, 0, none⟩) hw0 _).setNew (p := ⟨w.heap.size, 1, none⟩) hw0 _).setNew (p := ⟨w.heap.size, 2, none⟩) hw0 _, ((H6.out.setFar (p := ⟨w.heap.size, 0, none⟩) (by simp; omega) (by simp; omega) _).setFar (p := ⟨w.heap.size, 1, none⟩) (by simp; omega) (by simp; omega) _).setFar (p := ⟨w.heap.size, 2, none⟩) (by simp; omega) (by simp; omega) _⟩
    · go_wp2_with fail
      refine (below_at B c _ _ a len cap _ (At.start (H3.out.alloc _))).mono ?_
      rintro e w5 ⟨u, rfl, hu0, hu1, hu2, hu3, h5⟩
      have hu := hu2 (by omega)
      clear hu1 hu2 hu3
      obtain ⟨v, hv, hv0, hv1⟩ := row2 u hu0 hu H3.out.2.1 h5.1
      have T5 : Hid (Touch c w0 w5) := (T3.out.alloc _).trans h5.1
      have BX5 := Box.touch (Box.on BX3.out ((Below.refl _ _).alloc (Nat.le_refl _) _)) h5.1 (by omega)
      have BY5 := Box.touch (Box.on BY3.out ((Below.refl _ _).alloc (Nat.le_refl _) _)) h5.1 (by omega)
      have H5 : Hid (Cur B w5 c a len cap) := h5.2
      clear h5
      obtain ⟨c0, c1, c2, f0, f1, f2⟩ := BX5
      have BX6 := Box.set2 (Box.mk c0 c1 c2 f0 f1 f2) (.int .i64 v)
      have BY6 := BY5.far ⟨w1.heap.size, 2, none⟩ (.int .i64 v) (by simp; omega)
      have T6 : Hid (Touch c w0 (w5.setCell ⟨w1.heap.size, 2, none⟩ (.int .i64 v))) := T5.out.setNew (by simp; omega) _
      have H6 : Hid (Cur B (w5.setCell ⟨w1.heap.size, 2, none⟩ (.int .i64 v)) c a len cap) := H5.out.setFar (by simp; omega) (by simp; omega) _
      obtain ⟨i0, i1, i2, _, _, _⟩ := BX6
      obtain ⟨d0, d1, d2, g0, g1, g2⟩ := BY6
      obtain ⟨e0, e1, e2, _, _, _⟩ := (Box.mk d0 d1 d2 g0 g1 g2).set (.int .i64 op) (.int .i64 x) (.int .i64 v)
      go_wp2
      refine bodyPost_ret (v := .agg #[.int .i64 op, .int .i64 x, .int .i64 v]) (by simp [results, Try.results69, go_sem, e0, e1, e2]) rfl ?_
      exact ⟨op, x, v, rfl, bo, bx, ⟨hv0, hv1⟩, ((T6.out.setNew (p := ⟨w.heap.size, 0, none⟩) hw0 _).setNew (p := ⟨w.heap.size, 1, none⟩) hw0 _).setNew (p := ⟨w.heap.size, 2, none⟩) hw0 _, ((H6.out.setFar (p := ⟨w.heap.size, 0, none⟩) (by simp; omega) (by simp; omega) _).setFar (p := ⟨w.heap.size, 1, none⟩) (by simp; omega) (by simp; omega) _).setFar (p := ⟨w.heap.size, 2, none⟩) (by simp; omega) (by simp; omega) _⟩
end Cu
end Go.Proofs.Ytffkkhaiedhaiaa

/- Rows of steps that a call has made. -/
namespace Go.Proofs.Ytffkkhaiedhaiaa
namespace St
open Go.ChangeShapes Go.WideShapes Go.ChangeAt Go.RowKit

/-- The cells of steps, one behind the other. -/
def flat (l : List Tx.Ins) : List Value := l.flatMap fun x => [.int .i64 x.1, .int .i64 x.2.1, .int .i64 x.2.2]
theorem flat_snoc (l : List Tx.Ins) (x : Tx.Ins) : flat (l ++ [x]) = flat l ++ [.int .i64 x.1, .int .i64 x.2.1, .int .i64 x.2.2] := by simp [flat]
theorem flat_at (l : List Tx.Ins) : ∀ (j : Nat) (x : Tx.Ins), l[j]? = some x → (flat l)[j * 3]? = some (.int .i64 x.1) ∧ (flat l)[j * 3 + 1]? = some (.int .i64 x.2.1) ∧ (flat l)[j * 3 + 2]? = some (.int .i64 x.2.2) := by
  induction l with
  | nil => intro j x h; simp at h
  | cons y l ih =>
    intro j x h
    have e : flat (y :: l) = .int .i64 y.1 :: .int .i64 y.2.1 :: .int .i64 y.2.2 :: flat l := by simp [flat]
    rw [e]
    cases j with
    | zero => simp at h; subst h; exact ⟨rfl, rfl, rfl⟩
    | succ j =>
      have h' : l[j]? = some x := by simpa using h
      have := ih j x h'
      have e3 : (j + 1) * 3 = j * 3 + 3 := by omega
      rw [e3]
      simpa using this

/-- A row of steps that the call has made: the slice, its steps, room to write. -/
def Got (B : Nat) (w : World) (v : Value) (l : List Tx.Ins) : Prop :=
  ∃ g cap, v = .slice (some ⟨g, 0, none⟩) l.length cap ∧ B ≤ g ∧ g < w.heap.size ∧ Row w g 0 l ∧ Room w g (l.length * 3)
theorem got_of {w : World} {B : Nat} {e : TypeId} {v : Value} {l : List Tx.Ins} (h : w.ownsRow B e 3 v l.length (flat l)) (hv : v ≠ .slice none 0 0) : Got B w v l := by
  have hc := @World.ownsRow.cells w B e 3 v l.length (flat l) h
  have hl := @World.ownsRow.lt w B e 3 v l.length (flat l) h
  have h' := h
  obtain ⟨_, ⟨h, _⟩ | ⟨g, cap, cur, rfl, hB, _, hcap, _⟩⟩ := h
  · exact absurd h hv
  · refine ⟨g, cap, rfl, hB, (hl g rfl).2, fun j x hj => ?_, room_own h' hcap⟩
    obtain ⟨f0, f1, f2⟩ := flat_at l j x hj
    have g0 := hc (g := g) rfl _ _ f0
    have g1 := hc (g := g) rfl _ _ f1
    have g2 := hc (g := g) rfl _ _ f2
    simp only [Go.WideShapes.add_plain] at g0 g1 g2
    exact ⟨g0, by simpa [Nat.add_assoc] using g1, by simpa [Nat.add_assoc] using g2⟩
theorem Got.on {B : Nat} {u w : World} {v : Value} {l : List Tx.Ins} (h : Got B u v l) (hb : Below u.heap.size u w) : Got B w v l := by
  obtain ⟨g, cap, hv, h1, h2, h3, h4⟩ := h
  exact ⟨g, cap, hv, h1, Nat.lt_of_lt_of_le h2 hb.size, h3.on hb, h4.on hb⟩
theorem got_nil (w : World) (B : Nat) (hB : B ≤ w.heap.size) (t : TypeId) : Got B (w.alloc (.cells #[] t)) (.slice (some ⟨w.heap.size, 0, none⟩) 0 0) [] :=
  ⟨w.heap.size, 0, rfl, hB, by simp, fun j x h => by simp at h, fun i h => by simp at h⟩
theorem got_nil2 (w : World) (o : Obj) (B : Nat) (hB : B ≤ w.heap.size) (t : TypeId) : Got B ((w.alloc o).alloc (.cells #[] t)) (.slice (some ⟨w.heap.size + 1, 0, none⟩) 0 0) [] :=
  ⟨w.heap.size + 1, 0, rfl, by omega, by simp, fun j x h => by simp at h, fun i h => by simp at h⟩
theorem own_base {w : World} {B B' : Nat} {e : TypeId} {q n : Nat} {x : Value} {xs : List Value} (h : w.ownsRow B e q x n xs) (hB : B' ≤ B) : w.ownsRow B' e q x n xs := by
  obtain ⟨q1, q2 | ⟨g1, c1, cur1, q3, q4, q5⟩⟩ := h
  · exact ⟨q1, Or.inl q2⟩
  · exact ⟨q1, Or.inr ⟨g1, c1, cur1, q3, Nat.le_trans hB q4, q5⟩⟩
theorem own_ne {w : World} {B B' : Nat} {e e' : TypeId} {q q' n m : Nat} {x y : Value} {xs ys : List Value} (h : w.ownsRow B e q x n xs) (h' : w.ownsRow B' e' q' y m ys) (hne : e ≠ e') {g : Nat} (hg : x.ownBlock = some g) : y.ownBlock ≠ some g := by
  intro hy
  obtain ⟨_, ⟨rfl, _⟩ | ⟨g1, c1, cur1, rfl, _, hb1, _⟩⟩ := h
  · simp [Value.ownBlock] at hg
  · obtain ⟨_, ⟨rfl, _⟩ | ⟨g2, c2, cur2, rfl, _, hb2, _⟩⟩ := h'
    · simp [Value.ownBlock] at hy
    · simp only [Value.ownBlock, Option.some.injEq] at hg hy
      subst hg hy
      rw [hb1] at hb2
      simp at hb2
      exact hne hb2.2
theorem keep_own {u v : World} {B n q : Nat} {e : TypeId} {x : Value} {xs : List Value} (h : u.ownsRow B e q x n xs) (hb : Below u.heap.size u v) : v.ownsRow B e q x n xs :=
  h.kept (row := none) ⟨hb.os, hb.tape, hb.output, hb.size, fun k hk _ => hb.block k hk⟩ (by
    cases hx : x.ownBlock with
    | none => exact Or.inl rfl
    | some g => exact Or.inr (by simp))

/-- The cells of steps, where they lie. -/
theorem flat_len (l : List Tx.Ins) : (flat l).length = l.length * 3 := by
  induction l with
  | nil => rfl
  | cons x l ih => have e : flat (x :: l) = .int .i64 x.1 :: .int .i64 x.2.1 :: .int .i64 x.2.2 :: flat l := by simp [flat]
                   rw [e]; simp [ih]; omega
theorem flat_append (l r : List Tx.Ins) : flat (l ++ r) = flat l ++ flat r := by simp [flat]
theorem flat_one (l : List Tx.Ins) : ∀ u ∈ flat l, u.oneCell' = true := by
  intro u hu
  obtain ⟨x, _, hx⟩ := List.mem_flatMap.1 hu
  simp at hx
  rcases hx with rfl | rfl | rfl <;> rfl
theorem flat_get {l : List Tx.Ins} {j : Nat} {u : Value} (h : (flat l)[j]? = some u) : ∃ x, l[j / 3]? = some x ∧ ((j % 3 = 0 ∧ u = .int .i64 x.1) ∨ (j % 3 = 1 ∧ u = .int .i64 x.2.1) ∨ (j % 3 = 2 ∧ u = .int .i64 x.2.2)) := by
  have hj : j < (flat l).length := (List.getElem?_eq_some_iff.1 h).1
  rw [flat_len] at hj
  have hq : j / 3 < l.length := by omega
  refine ⟨l[j / 3], List.getElem?_eq_getElem hq, ?_⟩
  obtain ⟨f0, f1, f2⟩ := flat_at l (j / 3) _ (List.getElem?_eq_getElem hq)
  have hm : j % 3 = 0 ∨ j % 3 = 1 ∨ j % 3 = 2 := by omega
  rcases hm with hm | hm | hm
  · refine .inl ⟨hm, ?_⟩
    have e : j / 3 * 3 = j := by omega
    rw [e, h] at f0; exact Option.some.inj f0
  · refine .inr (.inl ⟨hm, ?_⟩)
    have e : j / 3 * 3 + 1 = j := by omega
    rw [e, h] at f1; exact Option.some.inj f1
  · refine .inr (.inr ⟨hm, ?_⟩)
    have e : j / 3 * 3 + 2 = j := by omega
    rw [e, h] at f2; exact Option.some.inj f2
theorem Row.flat {w : World} {g o : Nat} {l : List Tx.Ins} (h : Row w g o l) : ∀ j u, (flat l)[j]? = some u → w.cell? ((⟨g, o, none⟩ : Addr).add j) = some u := by
  intro j u hu
  obtain ⟨x, hx, hh⟩ := flat_get hu
  obtain ⟨h0, h1, h2⟩ := h _ _ hx
  rw [Go.WideShapes.add_plain]
  rcases hh with ⟨hm, rfl⟩ | ⟨hm, rfl⟩ | ⟨hm, rfl⟩
  · have e : o + j / 3 * 3 = o + j := by omega
    rw [e] at h0; exact h0
  · have e : o + j / 3 * 3 + 1 = o + j := by omega
    rw [e] at h1; exact h1
  · have e : o + j / 3 * 3 + 2 = o + j := by omega
    rw [e] at h2; exact h2
/-- A literal of steps. -/
theorem got_lit (w : World) (B : Nat) (hB : B ≤ w.heap.size) (l : List Tx.Ins) (cap : Nat) (t : TypeId) (cs : Array Value) (hcs : cs = (flat l).toArray) : Got B (w.alloc (.cells cs t)) (.slice (some ⟨w.heap.size, 0, none⟩) l.length cap) l := by
  subst hcs
  have hc : ∀ j u, (flat l)[j]? = some u → (w.alloc (.cells (flat l).toArray t)).cell? ⟨w.heap.size, j, none⟩ = some u := by
    intro j u hu
    simp [go_sem, hu]
  refine ⟨w.heap.size, cap, rfl, hB, by simp, fun j x hj => ?_, fun i hi => ?_⟩
  · obtain ⟨f0, f1, f2⟩ := flat_at l j x hj
    rw [Nat.zero_add]
    exact ⟨hc _ _ f0, hc _ _ f1, hc _ _ f2⟩
  · have : i < (flat l).length := by rw [flat_len]; exact hi
    exact ⟨⟨_, hc i _ (List.getElem?_eq_getElem this)⟩, by simp [go_sem]⟩
theorem Got.base {B B' : Nat} {w : World} {v : Value} {l : List Tx.Ins} (h : Got B w v l) (hB : B' ≤ B) : Got B' w v l := by
  obtain ⟨g, cap, hv, h1, h2, h3, h4⟩ := h
  exact ⟨g, cap, hv, Nat.le_trans hB h1, h2, h3, h4⟩
end St
end Go.Proofs.Ytffkkhaiedhaiaa
