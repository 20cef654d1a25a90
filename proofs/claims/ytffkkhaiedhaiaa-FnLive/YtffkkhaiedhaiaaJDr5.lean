/- The contract of the draw of any step. -/
import Derived.Test.YtffkkhaiedhaiaaJDr1
import Derived.Test.YtffkkhaiedhaiaaJPm0
namespace Go.Proofs.Ytffkkhaiedhaiaa
namespace Cu
open Go.ChangeShapes Go.WideShapes Go.ChangeAt Go.RowKit St

theorem Box.set0 {w : World} {k : Nat} {x y z : Value} (h : Box w k x y z) (x' : Value) : Box (w.setCell ⟨k, 0, none⟩ x') k x' y z := by
  obtain ⟨c0, c1, c2, f0, f1, f2⟩ := h
  have n01 : (⟨k, 0, none⟩ : Addr) ≠ ⟨k, 1, none⟩ := by simp
  have n02 : (⟨k, 0, none⟩ : Addr) ≠ ⟨k, 2, none⟩ := by simp
  exact ⟨World.cell?_setCell_same _ _ _ c0, (World.cell?_setCell_other _ _ _ _ n01).trans c1, (World.cell?_setCell_other _ _ _ _ n02).trans c2, by simpa using f0, by simpa using f1, by simpa using f2⟩

theorem row0 {w w2 : World} {c : Nat} {t : TypeId} (r : Int) (h0 : 0 ≤ r) (h1 : r < 4) (hc : c < w.heap.size) (ht : Touch c (w.alloc (.cells #[.int .i64 0, .int .i64 21, .int .i64 (-1), .int .i64 20] t)) w2) :
    ∃ v : Int, w2.cell? ⟨w.heap.size, r.toNat, none⟩ = some (.int .i64 v) ∧ -9223372036854775808 ≤ v ∧ v ≤ 9223372036854775807 := by
  obtain ⟨k, rfl⟩ := Int.eq_ofNat_of_zero_le h0
  rw [Int.toNat_natCast, ht.cell (p := ⟨w.heap.size, k, none⟩) (by simp) (by simp; omega)]
  have hk : k = 0 ∨ k = 1 ∨ k = 2 ∨ k = 3 := by omega
  rcases hk with rfl | rfl | rfl | rfl
  all_goals exact ⟨_, by simp [go_sem]; rfl, by omega, by omega⟩

theorem row1 {w w2 : World} {c : Nat} {t : TypeId} (r : Int) (h0 : 0 ≤ r) (h1 : r < 8) (hc : c < w.heap.size) (ht : Touch c (w.alloc (.cells #[.int .i64 (-1), .int .i64 5, .int .i64 6, .int .i64 7, .int .i64 8, .int .i64 39, .int .i64 40, .int .i64 2147483648] t)) w2) :
    ∃ v : Int, w2.cell? ⟨w.heap.size, r.toNat, none⟩ = some (.int .i64 v) ∧ -9223372036854775808 ≤ v ∧ v ≤ 9223372036854775807 := by
  obtain ⟨k, rfl⟩ := Int.eq_ofNat_of_zero_le h0
  rw [Int.toNat_natCast, ht.cell (p := ⟨w.heap.size, k, none⟩) (by simp) (by simp; omega)]
  have hk : k = 0 ∨ k = 1 ∨ k = 2 ∨ k = 3 ∨ k = 4 ∨ k = 5 ∨ k = 6 ∨ k = 7 := by omega
  rcases hk with rfl | rfl | rfl | rfl | rfl | rfl | rfl | rfl
  all_goals exact ⟨_, by simp [go_sem]; rfl, by omega, by omega⟩

theorem row2 {w w2 : World} {c : Nat} {t : TypeId} (r : Int) (h0 : 0 ≤ r) (h1 : r < 6) (hc : c < w.heap.size) (ht : Touch c (w.alloc (.cells #[.int .i64 (-1), .int .i64 1, .int .i64 3, .int .i64 4, .int .i64 19, .int .i64 20] t)) w2) :
    ∃ v : Int, w2.cell? ⟨w.heap.size, r.toNat, none⟩ = some (.int .i64 v) ∧ -9223372036854775808 ≤ v ∧ v ≤ 9223372036854775807 := by
  obtain ⟨k, rfl⟩ := Int.eq_ofNat_of_zero_le h0
  rw [Int.toNat_natCast, ht.cell (p := ⟨w.heap.size, k, none⟩) (by simp) (by simp; omega)]
  have hk : k = 0 ∨ k = 1 ∨ k = 2 ∨ k = 3 ∨ k = 4 ∨ k = 5 := by omega
  rcases hk with rfl | rfl | rfl | rfl | rfl | rfl
  all_goals exact ⟨_, by simp [go_sem]; rfl, by omega, by omega⟩

set_option maxHeartbeats 2000000 in
theorem drawAnyI_at (B c : Nat) (w0 w : World) (a : Option Addr) (len cap : Nat) (h : At B w0 w c a len cap) :
    Calls Try.prog 69 #[.pointer (some ⟨c, 0, none⟩)] w fun e w' => DrewIns B w0 c a len cap e w' := by
  have H : Hid (At B w0 w c a len cap) := h
  have hcw : c < w.heap.size := h.2.2.1
  have hBc : B ≤ c := h.2.1
  have hw0 : w0.heap.size ≤ w.heap.size := h.1.size
  clear h
  go_enter Try.func69, Try.ntmps69
  go_wp2_with fail
  refine (drawInsn_at B c _ _ a len cap 9 (At.start (H.out.2.alloc _))).mono ?_
  rintro e w1 ⟨op, x, y, rfl, bo, bx, by', h1⟩
  have T1 : Hid (Touch c w0 w1) := (H.out.1.alloc _).trans h1.1
  have BY1 : Hid (Box w1 w.heap.size (.int .i64 0) (.int .i64 0) (.int .i64 0)) := Box.touch (Box.new w _ _ _ _) h1.1 (by omega)
  have hw1 : w.heap.size < w1.heap.size := by have := h1.1.size; simp at this; omega
  have H1 : Hid (Cur B w1 c a len cap) := h1.2
  clear h1
  go_wp2_with fail
  refine (once_at B c _ _ a len cap _ (At.start (H1.out.alloc _))).mono ?_
  rintro e w2 ⟨q, rfl, h2⟩
  have T2 : Hid (Touch c w0 w2) := (T1.out.alloc _).trans h2.1
  have BX2 : Hid (Box w2 w1.heap.size (.int .i64 op) (.int .i64 x) (.int .i64 y)) := Box.touch (Box.new w1 _ _ _ _) h2.1 (by omega)
  have BY2 : Hid (Box w2 w.heap.size (.int .i64 0) (.int .i64 0) (.int .i64 0)) := Box.touch (Box.on BY1.out ((Below.refl _ _).alloc (Nat.le_refl _) _)) h2.1 (by omega)
  have H2 : Hid (Cur B w2 c a len cap) := h2.2
  have hw2 : w1.heap.size < w2.heap.size := by have := h2.1.size; simp at this; omega
  clear h2 BY1
  cases q
  · obtain ⟨i0, i1, i2, _, _, _⟩ := BX2.out
    obtain ⟨d0, d1, d2, g0, g1, g2⟩ := BY2.out
    obtain ⟨e0, e1, e2, _, _, _⟩ := (Box.mk d0 d1 d2 g0 g1 g2).set (.int .i64 op) (.int .i64 x) (.int .i64 y)
    go_wp2
    refine bodyPost_ret (v := .agg #[.int .i64 op, .int .i64 x, .int .i64 y]) (by simp [results, Try.results69, go_sem, e0, e1, e2]) rfl ?_
    exact ⟨op, x, y, rfl, bo, bx, by', ((T2.out.setNew (p := ⟨w.heap.size, 0, none⟩) hw0 _).setNew (p := ⟨w.heap.size, 1, none⟩) hw0 _).setNew (p := ⟨w.heap.size, 2, none⟩) hw0 _, ((H2.out.setFar (p := ⟨w.heap.size, 0, none⟩) (by simp; omega) (by simp; omega) _).setFar (p := ⟨w.heap.size, 1, none⟩) (by simp; omega) (by simp; omega) _).setFar (p := ⟨w.heap.size, 2, none⟩) (by simp; omega) (by simp; omega) _⟩
  · go_wp2_with fail
    refine (below_at B c _ _ a len cap _ (At.start H2.out)).mono ?_
    rintro e w3 ⟨r, rfl, hr0, hr1, hr2, hr3, h3⟩
    have hr := hr2 (by omega)
    clear hr1 hr2 hr3
    have T3 : Hid (Touch c w0 w3) := T2.out.trans h3.1
    have BX3 : Hid (Box w3 w1.heap.size (.int .i64 op) (.int .i64 x) (.int .i64 y)) := Box.touch BX2.out h3.1 (by omega)
    have BY3 : Hid (Box w3 w.heap.size (.int .i64 0) (.int .i64 0) (.int .i64 0)) := Box.touch BY2.out h3.1 (by omega)
    have H3 : Hid (Cur B w3 c a len cap) := h3.2
    have hw3 : w2.heap.size ≤ w3.heap.size := h3.1.size
    clear h3 BX2 BY2
    have hcase : r = 0 ∨ r = 1 ∨ r = 2 := by omega
    rcases hcase with rfl | rfl | rfl
    · go_wp2_with fail
      refine (below_at B c _ _ a len cap _ (At.start (H3.out.alloc _))).mono ?_
      rintro e w5 ⟨u, rfl, hu0, hu1, hu2, hu3, h5⟩
      have hu := hu2 (by omega)
      clear hu1 hu2 hu3
      obtain ⟨v, hv, hv0, hv1⟩ := row0 u hu0 hu H3.out.2.1 h5.1
      have T5 : Hid (Touch c w0 w5) := (T3.out.alloc _).trans h5.1
      have BX5 := Box.touch (Box.on BX3.out ((Below.refl _ _).alloc (Nat.le_refl _) _)) h5.1 (by omega)
      have BY5 := Box.touch (Box.on BY3.out ((Below.refl _ _).alloc (Nat.le_refl _) _)) h5.1 (by omega)
      have H5 : Hid (Cur B w5 c a len cap) := h5.2
      clear h5
      obtain ⟨c0, c1, c2, f0, f1, f2⟩ := BX5
      have BX6 := Box.set0 (Box.mk c0 c1 c2 f0 f1 f2) (.int .i64 v)
      have BY6 := BY5.far ⟨w1.heap.size, 0, none⟩ (.int .i64 v) (by simp; omega)
      have T6 : Hid (Touch c w0 (w5.setCell ⟨w1.heap.size, 0, none⟩ (.int .i64 v))) := T5.out.setNew (by simp; omega) _
      have H6 : Hid (Cur B (w5.setCell ⟨w1.heap.size, 0, none⟩ (.int .i64 v)) c a len cap) := H5.out.setFar (by simp; omega) (by simp; omega) _
      obtain ⟨i0, i1, i2, _, _, _⟩ := BX6
      obtain ⟨d0, d1, d2, g0, g1, g2⟩ := BY6
      obtain ⟨e0, e1, e2, _, _, _⟩ := (Box.mk d0 d1 d2 g0 g1 g2).set (.int .i64 v) (.int .i64 x) (.int .i64 y)
      go_wp2
      refine bodyPost_ret (v := .agg #[.int .i64 v, .int .i64 x, .int .i64 y]) (by simp [results, Try.results69, go_sem, e0, e1, e2]) rfl ?_
      exact ⟨v, x, y, rfl, ⟨hv0, hv1⟩, bx, by', ((T6.out.setNew (p := ⟨w.heap.size, 0, none⟩) hw0 _).setNew (p := ⟨w.heap.size, 1, none⟩) hw0 _).setNew (p := ⟨w.heap.size, 2, none⟩) hw0 _, ((H6.out.setFar (p := ⟨w.heap.size, 0, none⟩) (by simp; omega) (by simp; omega) _).setFar (p := ⟨w.heap.size, 1, none⟩) (by simp; omega) (by simp; omega) _).setFar (p := ⟨w.heap.size, 2, none⟩) (by simp; omega) (by simp; omega) _⟩
    · go_wp2_with fail
      refine (below_at B c _ _ a len cap _ (At.start (H3.out.alloc _))).mono ?_
      rintro e w5 ⟨u, rfl, hu0, hu1, hu2, hu3, h5⟩
      have hu := hu2 (by omega)
      clear hu1 hu2 hu3
      obtain ⟨v, hv, hv0, hv1⟩ := row1 u hu0 hu H3.out.2.1 h5.1
      have T5 : Hid (Touch c w0 w5) := (T3.out.alloc _).trans h5.1
      have BX5 := Box.touch (Box.on BX3.out ((Below.refl _ _).alloc (Nat.le_refl _) _)) h5.1 (by omega)
      have BY5 := Box.touch (Box.on BY3.out ((Below.refl _ _).alloc (Nat.le_refl _) _)) h5.1 (by omega)
      have H5 : Hid (Cur B w5 c a len cap) := h5.2
      clear h5
      obtain ⟨c0, c1, c2, f0, f1, f2⟩ := BX5
      have BX6 := Box.set1 (Box.mk c0 c1 c2 f0 f1 f2) (.int .i64 v)
      have BY6 := BY5.far ⟨w1.heap.size, 1, none⟩ (.int .i64 v) (by simp; omega)
      have T6 : Hid (Touch c w0 (w5.setCell ⟨w1.heap.size, 1, none⟩ (.int .i64 v))) := T5.out.setNew (by simp; omega) _
      have H6 : Hid (Cur B (w5.setCell ⟨w1.heap.size, 1, none⟩ (.int .i64 v)) c a len cap) := H5.out.setFar (by simp; omega) (by simp; omega) _
      obtain ⟨i0, i1, i2, _, _, _⟩ := BX6
      obtain ⟨d0, d1, d2, g0, g1, g2⟩ := BY6
      obtain ⟨e0, e1, e2, _, _, _⟩ := (Box.mk d0 d1 d2 g0 g1 g2).set (.int .i64 op) (.int .i64 v) (.int .i64 y)
      go_wp2
      refine bodyPost_ret (v := .agg #[.int .i64 op, .int .i64 v, .int .i64 y]) (by simp [results, Try.results69, go_sem, e0, e1, e2]) rfl ?_
      exact ⟨op, v, y, rfl, bo, ⟨hv0, hv1⟩, by', ((T6.out.setNew (p := ⟨w.heap.size, 0, none⟩) hw0 _).setNew (p := ⟨w.heap.size, 1, none⟩) hw0 _).setNew (p := ⟨w.heap.size, 2, none⟩) hw0 _, ((H6.out.setFar (p := ⟨w.heap.size, 0, none⟩) (by simp; omega) (by simp; omega) _).setFar (p := ⟨w.heap.size, 1, none⟩) (by simp; omega) (by simp; omega) _).setFar (p := ⟨w.heap.size, 2, none⟩) (by simp; omega) (by simp; omega) _⟩
    · go_wp2_with fail
      refine (below_at B c _ _ a len cap _ (At.start (H3.out.alloc _))).mono ?_
      rintro e w5 ⟨u, rfl, hu0, hu1, hu2, hu3, h5⟩
      have hu := hu2 (by omega)
      clear hu1 hu2 hu3
      obtain ⟨v, hv, hv0, hv1⟩ := row2 u hu0 hu H3.out.2.1 h5.1
      have T5 : Hid (Touch c w0 w5) := (T3.out.alloc _).trans h5.1
      have BX5 := Box.touch (Box.on BX3.out ((Below.refl _ _).alloc (Nat.le_refl _) _)) h5.1 (by omega)
      have BY5 := Box.touch (Box.on BY3.out ((Below.refl _ _).alloc (Nat.le_refl _) _)) h5.1 (by omega)
      have H5 : Hid (Cur B w5 c a len cap) := h5.2
      clear h5
      obtain ⟨c0, c1, c2, f0, f1, f2⟩ := BX5
      have BX6 := Box.set2 (Box.mk c0 c1 c2 f0 f1 f2) (.int .i64 v)
      have BY6 := BY5.far ⟨w1.heap.size, 2, none⟩ (.int .i64 v) (by simp; omega)
      have T6 : Hid (Touch c w0 (w5.setCell ⟨w1.heap.size, 2, none⟩ (.int .i64 v))) := T5.out.setNew (by simp; omega) _
      have H6 : Hid (Cur B (w5.setCell ⟨w1.heap.size, 2, none⟩ (.int .i64 v)) c a len cap) := H5.out.setFar (by simp; omega) (by simp; omega) _
      obtain ⟨i0, i1, i2, _, _, _⟩ := BX6
      obtain ⟨d0, d1, d2, g0, g1, g2⟩ := BY6
      obtain ⟨e0, e1, e2, _, _, _⟩ := (Box.mk d0 d1 d2 g0 g1 g2).set (.int .i64 op) (.int .i64 x) (.int .i64 v)
      go_wp2
      refine bodyPost_ret (v := .agg #[.int .i64 op, .int .i64 x, .int .i64 v]) (by simp [results, Try.results69, go_sem, e0, e1, e2]) rfl ?_
      exact ⟨op, x, v, rfl, bo, bx, ⟨hv0, hv1⟩, ((T6.out.setNew (p := ⟨w.heap.size, 0, none⟩) hw0 _).setNew (p := ⟨w.heap.size, 1, none⟩) hw0 _).setNew (p := ⟨w.heap.size, 2, none⟩) hw0 _, ((H6.out.setFar (p := ⟨w.heap.size, 0, none⟩) (by simp; omega) (by simp; omega) _).setFar (p := ⟨w.heap.size, 1, none⟩) (by simp; omega) (by simp; omega) _).setFar (p := ⟨w.heap.size, 2, none⟩) (by simp; omega) (by simp; omega) _⟩
end Cu
end Go.Proofs.Ytffkkhaiedhaiaa

/- The contract of the draw of a piece of code. -/
namespace Go.Proofs.Ytffkkhaiedhaiaa
namespace Cu
open Go.ChangeShapes Go.WideShapes Go.ChangeAt Go.RowKit St

theorem row_touch {c g o : Nat} {u w : World} {l : List Tx.Ins} (h : Row u g o l) (ht : Touch c u w) (hc : g ≠ c) : Row w g o l := by
  intro j x hj
  obtain ⟨h0, h1, h2⟩ := h j x hj
  have l0 : g < u.heap.size := St.cell_lt h0
  exact ⟨(ht.cell l0 hc).trans h0, (ht.cell l0 hc).trans h1, (ht.cell l0 hc).trans h2⟩
theorem room_touch {c g n : Nat} {u w : World} (h : Room u g n) (ht : Touch c u w) (hc : g ≠ c) : Room w g n := by
  intro i hi
  obtain ⟨⟨x, hx⟩, hf⟩ := h i hi
  have l0 : g < u.heap.size := St.cell_lt hx
  exact ⟨⟨x, (ht.cell l0 hc).trans hx⟩, (ht.frozen l0 hc).trans hf⟩
theorem got_touch {c B : Nat} {u w : World} {v : Value} {l : List Tx.Ins} (h : Got B u v l) (ht : Touch c u w) (hc : c < B) : Got B w v l := by
  obtain ⟨g, cap, hv, h1, h2, h3, h4⟩ := h
  exact ⟨g, cap, hv, h1, Nat.lt_of_lt_of_le h2 ht.size, row_touch h3 ht (by omega), room_touch h4 ht (by omega)⟩
theorem At.alloc {B c : Nat} {u w : World} {a : Option Addr} {len cap : Nat} (h : At B u w c a len cap) (o : Obj) : At B u (w.alloc o) c a len cap := ⟨h.1.alloc o, h.2.alloc o⟩
theorem At.on {B c : Nat} {u v w : World} {a : Option Addr} {len cap : Nat} (h : At B u v c a len cap) (hb : Below v.heap.size v w) : At B u w c a len cap := ⟨h.1.trans (touch_below hb), h.2.later hb h.2.2.1⟩

/-- What a step holds fits its fields. -/
def FitsI (x : Tx.Ins) : Prop := (-9223372036854775808 ≤ x.2.1 ∧ x.2.1 ≤ 9223372036854775807) ∧ (-9223372036854775808 ≤ x.2.2 ∧ x.2.2 ≤ 9223372036854775807)
def Fits : List Tx.Ins → Prop
  | [] => True
  | x :: l => FitsI x ∧ Fits l
theorem fits_iff (l : List Tx.Ins) : Fits l ↔ ∀ x ∈ l, FitsI x := by
  induction l with
  | nil => simp [Fits]
  | cons x l ih => simp [Fits, ih]
theorem Fits.append {l r : List Tx.Ins} (h : Fits l) (k : Fits r) : Fits (l ++ r) := by
  rw [fits_iff] at *
  intro x hx
  rcases List.mem_append.1 hx with hx | hx
  · exact h x hx
  · exact k x hx
theorem Fits.set {l : List Tx.Ins} (h : Fits l) (k : Nat) {y : Tx.Ins} (hy : FitsI y) : Fits (l.set k y) := by
  rw [fits_iff] at *
  intro x hx
  rcases List.mem_or_eq_of_mem_set hx with hx | hx
  · exact h x hx
  · rw [hx]; exact hy
/-- Some code has been drawn, of at most m steps, and the cursor stands. -/
def DrewC (B : Nat) (w0 w : World) (c : Nat) (a : Option Addr) (len cap m : Nat) (e : Ending) (w' : World) : Prop :=
  ∃ x l, e = .returned x ∧ Got w.heap.size w' x l ∧ l.length ≤ m ∧ Fits l ∧ At B w0 w' c a len cap
theorem drewC_lit {B : Nat} {w0 w w1 : World} {c : Nat} {a : Option Addr} {len cap : Nat} (h : At B w0 w1 c a len cap) (hs : w.heap.size ≤ w1.heap.size) (l : List Tx.Ins) (hl : l.length ≤ 7) (hf : Fits l) (n cp : Nat) (t : TypeId) (cs : Array Value) (hn : n = l.length) (hcs : cs = (flat l).toArray) :
    DrewC B w0 w c a len cap 7 (.returned (.slice (some ⟨w1.heap.size, 0, none⟩) n cp)) (w1.alloc (.cells cs t)) :=
  ⟨_, l, rfl, by rw [hn]; exact got_lit w1 _ hs l cp t cs hcs, hl, hf, h.alloc _⟩
theorem DrewC.from {B : Nat} {w0 w w' : World} {c : Nat} {a : Option Addr} {len cap m : Nat} {e : Ending} (d : DrewC B w w c a len cap m e w') (h : At B w0 w c a len cap) : DrewC B w0 w c a len cap m e w' := by
  obtain ⟨x, l, h1, h2, h3, h4, h5⟩ := d
  exact ⟨x, l, h1, h2, h3, h4, h.step h5⟩

set_option maxRecDepth 100000 in
set_option maxHeartbeats 4000000 in
theorem drawPiece_cur (B c : Nat) (w : World) (a : Option Addr) (len cap : Nat) (fr : Int) (hf0 : 0 ≤ fr) (hf1 : fr ≤ 100) (h : Cur B w c a len cap) :
    Calls Try.prog 98 #[.pointer (some ⟨c, 0, none⟩), .int .i64 fr] w fun e w' => DrewC B w w c a len cap 7 e w' := by
  have H : Hid (Cur B w c a len cap) := h
  clear h
  go_enter Try.func98, Try.ntmps98
  go_wp2_with fail
  refine (below_at B c w _ a len cap _ (At.start H.out)).mono ?_
  rintro e w1 ⟨k, rfl, hk0, hk1, hk2, hk3, h1⟩
  have hk := hk2 (by omega)
  have H1 : Hid (At B w w1 c a len cap) := h1
  clear h1 hk2 hk3 H hk1
  go_wp2_with fail
  refine (drawWord_at B c w _ a len cap H1.out).mono ?_
  rintro e w2 ⟨n, rfl, hn0, hn1, h2⟩
  have H2 : Hid (At B w w2 c a len cap) := h2
  clear h2 H1
  go_wp2_with fail
  refine (below_at B c w _ a len cap _ H2.out).mono ?_
  rintro e w3 ⟨r, rfl, hr0, hr1, hr2, hr3, h3⟩
  have hr := hr2 (by omega)
  have H3 : Hid (At B w w3 c a len cap) := h3
  clear h3 hr1 hr2 hr3 H2
  have hcase : r = 0 ∨ r = 1 ∨ r = 2 ∨ r = 3 ∨ r = 4 ∨ r = 5 ∨ r = 6 ∨ r = 7 ∨ r = 8 ∨ r = 9 ∨ r = 10 ∨ r = 11 := by omega
  clear hr0 hr
  rcases hcase with rfl | rfl | rfl | rfl | rfl | rfl | rfl | rfl | rfl | rfl | rfl | rfl
  · go_wp2
    go_ret
    exact drewC_lit H3.out H3.out.1.size [(_, _, _), (_, _, _)] (by simp) (by simp only [Fits, FitsI, and_true]; omega) _ _ _ _ rfl rfl
  · go_wp2_with fail
    refine (drawWord_at B c w _ a len cap H3.out).mono ?_
    rintro e w4 ⟨x0, rfl, p00, p01, h4⟩
    have H4 : Hid (At B w w4 c a len cap) := h4
    clear h4 H3
    go_wp2_with fail
    refine (below_at B c w _ a len cap _ H4.out).mono ?_
    rintro e w5 ⟨x1, rfl, p10, _, q1, _, h5⟩
    have p11 := q1 (by omega)
    clear q1
    have H5 : Hid (At B w w5 c a len cap) := h5
    clear h5 H4
    go_wp2
    go_ret
    exact drewC_lit H5.out H5.out.1.size [(_, _, _), (_, _, _), (_, _, _), (_, _, _)] (by simp) (by simp only [Fits, FitsI, and_true]; omega) _ _ _ _ rfl rfl
  · go_wp2
    go_ret
    exact drewC_lit H3.out H3.out.1.size [(_, _, _), (_, _, _)] (by simp) (by simp only [Fits, FitsI, and_true]; omega) _ _ _ _ rfl rfl
  · go_wp2_with fail
    refine (below_at B c w _ a len cap _ H3.out).mono ?_
    rintro e w4 ⟨x0, rfl, p00, _, q0, _, h4⟩
    have p01 := q0 (by omega)
    clear q0
    have H4 : Hid (At B w w4 c a len cap) := h4
    clear h4 H3
    go_wp2_with fail
    refine (below_at B c w _ a len cap _ H4.out).mono ?_
    rintro e w5 ⟨x1, rfl, p10, _, q1, _, h5⟩
    have p11 := q1 (by omega)
    clear q1
    have H5 : Hid (At B w w5 c a len cap) := h5
    clear h5 H4
    go_wp2
    go_ret
    exact drewC_lit H5.out H5.out.1.size [(_, _, _), (_, _, _), (_, _, _), (_, _, _)] (by simp) (by simp only [Fits, FitsI, and_true]; omega) _ _ _ _ rfl rfl
  · go_wp2
    go_ret
    exact drewC_lit H3.out H3.out.1.size [(_, _, _), (_, _, _)] (by simp) (by simp only [Fits, FitsI, and_true]; omega) _ _ _ _ rfl rfl
  · go_wp2
    go_ret
    exact drewC_lit H3.out H3.out.1.size [(_, _, _), (_, _, _), (_, _, _), (_, _, _)] (by simp) (by simp only [Fits, FitsI, and_true]; omega) _ _ _ _ rfl rfl
  · go_wp2_with fail
    refine (below_at B c w _ a len cap _ H3.out).mono ?_
    rintro e w4 ⟨x0, rfl, p00, _, q0, _, h4⟩
    have p01 := q0 (by omega)
    clear q0
    have H4 : Hid (At B w w4 c a len cap) := h4
    clear h4 H3
    go_wp2
    go_ret
    exact drewC_lit H4.out H4.out.1.size [(_, _, _), (_, _, _), (_, _, _), (_, _, _)] (by simp) (by simp only [Fits, FitsI, and_true]; omega) _ _ _ _ rfl rfl
  · go_wp2
    go_ret
    exact drewC_lit H3.out H3.out.1.size [(_, _, _), (_, _, _)] (by simp) (by simp only [Fits, FitsI, and_true]; omega) _ _ _ _ rfl rfl
  · go_wp2
    go_ret
    exact drewC_lit H3.out H3.out.1.size [(_, _, _), (_, _, _), (_, _, _), (_, _, _), (_, _, _)] (by simp) (by simp only [Fits, FitsI, and_true]; omega) _ _ _ _ rfl rfl
  · go_wp2
    go_ret
    exact drewC_lit H3.out H3.out.1.size [(_, _, _), (_, _, _), (_, _, _)] (by simp) (by simp only [Fits, FitsI, and_true]; omega) _ _ _ _ rfl rfl
  · go_wp2
    go_ret
    exact drewC_lit H3.out H3.out.1.size [(_, _, _), (_, _, _), (_, _, _)] (by simp) (by simp only [Fits, FitsI, and_true]; omega) _ _ _ _ rfl rfl
  · go_wp2
    go_ret
    exact drewC_lit H3.out H3.out.1.size [(_, _, _), (_, _, _), (_, _, _), (_, _, _), (_, _, _), (_, _, _), (_, _, _)] (by simp) (by simp only [Fits, FitsI, and_true]; omega) _ _ _ _ rfl rfl
end Cu
end Go.Proofs.Ytffkkhaiedhaiaa

/- The contract of the draw of code that goes well. -/
namespace Go.Proofs.Ytffkkhaiedhaiaa
namespace Cu
open Go.ChangeShapes Go.WideShapes Go.ChangeAt Go.RowKit St

theorem At.low {B c : Nat} {u v w : World} {a : Option Addr} {len cap : Nat} (h : At B u v c a len cap) (hc : c < u.heap.size) (hb : Below u.heap.size v w) : At B u w c a len cap :=
  ⟨⟨hb.os.trans h.1.os, hb.tape.trans h.1.tape, hb.output.trans h.1.output, Nat.le_trans h.1.size hb.size, fun k hk hne => (hb.block k hk).trans (h.1.block k hk hne)⟩, h.2.later hb hc⟩
theorem At.size {B c : Nat} {u v : World} {a : Option Addr} {len cap : Nat} (h : At B u v c a len cap) : u.heap.size ≤ v.heap.size := h.1.size
theorem own_shape {w : World} {B n q : Nat} {e : TypeId} {v : Value} {xs : List Value} (h : w.ownsRow B e q v n xs) (hv : v ≠ .slice none 0 0) : ∃ g cap, v = .slice (some ⟨g, 0, none⟩) n cap ∧ B ≤ g := by
  obtain ⟨_, ⟨h, _⟩ | ⟨g, cap, cur, rfl, hB, _⟩⟩ := h
  · exact absurd h hv
  · exact ⟨g, cap, rfl, hB⟩
theorem lit_flat (w : World) (l : List Tx.Ins) (t : TypeId) (cs : Array Value) (hcs : cs = (flat l).toArray) : ∀ j u, (flat l)[j]? = some u → (w.alloc (.cells cs t)).cell? ((⟨w.heap.size, 0, none⟩ : Addr).add j) = some u := by
  subst hcs
  intro j u hu
  rw [Go.WideShapes.add_plain, Nat.zero_add]
  simp [go_sem, hu]

/-- Some code has been drawn, of at least two and at most m steps, in a row that is owned whole; and the cursor stands. -/
def DrewO (B : Nat) (w0 w : World) (c : Nat) (a : Option Addr) (len cap m : Nat) (e : Ending) (w' : World) : Prop :=
  ∃ x l, e = .returned x ∧ w'.ownsRow w.heap.size 76 3 x l.length (flat l) ∧ x ≠ .slice none 0 0 ∧ 2 ≤ l.length ∧ l.length ≤ m ∧ Fits l ∧ At B w0 w' c a len cap

set_option maxRecDepth 100000 in
set_option maxHeartbeats 4000000 in
theorem drawCode_own (B c : Nat) (w : World) (a : Option Addr) (len cap : Nat) (h : Cur B w c a len cap) :
    Calls Try.prog 66 #[.pointer (some ⟨c, 0, none⟩)] w fun e w' => DrewO B w w c a len cap 36 e w' := by
  obtain ⟨i0, hi, hz0, hz1, hz2⟩ := info_parts infoI
  have hcw : c < w.heap.size := h.2.1
  have H : Hid (Cur B w c a len cap) := h
  clear h
  go_enter Try.func66, Try.ntmps66
  go_wp2
  go_loopw [3, 4] (fun v i wr => ∃ (k : Nat) (v0 : Value) (lk : List Tx.Ins), 1 ≤ k ∧ k ≤ 4 ∧ i = .int .i64 k ∧ v0 = v ∧ Hid (lk.length + 2 = 2 * k) ∧ Hid (Fits lk) ∧ Hid (wr.ownsRow w.heap.size 76 3 v0 lk.length (flat lk)) ∧ Hid (v0 ≠ .slice none 0 0) ∧ Hid (At B w wr c a len cap)) (fun _ i _ => 4 - (intOf i).toNat)
  case atStart => exact ⟨1, _, [], by omega, by omega, rfl, rfl, rfl, trivial, World.ownsRow_made w #[] 0 (Nat.le_refl _) (by decide) (by simp), by show _ ≠ _; simp, (At.start H.out).alloc _⟩
  case round =>
    obtain ⟨k, v, lk, hk1, hk4, rfl, rfl, hlk, hfit, hown, hvn, hat⟩ := hrel
    by_cases hlt : k < 4
    · have hki : (k : Int) < 4 := by omega
      go_wp2_with fail
      refine (below_at B c _ _ a len cap _ (At.start hat.out.2)).mono ?_
      rintro e w2 ⟨r, rfl, hr0, _, hr2, _, h2⟩
      have hr := hr2 (by omega)
      have HO2 : Hid (w2.ownsRow w.heap.size 76 3 v lk.length (flat lk)) := own_touch hown.out h2.1 hcw
      have HA2 : Hid (At B w w2 c a len cap) := hat.out.step h2
      have hs2 : w.heap.size ≤ w2.heap.size := HA2.out.size
      clear h2 hr2 hown hat
      have hlk8 : lk.length ≤ 8 := by have := hlk.out; omega
      go_wp2_with (at_builtin; refine wpList_append_own _ rfl _ _ 24 rfl w.heap.size 76 i0 (.agg #[.int .i64 0, .int .i64 0, .int .i64 0]) 3 24 Try.underlying24 hi hz0 hz1 hz2 rfl (by decide) _ _ _ rfl (HO2.out.alloc _) ⟨w2.heap.size, 0, none⟩ 2 2 (flat [(1, _, 0), (3, _, 0)]) rfl rfl (lit_flat w2 [(1, _, 0), (3, _, 0)] _ _ rfl) (flat_one _) (by unfold maxLen; omega) (by omega) (by simp; omega) ?_)
      intro v' w3 hown' hgrow hnil
      have hb3 : Below w.heap.size w2 w3 := ((Below.refl _ _).alloc hs2 _).grown hgrow (by simp; omega) (fun g hg => (HO2.out.lt g hg).1)
      have HA3 : Hid (At B w w3 c a len cap) := HA2.out.low hcw hb3
      have HV : Hid (v' ≠ .slice none 0 0) := fun h => by first | exact hnil h | exact absurd (hnil.1 h).1 (by simp)
      have HW : Hid (w3.ownsRow w.heap.size 76 3 v' (lk.length + 2) (flat lk ++ flat [(1, 1 + r, 0), (3, (k : Int), 0)])) := by
        show World.ownsRow _ _ _ _ _ _ _
        first | exact hown' | simpa using hown'
      clear hown' hgrow hnil HO2 HA2 hb3
      go_wp2
      go_roundw
      case rel =>
        refine ⟨k + 1, v', lk ++ [(1, 1 + r, 0), (3, (k : Int), 0)], by omega, by omega, by go_num, rfl, ?_, hfit.out.append (by simp only [Fits, FitsI, and_true]; omega), ?_, HV.out, HA3.out⟩
        · show _ = _
          have := hlk.out
          simp only [List.length_append, List.length_cons, List.length_nil]
          omega
        · show w3.ownsRow _ _ _ _ _ _
          rw [flat_append, List.length_append]; exact HW.out
      case measure => simp [intOf]; omega
    · have hlk8 : Hid (lk.length ≤ 34) := by
        show _ ≤ _
        have := hlk.out
        omega
      clear hlk
      go_wp2_with fail
      refine (below_at B c _ _ a len cap _ (At.start hat.out.2)).mono ?_
      rintro e w2 ⟨r, rfl, hr0, _, hr2, _, h2⟩
      have hr := hr2 (by omega)
      have HO2 : Hid (w2.ownsRow w.heap.size 76 3 v lk.length (flat lk)) := own_touch hown.out h2.1 hcw
      have HA2 : Hid (At B w w2 c a len cap) := hat.out.step h2
      clear h2 hr2 hown hat
      go_wp2
      go_loopw [3, 5] (fun v i wr => ∃ (q : Int) (v0 : Value) (lk : List Tx.Ins), 0 ≤ q ∧ q ≤ 5 ∧ i = .int .i64 q ∧ v0 = v ∧ Hid (lk.length ≤ 34) ∧ Hid (Fits lk) ∧ Hid (wr.ownsRow w.heap.size 76 3 v0 lk.length (flat lk)) ∧ Hid (v0 ≠ .slice none 0 0) ∧ Hid (At B w wr c a len cap)) (fun _ i _ => (intOf i).toNat)
      case atStart => exact ⟨r, _, lk, hr0, by omega, rfl, rfl, hlk8.out, hfit.out, HO2.out, hvn.out, HA2.out⟩
      case round =>
        clear HO2 HA2 hvn hlk8 hr hr0 hk1 hk4 hlt hfit
        obtain ⟨q, v, lk, hq0, hq5, rfl, rfl, hlk, hfit, hown, hvn, hat⟩ := hrel
        obtain ⟨gv, cv, rfl, hBv⟩ := own_shape hown.out hvn.out
        have hlk34 : lk.length ≤ 34 := hlk.out
        clear hlk hvn
        by_cases hgo : 0 < q ∧ (lk.length : Int) < 28
        · obtain ⟨hq, hn⟩ := hgo
          go_wp2_with fail
          refine (drawPiece_cur B c _ a len cap _ (by omega) (by omega) hat.out.2).mono ?_
          rintro e w3 ⟨x, lp, rfl, ⟨g2, c2, rfl, hg1, hg2, hrow, hroom⟩, hlp, hfp, h3⟩
          have HFP : Hid (Fits (lk ++ lp)) := hfit.out.append hfp
          clear hfp
          have HO3 : Hid (w3.ownsRow w.heap.size 76 3 (.slice (some ⟨gv, 0, none⟩) lk.length cv) lk.length (flat lk)) := own_touch hown.out h3.1 hcw
          have HA3 : Hid (At B w w3 c a len cap) := hat.out.step h3
          have hs3 : w.heap.size ≤ w3.heap.size := HA3.out.size
          have HR3 : Hid (Row w3 g2 0 lp) := hrow
          clear h3 hown hat hrow hroom hg1 hg2
          go_wp2_with (at_builtin; refine wpList_append_own _ rfl _ _ 24 rfl w.heap.size 76 i0 (.agg #[.int .i64 0, .int .i64 0, .int .i64 0]) 3 24 Try.underlying24 hi hz0 hz1 hz2 rfl (by decide) _ _ _ rfl HO3.out ⟨g2, 0, none⟩ lp.length c2 (flat lp) rfl (flat_len lp) HR3.out.flat (flat_one _) (by unfold maxLen; omega) (by omega) hs3 ?_)
          intro v' w4 hown' hgrow hnil
          have hb4 : Below w.heap.size w3 w4 := (Below.refl _ _).grown hgrow hs3 (fun g hg => (HO3.out.lt g hg).1)
          have HA4 : Hid (At B w w4 c a len cap) := HA3.out.low hcw hb4
          have HV : Hid (v' ≠ .slice none 0 0) := fun h => by first | exact hnil h | exact absurd (hnil.1 h).1 (by simp)
          have HW : Hid (w4.ownsRow w.heap.size 76 3 v' (lk.length + lp.length) (flat lk ++ flat lp)) := hown'
          clear hown' hgrow hnil HO3 HA3 hb4 HR3
          go_wp2
          go_roundw
          case rel =>
            refine ⟨q - 1, v', lk ++ lp, by omega, by omega, by go_num, rfl, ?_, HFP.out, ?_, HV.out, HA4.out⟩
            · show _ ≤ _
              rw [List.length_append]
              omega
            · show w4.ownsRow _ _ _ _ _ _
              rw [flat_append, List.length_append]; exact HW.out
          case measure => simp [intOf]; omega
        · by_cases hq : 0 < q
          · have hn : ¬ (lk.length : Int) < 28 := fun h => hgo ⟨hq, h⟩
            clear hgo
            go_wp2_with fail
            refine (below_at B c _ _ a len cap _ (At.start hat.out.2)).mono ?_
            rintro e w3 ⟨r, rfl, hr0, _, hr2, _, h3⟩
            have hr := hr2 (by omega)
            have HO3 : Hid (w3.ownsRow w.heap.size 76 3 (.slice (some ⟨gv, 0, none⟩) lk.length cv) lk.length (flat lk)) := own_touch hown.out h3.1 hcw
            have HA3 : Hid (At B w w3 c a len cap) := hat.out.step h3
            have hs3 : w.heap.size ≤ w3.heap.size := HA3.out.size
            clear h3 hr2 hown hat
            go_wp2_with (at_builtin; refine wpList_append_own _ rfl _ _ 24 rfl w.heap.size 76 i0 (.agg #[.int .i64 0, .int .i64 0, .int .i64 0]) 3 24 Try.underlying24 hi hz0 hz1 hz2 rfl (by decide) _ _ _ rfl (HO3.out.alloc _) ⟨w3.heap.size, 0, none⟩ 2 2 (flat [(2, _, 0), (20, 0, 0)]) rfl rfl (lit_flat w3 [(2, _, 0), (20, 0, 0)] _ _ rfl) (flat_one _) (by unfold maxLen; omega) (by omega) (by simp; omega) ?_)
            intro v' w4 hown' hgrow hnil
            have hb4 : Below w.heap.size w3 w4 := ((Below.refl _ _).alloc hs3 _).grown hgrow (by simp; omega) (fun g hg => (HO3.out.lt g hg).1)
            have HA4 : Hid (At B w w4 c a len cap) := HA3.out.low hcw hb4
            have HV : Hid (v' ≠ .slice none 0 0) := fun h => by first | exact hnil h | exact absurd (hnil.1 h).1 (by simp)
            have HW := hown'
            rw [← flat_append] at HW
            go_wp2
            go_ret
            exact ⟨_, _, rfl, by rw [List.length_append]; exact HW, HV.out, by simp, by simp; omega, hfit.out.append (by simp only [Fits, FitsI, and_true]; omega), HA4.out⟩
          · clear hgo
            go_wp2_with fail
            refine (below_at B c _ _ a len cap _ (At.start hat.out.2)).mono ?_
            rintro e w3 ⟨r, rfl, hr0, _, hr2, _, h3⟩
            have hr := hr2 (by omega)
            have HO3 : Hid (w3.ownsRow w.heap.size 76 3 (.slice (some ⟨gv, 0, none⟩) lk.length cv) lk.length (flat lk)) := own_touch hown.out h3.1 hcw
            have HA3 : Hid (At B w w3 c a len cap) := hat.out.step h3
            have hs3 : w.heap.size ≤ w3.heap.size := HA3.out.size
            clear h3 hr2 hown hat
            go_wp2_with (at_builtin; refine wpList_append_own _ rfl _ _ 24 rfl w.heap.size 76 i0 (.agg #[.int .i64 0, .int .i64 0, .int .i64 0]) 3 24 Try.underlying24 hi hz0 hz1 hz2 rfl (by decide) _ _ _ rfl (HO3.out.alloc _) ⟨w3.heap.size, 0, none⟩ 2 2 (flat [(2, _, 0), (20, 0, 0)]) rfl rfl (lit_flat w3 [(2, _, 0), (20, 0, 0)] _ _ rfl) (flat_one _) (by unfold maxLen; omega) (by omega) (by simp; omega) ?_)
            intro v' w4 hown' hgrow hnil
            have hb4 : Below w.heap.size w3 w4 := ((Below.refl _ _).alloc hs3 _).grown hgrow (by simp; omega) (fun g hg => (HO3.out.lt g hg).1)
            have HA4 : Hid (At B w w4 c a len cap) := HA3.out.low hcw hb4
            have HV : Hid (v' ≠ .slice none 0 0) := fun h => by first | exact hnil h | exact absurd (hnil.1 h).1 (by simp)
            have HW := hown'
            rw [← flat_append] at HW
            go_wp2
            go_ret
            exact ⟨_, _, rfl, by rw [List.length_append]; exact HW, HV.out, by simp, by simp; omega, hfit.out.append (by simp only [Fits, FitsI, and_true]; omega), HA4.out⟩
theorem drawCode_cur (B c : Nat) (w : World) (a : Option Addr) (len cap : Nat) (h : Cur B w c a len cap) :
    Calls Try.prog 66 #[.pointer (some ⟨c, 0, none⟩)] w fun e w' => DrewC B w w c a len cap 36 e w' :=
  (drawCode_own B c w a len cap h).mono fun _ _ ⟨x, l, he, ho, hx, _, h2, hf, hat⟩ => ⟨x, l, he, got_of ho hx, h2, hf, hat⟩
end Cu
end Go.Proofs.Ytffkkhaiedhaiaa
