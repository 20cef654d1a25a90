/- The contract of the draw of any step. -/
import Derived.Test.YtbgbddahniacbaaGreatDoorJDr1
import Derived.Test.YtbgbddahniacbaaGreatDoorJBox0
import Derived.Deep.RegionWith
import Derived.Lib.QuietBelow
namespace Go.Proofs.YtbgbddahniacbaaGreatDoor
namespace Cu
open Go.ChangeShapes Go.WideShapes Go.ChangeAt Go.RowKit St

theorem Box.set0 {w : World} {k : Nat} {x y z : Value} (h : Box w k x y z) (x' : Value) : Box (w.setCell ⟨k, 0, none⟩ x') k x' y z := by
  obtain ⟨c0, c1, c2, f0, f1, f2⟩ := h
  have n01 : (⟨k, 0, none⟩ : Addr) ≠ ⟨k, 1, none⟩ := by simp
  have n02 : (⟨k, 0, none⟩ : Addr) ≠ ⟨k, 2, none⟩ := by simp
  exact ⟨World.cell?_setCell_same _ _ _ c0, (World.cell?_setCell_other _ _ _ _ n01).trans c1, (World.cell?_setCell_other _ _ _ _ n02).trans c2, by simpa using f0, by simpa using f1, by simpa using f2⟩

theorem row0 {w w2 : World} {c : Nat} {t : TypeId} (r : Int) (h0 : 0 ≤ r) (h1 : r < 4) (hc : c < w.heap.size) (ht : Touch c (w.alloc (.cells #[.int .i64 0, .int .i64 21, .int .i64 (-1), .int .i64 20] t)) w2) :
    ∃ v : Int, w2.cell? ⟨w.heap.size, r.toNat, none⟩ = some (.int .i64 v) ∧ -9223372036854775808 ≤ v ∧ v ≤ 9223372036854775807 := by
  obtain ⟨k, rfl⟩ := Int.eq_ofNat_of_zero_le h0
  rw [Int.toNat_natCast, ht.cell (p := ⟨w.heap.size, k, none⟩) (by simp) (by simp; omega)]
  have hk : k = 0 ∨ k = 1 ∨ k = 2 ∨ k = 3 := by omega
  rcases hk with rfl | rfl | rfl | rfl
  all_goals exact ⟨_, by simp [go_sem]; rfl, by omega, by omega⟩

theorem row1 {w w2 : World} {c : Nat} {t : TypeId} (r : Int) (h0 : 0 ≤ r) (h1 : r < 8) (hc : c < w.heap.size) (ht : Touch c (w.alloc (.cells #[.int .i64 (-1), .int .i64 5, .int .i64 6, .int .i64 7, .int .i64 8, .int .i64 39, .int .i64 40, .int .i64 2147483648] t)) w2) :
    ∃ v : Int, w2.cell? ⟨w.heap.size, r.toNat, none⟩ = some (.int .i64 v) ∧ -9223372036854775808 ≤ v ∧ v ≤ 9223372036854775807 := by
  obtain ⟨k, rfl⟩ := Int.eq_ofNat_of_zero_le h0
  rw [Int.toNat_natCast, ht.cell (p := ⟨w.heap.size, k, none⟩) (by simp) (by simp; omega)]
  have hk : k = 0 ∨ k = 1 ∨ k = 2 ∨ k = 3 ∨ k = 4 ∨ k = 5 ∨ k = 6 ∨ k = 7 := by omega
  rcases hk with rfl | rfl | rfl | rfl | rfl | rfl | rfl | rfl
  all_goals exact ⟨_, by simp [go_sem]; rfl, by omega, by omega⟩

theorem row2 {w w2 : World} {c : Nat} {t : TypeId} (r : Int) (h0 : 0 ≤ r) (h1 : r < 6) (hc : c < w.heap.size) (ht : Touch c (w.alloc (.cells #[.int .i64 (-1), .int .i64 1, .int .i64 3, .int .i64 4, .int .i64 19, .int .i64 20] t)) w2) :
    ∃ v : Int, w2.cell? ⟨w.heap.size, r.toNat, none⟩ = some (.int .i64 v) ∧ -9223372036854775808 ≤ v ∧ v ≤ 9223372036854775807 := by
  obtain ⟨k, rfl⟩ := Int.eq_ofNat_of_zero_le h0
  rw [Int.toNat_natCast, ht.cell (p := ⟨w.heap.size, k, none⟩) (by simp) (by simp; omega)]
  have hk : k = 0 ∨ k = 1 ∨ k = 2 ∨ k = 3 ∨ k = 4 ∨ k = 5 := by omega
  rcases hk with rfl | rfl | rfl | rfl | rfl | rfl
  all_goals exact ⟨_, by simp [go_sem]; rfl, by omega, by omega⟩

set_option maxHeartbeats 2000000 in
theorem drawAnyI_at (B c : Nat) (w0 w : World) (a : Option Addr) (len cap : Nat) (h : At B w0 w c a len cap) :
    Calls Tryz.prog 66 #[.pointer (some ⟨c, 0, none⟩)] w fun e w' => DrewIns B w0 c a len cap e w' := by
  have H : Hid (At B w0 w c a len cap) := h
  have hcw : c < w.heap.size := h.2.2.1
  have hBc : B ≤ c := h.2.1
  have hw0 : w0.heap.size ≤ w.heap.size := h.1.size
  clear h
  go_enter Tryz.func66, Tryz.ntmps66
  go_wp2_with fail
  refine (drawInsn_at B c _ _ a len cap 9 (At.start (H.out.2.alloc _))).mono ?_
  rintro e w1 ⟨op, x, y, rfl, bo, bx, by', h1⟩
  have T1 : Hid (Touch c w0 w1) := (H.out.1.alloc _).trans h1.1
  have BY1 : Hid (Box w1 w.heap.size (.int .i64 0) (.int .i64 0) (.int .i64 0)) := Box.touch (Box.new w _ _ _ _) h1.1 (by omega)
  have hw1 : w.heap.size < w1.heap.size := by have := h1.1.size; simp at this; omega
  have H1 : Hid (Cur B w1 c a len cap) := h1.2
  clear h1
  go_wp2_with fail
  refine (once_at B c _ _ a len cap _ (At.start (H1.out.alloc _))).mono ?_
  rintro e w2 ⟨q, rfl, h2⟩
  have T2 : Hid (Touch c w0 w2) := (T1.out.alloc _).trans h2.1
  have BX2 : Hid (Box w2 w1.heap.size (.int .i64 op) (.int .i64 x) (.int .i64 y)) := Box.touch (Box.new w1 _ _ _ _) h2.1 (by omega)
  have BY2 : Hid (Box w2 w.heap.size (.int .i64 0) (.int .i64 0) (.int .i64 0)) := Box.touch (Box.on BY1.out ((Below.refl _ _).alloc (Nat.le_refl _) _)) h2.1 (by omega)
  have H2 : Hid (Cur B w2 c a len cap) := h2.2
  have hw2 : w1.heap.size < w2.heap.size := by have := h2.1.size; simp at this; omega
  clear h2 BY1
  cases q
  · obtain ⟨i0, i1, i2, _, _, _⟩ := BX2.out
    obtain ⟨d0, d1, d2, g0, g1, g2⟩ := BY2.out
    obtain ⟨e0, e1, e2, _, _, _⟩ := (Box.mk d0 d1 d2 g0 g1 g2).set (.int .i64 op) (.int .i64 x) (.int .i64 y)
    go_wp2
    refine bodyPost_ret (v := .agg #[.int .i64 op, .int .i64 x, .int .i64 y]) (by simp [results, Tryz.results66, go_sem, e0, e1, e2]) rfl ?_
    exact ⟨op, x, y, rfl, bo, bx, by', ((T2.out.setNew (p := ⟨w.heap.size, 0, none⟩) hw0 _).setNew (p := ⟨w.heap.size, 1, none⟩) hw0 _).setNew (p := ⟨w.heap.size, 2, none⟩) hw0 _, ((H2.out.setFar (p := ⟨w.heap.size, 0, none⟩) (by simp; omega) (by simp; omega) _).setFar (p := ⟨w.heap.size, 1, none⟩) (by simp; omega) (by simp; omega) _).setFar (p := ⟨w.heap.size, 2, none⟩) (by simp; omega) (by simp; omega) _⟩
  · go_wp2_with fail
    refine (below_at B c _ _ a len cap _ (At.start H2.out)).mono ?_
    rintro e w3 ⟨r, rfl, hr0, hr1, hr2, hr3, h3⟩
    have hr := hr2 (by omega)
    clear hr1 hr2 hr3
    have T3 : Hid (Touch c w0 w3) := T2.out.trans h3.1
    have BX3 : Hid (Box w3 w1.heap.size (.int .i64 op) (.int .i64 x) (.int .i64 y)) := Box.touch BX2.out h3.1 (by omega)
    have BY3 : Hid (Box w3 w.heap.size (.int .i64 0) (.int .i64 0) (.int .i64 0)) := Box.touch BY2.out h3.1 (by omega)
    have H3 : Hid (Cur B w3 c a len cap) := h3.2
    have hw3 : w2.heap.size ≤ w3.heap.size := h3.1.size
    clear h3 BX2 BY2
    have hcase : r = 0 ∨ r = 1 ∨ r = 2 := by omega
    rcases hcase with rfl | rfl | rfl
    · go_wp2_with fail
      refine (below_at B c _ _ a len cap _ (At.start (H3.out.alloc _))).mono ?_
      rintro e w5 ⟨u, rfl, hu0, hu1, hu2, hu3, h5⟩
      have hu := hu2 (by omega)
      clear hu1 hu2 hu3
      obtain ⟨v, hv, hv0, hv1⟩ := row0 u hu0 hu H3.out.2.1 h5.1
      have T5 : Hid (Touch c w0 w5) := (T3.out.alloc _).trans h5.1
      have BX5 := Box.touch (Box.on BX3.out ((Below.refl _ _).alloc (Nat.le_refl _) _)) h5.1 (by omega)
      have BY5 := Box.touch (Box.on BY3.out ((Below.refl _ _).alloc (Nat.le_refl _) _)) h5.1 (by omega)
      have H5 : Hid (Cur B w5 c a len cap) := h5.2
      clear h5
      obtain ⟨c0, c1, c2, f0, f1, f2⟩ := BX5
      have BX6 := Box.set0 (Box.mk c0 c1 c2 f0 f1 f2) (.int .i64 v)
      have BY6 := BY5.far ⟨w1.heap.size, 0, none⟩ (.int .i64 v) (by simp; omega)
      have T6 : Hid (Touch c w0 (w5.setCell ⟨w1.heap.size, 0, none⟩ (.int .i64 v))) := T5.out.setNew (by simp; omega) _
      have H6 : Hid (Cur B (w5.setCell ⟨w1.heap.size, 0, none⟩ (.int .i64 v)) c a len cap) := H5.out.setFar (by simp; omega) (by simp; omega) _
      obtain ⟨i0, i1, i2, _, _, _⟩ := BX6
      obtain ⟨d0, d1, d2, g0, g1, g2⟩ := BY6
      obtain ⟨e0, e1, e2, _, _, _⟩ := (Box.mk d0 d1 d2 g0 g1 g2).set (.int .i64 v) (.int .i64 x) (.int .i64 y)
      go_wp2
      refine bodyPost_ret (v := .agg #[.int .i64 v, .int .i64 x, .int .i64 y]) (by simp [results, Tryz.results66, go_sem, e0, e1, e2]) rfl ?_
      exact ⟨v, x, y, rfl, ⟨hv0, hv1⟩, bx, by', ((T6.out.setNew (p := ⟨w.heap.size, 0, none⟩) hw0 _).setNew (p := ⟨w.heap.size, 1, none⟩) hw0 _).setNew (p := ⟨w.heap.size, 2, none⟩) hw0 _, ((H6.out.setFar (p := ⟨w.heap.size, 0, none⟩) (by simp; omega) (by simp; omega) _).setFar (p := ⟨w.heap.size, 1, none⟩) (by simp; omega) (by simp; omega) _).setFar (p := ⟨w.heap.size, 2, none⟩) (by simp; omega) (by simp; omega) _⟩
    · go_wp2_with fail
      refine (below_at B c _ _ a len cap _ (At.start (H3.out.alloc _))).mono ?_
      rintro e w5 ⟨u, rfl, hu0, hu1, hu2, hu3, h5⟩
      have hu := hu2 (by omega)
      clear hu1 hu2 hu3
      obtain ⟨v, hv, hv0, hv1⟩ := row1 u hu0 hu H3.out.2.1 h5.1
      have T5 : Hid (Touch c w0 w5) := (T3.out.alloc _).trans h5.1
      have BX5 := Box.touch (Box.on BX3.out ((Below.refl _ _).alloc (Nat.le_refl _) _)) h5.1 (by omega)
      have BY5 := Box.touch (Box.on BY3.out ((Below.refl _ _).alloc (Nat.le_refl _) _)) h5.1 (by omega)
      have H5 : Hid (Cur B w5 c a len cap) := h5.2
      clear h5
      obtain ⟨c0, c1, c2, f0, f1, f2⟩ := BX5
      have BX6 := Box.set1 (Box.mk c0 c1 c2 f0 f1 f2) (.int .i64 v)
      have BY6 := BY5.far ⟨w1.heap.size, 1, none⟩ (.int .i64 v) (by simp; omega)
      have T6 : Hid (Touch c w0 (w5.setCell ⟨w1.heap.size, 1, none⟩ (.int .i64 v))) := T5.out.setNew (by simp; omega) _
      have H6 : Hid (Cur B (w5.setCell ⟨w1.heap.size, 1, none⟩ (.int .i64 v)) c a len cap) := H5.out.setFar (by simp; omega) (by simp; omega) _
      obtain ⟨i0, i1, i2, _, _, _⟩ := BX6
      obtain ⟨d0, d1, d2, g0, g1, g2⟩ := BY6
      obtain ⟨e0, e1, e2, _, _, _⟩ := (Box.mk d0 d1 d2 g0 g1 g2).set (.int .i64 op) (.int .i64 v) (.int .i64 y)
      go_wp2
      refine bodyPost_ret (v := .agg #[.int .i64 op, .int .i64 v, .int .i64 y]) (by simp [results, Tryz.results66, go_sem, e0, e1, e2]) rfl ?_
      exact ⟨op, v, y, rfl, bo, ⟨hv0, hv1⟩, by', ((T6.out.setNew (p := ⟨w.heap.size, 0, none⟩) hw0 _).setNew (p := ⟨w.heap.size, 1, none⟩) hw0 _).setNew (p := ⟨w.heap.size, 2, none⟩) hw0 _, ((H6.out.setFar (p := ⟨w.heap.size, 0, none⟩) (by simp; omega) (by simp; omega) _).setFar (p := ⟨w.heap.size, 1, none⟩) (by simp; omega) (by simp; omega) _).setFar (p := ⟨w.heap.size, 2, none⟩) (by simp; omega) (by simp; omega) _⟩
    · go_wp2_with fail
      refine (below_at B c _ _ a len cap _ (At.start (H3.out.alloc _))).mono ?_
      rintro e w5 ⟨u, rfl, hu0, hu1, hu2, hu3, h5⟩
      have hu := hu2 (by omega)
      clear hu1 hu2 hu3
      obtain ⟨v, hv, hv0, hv1⟩ := row2 u hu0 hu H3.out.2.1 h5.1
      have T5 : Hid (Touch c w0 w5) := (T3.out.alloc _).trans h5.1
      have BX5 := Box.touch (Box.on BX3.out ((Below.refl _ _).alloc (Nat.le_refl _) _)) h5.1 (by omega)
      have BY5 := Box.touch (Box.on BY3.out ((Below.refl _ _).alloc (Nat.le_refl _) _)) h5.1 (by omega)
      have H5 : Hid (Cur B w5 c a len cap) := h5.2
      clear h5
      obtain ⟨c0, c1, c2, f0, f1, f2⟩ := BX5
      have BX6 := Box.set2 (Box.mk c0 c1 c2 f0 f1 f2) (.int .i64 v)
      have BY6 := BY5.far ⟨w1.heap.size, 2, none⟩ (.int .i64 v) (by simp; omega)
      have T6 : Hid (Touch c w0 (w5.setCell ⟨w1.heap.size, 2, none⟩ (.int .i64 v))) := T5.out.setNew (by simp; omega) _
      have H6 : Hid (Cur B (w5.setCell ⟨w1.heap.size, 2, none⟩ (.int .i64 v)) c a len cap) := H5.out.setFar (by simp; omega) (by simp; omega) _
      obtain ⟨i0, i1, i2, _, _, _⟩ := BX6
      obtain ⟨d0, d1, d2, g0, g1, g2⟩ := BY6
      obtain ⟨e0, e1, e2, _, _, _⟩ := (Box.mk d0 d1 d2 g0 g1 g2).set (.int .i64 op) (.int .i64 x) (.int .i64 v)
      go_wp2
      refine bodyPost_ret (v := .agg #[.int .i64 op, .int .i64 x, .int .i64 v]) (by simp [results, Tryz.results66, go_sem, e0, e1, e2]) rfl ?_
      exact ⟨op, x, v, rfl, bo, bx, ⟨hv0, hv1⟩, ((T6.out.setNew (p := ⟨w.heap.size, 0, none⟩) hw0 _).setNew (p := ⟨w.heap.size, 1, none⟩) hw0 _).setNew (p := ⟨w.heap.size, 2, none⟩) hw0 _, ((H6.out.setFar (p := ⟨w.heap.size, 0, none⟩) (by simp; omega) (by simp; omega) _).setFar (p := ⟨w.heap.size, 1, none⟩) (by simp; omega) (by simp; omega) _).setFar (p := ⟨w.heap.size, 2, none⟩) (by simp; omega) (by simp; omega) _⟩
end Cu
end Go.Proofs.YtbgbddahniacbaaGreatDoor

/- Contracts of the laws' own functions on rows of steps. -/
namespace Go.Proofs.YtbgbddahniacbaaGreatDoor
namespace St
open Go.ChangeShapes Go.WideShapes Go.ChangeAt Go.RowKit

theorem infoI : (Tryz.prog.info? 73).map (fun i => (i.zero, i.size, i.bytes)) = some (some (.agg #[.int .i64 0, .int .i64 0, .int .i64 0]), 3, 24) := by kernel_rfl

/-- The first n cells of block g are there and may be written. -/
def Room (w : World) (g n : Nat) : Prop := ∀ i, i < n → (∃ v, w.cell? ⟨g, i, none⟩ = some v) ∧ w.frozen? ⟨g, i, none⟩ = false
theorem Room.on {u v : World} {g n : Nat} (h : Room u g n) (hb : Below u.heap.size u v) : Room v g n := by
  intro i hi
  obtain ⟨⟨x, hx⟩, hf⟩ := h i hi
  have l : g < u.heap.size := cell_lt hx
  exact ⟨⟨x, (hb.cell l).trans hx⟩, (hb.frozen l).trans hf⟩
theorem Room.set {w : World} {g n : Nat} (h : Room w g n) (p : Addr) (v : Value) : Room (w.setCell p v) g n := by
  intro i hi
  obtain ⟨⟨x, hx⟩, hf⟩ := h i hi
  refine ⟨?_, by simpa using hf⟩
  by_cases e : p = ⟨g, i, none⟩
  · subst e; exact ⟨v, World.cell?_setCell_same _ _ _ hx⟩
  · exact ⟨x, (World.cell?_setCell_other _ _ _ _ e).trans hx⟩
theorem room_own {w : World} {B e n g cap q : Nat} {xs : List Value} (h : w.ownsRow B e q (.slice (some ⟨g, 0, none⟩) n cap) n xs) (hn : n ≤ cap) : Room w g (n * q) := by
  intro i hi
  obtain ⟨_, h | ⟨g', cap', cur, hv, _, hblk, _, _, hsz, _⟩⟩ := h
  · simp at h
  · injection hv with h1 h2 h3
    simp at h1
    subst h1 h3
    have hc : i < cur.size := by rw [hsz]; exact Nat.lt_of_lt_of_le hi (Nat.mul_le_mul_right _ hn)
    refine ⟨⟨cur[i], ?_⟩, ?_⟩
    · simp [World.cell?, hblk, hc]
    · simp [World.frozen?, hblk]

theorem row_made_lt {w : World} {B e n g cap q : Nat} {xs : List Value} (h : w.ownsRow B e q (.slice (some ⟨g, 0, none⟩) n cap) n xs) : g < w.heap.size := by
  obtain ⟨_, h | ⟨g', cap', cur, hv, _, hblk, _⟩⟩ := h
  · simp at h
  · injection hv with h1 h2 h3
    simp at h1
    subst h1
    rcases Nat.lt_or_ge g w.heap.size with h | h
    · exact h
    · rw [Array.getElem?_eq_none h] at hblk
      simp at hblk

/-- Three cells written: what the row then holds. -/
theorem row_next {w : World} {g k : Nat} {l : List Tx.Ins} (hk : k < l.length) (hroom : Room w g (l.length * 3)) (hr : Row w g 0 (l.take k)) :
    Row (((w.setCell ⟨g, k * 3, none⟩ (.int .i64 l[k].1)).setCell ⟨g, k * 3 + 1, none⟩ (.int .i64 l[k].2.1)).setCell ⟨g, k * 3 + 2, none⟩ (.int .i64 l[k].2.2)) g 0 (l.take (k + 1)) := by
  have ne : ∀ a b : Nat, a ≠ b → (⟨g, a, none⟩ : Addr) ≠ ⟨g, b, none⟩ := fun a b h e => h (congrArg Addr.off e)
  have far : ∀ i, i < k * 3 → ∀ u, w.cell? ⟨g, i, none⟩ = some u → (((w.setCell ⟨g, k * 3, none⟩ (.int .i64 l[k].1)).setCell ⟨g, k * 3 + 1, none⟩ (.int .i64 l[k].2.1)).setCell ⟨g, k * 3 + 2, none⟩ (.int .i64 l[k].2.2)).cell? ⟨g, i, none⟩ = some u := by
    intro i hi u hu
    rw [World.cell?_setCell_other _ _ _ _ (ne _ _ (by omega)), World.cell?_setCell_other _ _ _ _ (ne _ _ (by omega)), World.cell?_setCell_other _ _ _ _ (ne _ _ (by omega))]
    exact hu
  obtain ⟨⟨x0, h0⟩, _⟩ := hroom (k * 3) (by omega)
  obtain ⟨⟨x1, h1⟩, _⟩ := hroom (k * 3 + 1) (by omega)
  obtain ⟨⟨x2, h2⟩, _⟩ := hroom (k * 3 + 2) (by omega)
  intro j x hj
  rw [List.getElem?_take] at hj
  split at hj
  · rename_i hjk
    by_cases e : j = k
    · subst e
      rw [List.getElem?_eq_getElem hk] at hj
      injection hj with hj
      subst hj
      rw [Nat.zero_add]
      refine ⟨?_, ?_, ?_⟩
      · rw [World.cell?_setCell_other _ _ _ _ (ne _ _ (by omega)), World.cell?_setCell_other _ _ _ _ (ne _ _ (by omega))]
        exact World.cell?_setCell_same _ _ _ h0
      · rw [World.cell?_setCell_other _ _ _ _ (ne _ _ (by omega))]
        exact World.cell?_setCell_same _ _ _ ((World.cell?_setCell_other _ _ _ _ (ne _ _ (by omega))).trans h1)
      · exact World.cell?_setCell_same _ _ _ ((World.cell?_setCell_other _ _ _ _ (ne _ _ (by omega))).trans ((World.cell?_setCell_other _ _ _ _ (ne _ _ (by omega))).trans h2))
    · have hjt : (l.take k)[j]? = some x := by rw [List.getElem?_take, if_pos (by omega)]; exact hj
      obtain ⟨a0, a1, a2⟩ := hr j x hjt
      rw [Nat.zero_add] at a0 a1 a2 ⊢
      exact ⟨far _ (by omega) _ a0, far _ (by omega) _ a1, far _ (by omega) _ a2⟩
  · simp at hj

end St
end Go.Proofs.YtbgbddahniacbaaGreatDoor
