/- The contracts of the draws of a step and of a text. -/
import Derived.Test.YtoeahpoibnddfaaDoorDr2
import Derived.Test.YtoeahpoibnddfaaDoorBend1
namespace Go.Proofs.YtoeahpoibnddfaaDoor
namespace Cu
open Go.ChangeShapes Go.WideShapes Go.ChangeAt Go.RowKit St

theorem below_two {B : Nat} {u v w : World} {c : Nat} {a : Option Addr} {len cap : Nat} (hb : Below u.heap.size u v) (hc : u.heap.size ≤ c) (h : At B v w c a len cap) : Below u.heap.size u w := h.below hb hc

set_option maxHeartbeats 800000 in
theorem drawInsnOk_at (B : Nat) (w : World) (a : Option Addr) (len cap : Nat) (hB : Bytes B w a len) (hs : B ≤ w.heap.size) :
    Calls Tryd.prog 13 #[.slice a len cap] w fun e w' => ∃ op x y : Int, e = .returned (.agg #[.int .i64 op, .int .i64 x, .int .i64 y]) ∧ (-9223372036854775808 ≤ x ∧ x ≤ 9223372036854775807) ∧ (-9223372036854775808 ≤ y ∧ y ≤ 9223372036854775807) ∧ Below w.heap.size w w' := by
  have HB : Hid (Bytes B w a len) := hB
  clear hB
  go_enter Tryd.func13, Tryd.ntmps13
  go_wp2_with fail
  refine (new_at B _ a len cap (HB.out.below ((Below.refl _ _).alloc hs _)) (by simp; omega)).mono ?_
  rintro e w1 ⟨c, rfl, hc, hb, h1⟩
  have hcw : w.heap.size < c := by simp at hc; omega
  have BY1 : Hid (Box w1 w.heap.size (.int .i64 0) (.int .i64 0) (.int .i64 0)) := (Box.new w _ _ _ _).on hb
  have hb1 : Below w.heap.size w w1 := below_over ((Below.refl _ _).alloc (Nat.le_refl _) _) hb
  have H1 : Hid (Cur B w1 c a len cap) := h1
  clear h1 hb hc
  go_wp2_with fail
  refine (drawAnyI_at B c _ _ a len cap (At.start H1.out)).mono ?_
  rintro e w2 ⟨op, x, y, rfl, _, bx, by', h2⟩
  obtain ⟨d0, d1, d2, g0, g1, g2⟩ := Box.touch BY1.out h2.1 (by omega)
  have hb2 : Below w.heap.size w w2 := h2.below hb1 (by omega)
  obtain ⟨e0, e1, e2, _, _, _⟩ := (Box.mk d0 d1 d2 g0 g1 g2).set (.int .i64 op) (.int .i64 x) (.int .i64 y)
  clear h2
  go_wp2
  refine bodyPost_ret (v := .agg #[.int .i64 op, .int .i64 x, .int .i64 y]) (by simp [results, Tryd.results13, go_sem, e0, e1, e2]) rfl ?_
  exact ⟨op, x, y, rfl, bx, by', by go_grown⟩

set_option maxHeartbeats 800000 in
theorem drawShow_at (B : Nat) (w : World) (a : Option Addr) (len cap : Nat) (hB : Bytes B w a len) (hs : B ≤ w.heap.size) :
    Calls Tryd.prog 5 #[.slice a len cap] w fun e w' => ∃ op x y : Int, e = .returned (.agg #[.int .i64 op, .int .i64 x, .int .i64 y]) ∧ (-9223372036854775808 ≤ x ∧ x ≤ 9223372036854775807) ∧ (-9223372036854775808 ≤ y ∧ y ≤ 9223372036854775807) ∧ Below w.heap.size w w' := by
  have HB : Hid (Bytes B w a len) := hB
  clear hB
  go_enter Tryd.func5, Tryd.ntmps5
  go_wp2_with fail
  refine (drawInsnOk_at B _ a len cap (HB.out.below ((Below.refl _ _).alloc hs _)) (by simp; omega)).mono ?_
  rintro e w1 ⟨op, x, y, rfl, bx, by', hb⟩
  have hb1 : Below w.heap.size w w1 := below_over ((Below.refl _ _).alloc (Nat.le_refl _) _) hb
  obtain ⟨d0, d1, d2, g0, g1, g2⟩ := (Box.new w (.int .i64 0) (.int .i64 0) (.int .i64 0) 25).on hb
  obtain ⟨e0, e1, e2, _, _, _⟩ := (Box.mk d0 d1 d2 g0 g1 g2).set (.int .i64 op) (.int .i64 x) (.int .i64 y)
  clear hb
  go_wp2
  refine bodyPost_ret (v := .agg #[.int .i64 op, .int .i64 x, .int .i64 y]) (by simp [results, Tryd.results5, go_sem, e0, e1, e2]) rfl ?_
  exact ⟨op, x, y, rfl, bx, by', by go_grown⟩

set_option maxHeartbeats 800000 in
theorem drawRead_at (B : Nat) (w : World) (a : Option Addr) (len cap : Nat) (hB : Bytes B w a len) (hs : B ≤ w.heap.size) :
    Calls Tryd.prog 7 #[.slice a len cap] w fun e w' => ∃ t : ByteArray, e = .returned (.string t) ∧ t.size ≤ 1000 ∧ Below w.heap.size w w' := by
  go_enter Tryd.func7, Tryd.ntmps7
  go_wp2_with fail
  refine (new_at B _ a len cap hB hs).mono ?_
  rintro e w1 ⟨c, rfl, hc, hb1, h1⟩
  have H1 : Hid (Cur B w1 c a len cap) := h1
  clear h1
  go_wp2_with fail
  refine (drawAnyI_at B c _ _ a len cap (At.start H1.out)).mono ?_
  rintro e w2 ⟨op, x, y, rfl, _, bx, by', h2⟩
  have H2 : Hid (At B w1 w2 c a len cap) := h2
  clear h2
  go_wp2_with fail
  refine (specShow op x y bx.1 bx.2 by'.1 by'.2 _).mono ?_
  have hsl : (Tx.shownI op x y).length ≤ 12 := by
    unfold Tx.shownI
    split
    · rename_i hk; exact Tx.show_len hk
    · simp
  rintro e w3 ⟨rfl, hb3⟩
  have H3 : Hid (At B w1 w3 c a len cap) := ⟨H2.out.1.trans (touch_below hb3), H2.out.2.later hb3 H2.out.2.2.1⟩
  clear hb3
  generalize Tx.shownI op x y = l at hsl
  go_wp2_with fail
  refine (once_at B c _ _ a len cap _ (At.start H3.out.2)).mono ?_
  rintro e w4 ⟨q, rfl, h4⟩
  have H4 : Hid (At B w1 w4 c a len cap) := H3.out.step h4
  clear h4
  cases q
  · go_wp2
    go_ret
    exact ⟨_, rfl, by rw [mk_size]; omega, H4.out.below hb1 hc⟩
  · go_wp2_with fail
    refine (bend_at B c _ _ a len cap (At.start H4.out.2) ⟨l.toArray⟩ ⟨#[97, 98, 107, 113, 48, 45, 49, 44]⟩ (by rw [mk_size]; omega) (by decide) (by decide)).mono ?_
    rintro e w5 ⟨t, rfl, ht, h5⟩
    have H5 : Hid (At B w1 w5 c a len cap) := H4.out.step h5
    clear h5
    go_wp2
    go_ret
    exact ⟨t, rfl, by have e := mk_size l; omega, H5.out.below hb1 hc⟩
end Cu
end Go.Proofs.YtoeahpoibnddfaaDoor
