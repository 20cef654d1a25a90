/- The walk of the law FnExactShowCode. -/
import Derived.Test.YtfgiemhbkbllmaaDoorCode1
import Derived.Test.YtfgiemhbkbllmaaDoorCode2
namespace Go.Proofs.YtfgiemhbkbllmaaDoor
namespace St
open Go.ChangeShapes Go.WideShapes Go.ChangeAt Go.RowKit

set_option maxHeartbeats 1000000 in
theorem eqRows (g g' cap cap' : Nat) (l : List Tx.Ins) (hl : l.length ≤ 1048576) (w : World) (h1 : Row w g 0 l) (h2 : Row w g' 0 l) :
    Calls Tryd.prog 22 #[.slice (some ⟨g, 0, none⟩) l.length cap, .slice (some ⟨g', 0, none⟩) l.length cap'] w fun e w' => e = .returned (.bool true) ∧ Below w.heap.size w w' := by
  have H1 : Hid (Row w g 0 l) := h1
  have H2 : Hid (Row w g' 0 l) := h2
  clear h1 h2
  go_enter Tryd.func22, Tryd.ntmps22
  go_wp2
  go_loopw [5] (fun i wr => ∃ k : Nat, k ≤ l.length ∧ i = .int .i64 k ∧ Below w.heap.size w wr) (fun i _ => l.length - (intOf i).toNat)
  case atStart => exact ⟨0, Nat.zero_le _, rfl, Below.refl _ _⟩
  case round =>
    obtain ⟨k, hk, rfl, hb⟩ := hrel
    by_cases hlt : k < l.length
    · obtain ⟨a0, a1, a2⟩ := H1.out.on hb k _ (List.getElem?_eq_getElem hlt)
      obtain ⟨b0, b1, b2⟩ := H2.out.on hb k _ (List.getElem?_eq_getElem hlt)
      generalize l[k] = x at *
      simp only [Nat.zero_add] at a0 a1 a2 b0 b1 b2
      have hki : (k : Int) < (l.length : Int) := by omega
      have hki0 : (0 : Int) ≤ (k : Int) := by omega
      have r0 := cell_regrown a0
      have r1 := cell_regrown a1
      have r2 := cell_regrown a2
      have s0 := cell_regrown b0
      have s1 := cell_regrown b1
      have s2 := cell_regrown b2
      have cE : ∀ d os, Calls Tryd.prog 17 #[.agg #[.int .i64 x.1, .int .i64 x.2.1, .int .i64 x.2.2], .agg #[.int .i64 x.1, .int .i64 x.2.1, .int .i64 x.2.2]] (Sort.grow (redrawn wr d) os) fun e w'' => e = .returned (.bool true) ∧ ∃ p : Regrown, w'' = Sort.grow (redrawn wr p.d) p.os := fun d os => Calls.regrown_of (eqSame x.1 x.2.1 x.2.2 _)
      go_wp2_with fail
      refine wp_region_quiet_below (by kernel_rfl) (by kernel_rfl) ?_
      repeat (quiet_step ((go_at_call 17; exact cE _ _)))
      refine wpQuiet_nil ?_
      intro _ hw'
      obtain ⟨⟨dq, osq⟩, hw''⟩ := hw'
      subst hw''
      have hw1 : Below w.heap.size w (Sort.grow (redrawn wr dq) osq) := below_over hb (below_regrown wr dq osq)
      clear a0 a1 a2 b0 b1 b2 r0 r1 r2 s0 s1 s2 cE hb
      generalize Sort.grow (redrawn wr dq) osq = w1 at *
      go_wp2
      go_roundw
      case rel => exact ⟨k + 1, by omega, by go_num, hw1⟩
      case measure => simp [intOf]; omega
    · go_wp2
      go_ret
      exact ⟨rfl, hb⟩

set_option maxHeartbeats 1000000 in
theorem codeLaw (a : Option Addr) (cap : Nat) (l : List Tx.Ins) (hmax : l.length ≤ 9223372036854775807) (w : World) (hT : Tab w.heap.size w) (hr : 0 < l.length → ∃ b o, a = some ⟨b, o, none⟩ ∧ Row w b o l)
    (hbd : ∀ x ∈ l, (-9223372036854775808 ≤ x.2.1 ∧ x.2.1 ≤ 9223372036854775807) ∧ -9223372036854775808 ≤ x.2.2 ∧ x.2.2 ≤ 9223372036854775807) :
    Calls Tryd.prog 6 #[.slice a l.length cap] w fun e w' => e = .returned (.bool true) ∧ Below w.heap.size w w' := by
  have HT : Hid (Tab w.heap.size w) := hT
  have HR : Hid (0 < l.length → ∃ b o, a = some ⟨b, o, none⟩ ∧ Row w b o l) := hr
  have HD : Hid (∀ x ∈ l, (-9223372036854775808 ≤ x.2.1 ∧ x.2.1 ≤ 9223372036854775807) ∧ -9223372036854775808 ≤ x.2.2 ∧ x.2.2 ≤ 9223372036854775807) := hbd
  clear hT hr hbd
  by_cases hbig : (1048576 : Int) - (l.length : Int) < 0
  · go_enter Tryd.func6, Tryd.ntmps6
    go_wp2
    go_ret
    exact ⟨rfl, Below.refl _ _⟩
  · have hl : l.length ≤ 1048576 := by omega
    have hrow : ∀ {u : World}, Below w.heap.size w u → 0 < l.length → ∃ b o, a = some ⟨b, o, none⟩ ∧ Row u b o l := fun hb h0 => by
      obtain ⟨b, o, e, hx⟩ := HR.out h0
      exact ⟨b, o, e, hx.on hb⟩
    have HROW : Hid (∀ {u : World}, Below w.heap.size w u → 0 < l.length → ∃ b o, a = some ⟨b, o, none⟩ ∧ Row u b o l) := hrow
    clear hrow
    go_enter Tryd.func6, Tryd.ntmps6
    go_wp2_with (first | (go_at_call 18; go_in))
    refine (toRow a cap l hl _ (HROW.out (Below.refl _ _))).mono ?_
    rintro e w1 ⟨rfl, hr1, _, hb1⟩
    have HR1 : Hid (Row w1 w.heap.size 0 l) := hr1
    clear hr1
    go_wp2_with fail
    refine (specShowC w.heap.size l.length l hl _ HR1.out).mono ?_
    rintro e w2 ⟨rfl, hb2⟩
    have hw2 : Below w.heap.size w w2 := below_over hb1 hb2
    clear hb2 hb1 HR1
    go_wp2_with fail
    refine (toRow a cap l hl _ (HROW.out hw2)).mono ?_
    rintro e w3 ⟨rfl, hr3, _, hb3⟩
    have HR3 : Hid (Row w3 w2.heap.size 0 l) := hr3
    have hw3 : Below w.heap.size w w3 := below_over hw2 hb3
    clear hr3 hb3
    go_wp2_with fail
    refine (implShowC w2.heap.size l.length l hl w.heap.size _ hw3.size (HT.out.on hw3) HR3.out HD.out).mono ?_
    rintro e w4 ⟨rfl, hb4⟩
    have hw4 : Below w.heap.size w w4 := below_over hw3 hb4
    have HR4 : Hid (Row w4 w2.heap.size 0 l) := HR3.out.on hb4
    clear hb4 HR3 hw3
    go_wp2_with fail
    refine (toRow a cap l hl _ (HROW.out hw4)).mono ?_
    rintro e w5 ⟨rfl, hr5, _, hb5⟩
    have hw5 : Below w.heap.size w w5 := below_over hw4 hb5
    have HR5 : Hid (Row w5 w4.heap.size 0 l) := hr5
    have HR6 : Hid (Row w5 w2.heap.size 0 l) := HR4.out.on hb5
    clear hr5 hb5 HR4 hw4
    go_wp2_with fail
    refine (eqRows w2.heap.size w4.heap.size l.length l.length l hl _ HR6.out HR5.out).mono ?_
    rintro e w6 ⟨rfl, hb6⟩
    have hw6 : Below w.heap.size w w6 := below_over hw5 hb6
    clear hb6
    go_wp2
    go_ret
    exact ⟨rfl, hw6⟩
end St
end Go.Proofs.YtfgiemhbkbllmaaDoor
