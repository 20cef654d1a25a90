/- The walk of the law FnExactLabelsOk. -/
import Derived.Test.YtbachkjhmenhfaaLb1
import Derived.Test.YtbachkjhmenhfaaLb3
namespace Go.Proofs.Ytbachkjhmenhfaa
namespace Pg
open Go.ChangeShapes Go.WideShapes Go.ChangeAt Go.RowKit St

set_option maxRecDepth 100000 in
set_option maxHeartbeats 2000000 in
theorem labLaw (a1 a2 : Option Addr) (c1 c2 : Nat) (l1 l2 : List ByteArray) (s1 : SaneT l1) (s2 : SaneT l2) (w : World) (k1 : ST 0 w (.slice a1 l1.length c1) l1) (k2 : ST 0 w (.slice a2 l2.length c2) l2) :
    Calls Try.prog 6 #[.agg #[.slice a1 l1.length c1, .slice a2 l2.length c2]] w fun e w' => e = .returned (.bool true) ∧ Below w.heap.size w w' := by
  have K1 : Hid (ST 0 w (.slice a1 l1.length c1) l1) := k1
  have K2 : Hid (ST 0 w (.slice a2 l2.length c2) l2) := k2
  have S1 : Hid (SaneT l1) := s1
  have S2 : Hid (SaneT l2) := s2
  clear k1 k2 s1 s2
  obtain ⟨W, hW⟩ : ∃ W, W = w.alloc (.cells #[.slice a1 l1.length c1, .slice a2 l2.length c2] 38) := ⟨_, rfl⟩
  have hwW : Below w.heap.size w W := by rw [hW]; exact (Below.refl _ _).alloc (Nat.le_refl _) _
  have L0 : Hid (Cells W w.heap.size [.slice a1 l1.length c1, .slice a2 l2.length c2]) := by show Cells _ _ _; rw [hW]; exact Cells.new w _ rfl _ _
  by_cases hsz : ((bulkT l1 + bulkT l2 : Nat) : Int) ≤ 1048576
  · have HSZ : Hid (szR (bulkT l1 + bulkT l2) 1048576 = 1048576 - ((bulkT l1 + bulkT l2 : Nat) : Int)) := szR_yes hsz
    have hq : ¬ 1048576 - ((bulkT l1 + bulkT l2 : Nat) : Int) < 0 := by omega
    have HL : Hid (l1.length ≤ 1048576 ∧ l2.length ≤ 1048576) := ⟨by unfold bulkT at hsz; omega, by unfold bulkT at hsz; omega⟩
    obtain ⟨P, hP⟩ : ∃ P, P = labsB l1 l2 := ⟨_, rfl⟩
    have HP : Hid (P = labsB l1 l2) := hP
    clear hP
    generalize ((bulkT l1 + bulkT l2 : Nat) : Int) = z at *
    go_enter Try.func6, Try.ntmps6
    go_wp2_with fail
    rw [← hW]
    clear hW
    refine (szLabs a1 a2 c1 c2 l1 l2 S1.out S2.out _ (by omega) (by omega) _ (K1.out.on (Keep.of hwW)) (K2.out.on (Keep.of hwW))).mono ?_
    rw [HSZ.out]
    rintro e w1 ⟨rfl, hb1⟩
    have hw1 : Below w.heap.size w w1 := below_over hwW hb1
    have hW1 : Below W.heap.size W w1 := hb1
    obtain ⟨i1, _⟩ := (L0.out.on hW1).g0
    obtain ⟨j1, _⟩ := (L0.out.on hW1).g1
    clear hb1 HSZ
    go_wp2_with fail
    refine (toLabs a1 a2 c1 c2 l1 l2 HL.out.1 HL.out.2 _ (K1.out.on (Keep.of hw1)) (K2.out.on (Keep.of hw1))).mono ?_
    rintro e w2 ⟨g1, g2, rfl, t1, t2, _, _, hb2⟩
    have hw2 : Below w.heap.size w w2 := below_over hw1 hb2
    have hW2 : Below W.heap.size W w2 := below_over hW1 hb2
    have T1 : Hid (TR w2 g1 l1) := t1
    have T2 : Hid (TR w2 g2 l2) := t2
    clear hb2 t1 t2 i1 j1
    go_wp2_with fail
    refine (specLabels _ _ _ _ l1 l2 HL.out.1 HL.out.2 _ T1.out.st T2.out.st).mono ?_
    rw [← HP.out]
    rintro e w3 ⟨rfl, hb3⟩
    have hw3 : Below w.heap.size w w3 := below_over hw2 hb3
    have hW3 : Below W.heap.size W w3 := below_over hW2 hb3
    obtain ⟨i3, _⟩ := (L0.out.on hW3).g0
    obtain ⟨j3, _⟩ := (L0.out.on hW3).g1
    clear hb3 T1 T2
    go_wp2_with fail
    refine (toLabs a1 a2 c1 c2 l1 l2 HL.out.1 HL.out.2 _ (K1.out.on (Keep.of hw3)) (K2.out.on (Keep.of hw3))).mono ?_
    rintro e w4 ⟨g1, g2, rfl, t1, t2, _, _, hb4⟩
    have hw4 : Below w.heap.size w w4 := below_over hw3 hb4
    have hW4 : Below W.heap.size W w4 := below_over hW3 hb4
    obtain ⟨W5, hW5⟩ : ∃ W5, W5 = w4.alloc (.cells #[.slice (some ⟨g1, 0, none⟩) l1.length l1.length, .slice (some ⟨g2, 0, none⟩) l2.length l2.length] 29) := ⟨_, rfl⟩
    have hb5 : Below w4.heap.size w4 W5 := by rw [hW5]; exact (Below.refl _ _).alloc (Nat.le_refl _) _
    have X5 : Hid (Cells W5 w4.heap.size [.slice (some ⟨g1, 0, none⟩) l1.length l1.length, .slice (some ⟨g2, 0, none⟩) l2.length l2.length]) := by show Cells _ _ _; rw [hW5]; exact Cells.new w4 _ rfl _ _
    have T1 : Hid (TR W5 g1 l1) := t1.on hb5
    have T2 : Hid (TR W5 g2 l2) := t2.on hb5
    have hw5 : Below w.heap.size w W5 := below_over hw4 hb5
    have hWW5 : Below W.heap.size W W5 := below_over hW4 hb5
    clear hb4 t1 t2 i3 j3 hb5
    go_wp2_with fail
    rw [← hW5]
    clear hW5
    refine (implLabels _ _ _ _ l1 l2 HL.out.1 HL.out.2 (Nat.le_refl _) (Nat.le_refl _) _ T1.out.st T2.out.st).mono ?_
    rw [← HP.out]
    rintro e w6 ⟨rfl, hb6⟩
    have hw6 : Below w.heap.size w w6 := below_over hw5 hb6
    have hW6 : Below W.heap.size W w6 := below_over hWW5 hb6
    have X6 : Hid (Cells w6 w4.heap.size [.slice (some ⟨g1, 0, none⟩) l1.length l1.length, .slice (some ⟨g2, 0, none⟩) l2.length l2.length]) := X5.out.on hb6
    have T3 : Hid (TR w6 g1 l1) := T1.out.on hb6
    have T4 : Hid (TR w6 g2 l2) := T2.out.on hb6
    obtain ⟨c6, _⟩ := (L0.out.on hW6).g0
    obtain ⟨d6, _⟩ := (L0.out.on hW6).g1
    obtain ⟨x6, _⟩ := X6.out.g0
    obtain ⟨y6, _⟩ := X6.out.g1
    have lx : w4.heap.size < w6.heap.size := cell_lt x6
    clear hb6 T1 T2 X5
    have hnn : (P != P) = false := by simp
    go_wp2_with fail
    go_region_with (first
      | (go_at_call 25; refine (toLabs a1 a2 c1 c2 l1 l2 HL.out.1 HL.out.2 _ ?hx ?hy).mono ?_; (case hx => exact K1.out.on (Keep.of hw6.drew)); (case hy => exact K2.out.on (Keep.of hw6.drew)); rintro e w7 ⟨h1, h2, rfl, t1, t2, _, _, hb7⟩; have x7 := (hb7.cell (p := ⟨w4.heap.size, 0, none⟩) lx).trans x6; have y7 := (hb7.cell (p := ⟨w4.heap.size, 1, none⟩) lx).trans y6)
      | (go_at_call 26; have q3 := TR.st (cap := l1.length) (T3.out.on (below_over (Below.refl _ _).drew hb7)); have q4 := TR.st (cap := l2.length) (T4.out.on (below_over (Below.refl _ _).drew hb7)); refine (eqLabs _ _ _ _ _ _ _ _ l1 l2 HL.out.1 HL.out.2 _ q3 q4 t1.st t2.st).mono ?_; rintro e w8 ⟨rfl, hb8⟩))
    all_goals
      have hw8 : Below w.heap.size w w8 := below_over (below_over hw6.drew hb7) hb8
      clear hb7 hb8 t1 t2 x6 c6
      go_wp2
      go_ret
      exact ⟨rfl, hw8⟩
  · have HSZ : Hid (szR (bulkT l1 + bulkT l2) 1048576 = -1) := szR_no (Int.not_le.1 hsz)
    go_enter Try.func6, Try.ntmps6
    go_wp2_with fail
    rw [← hW]
    clear hW
    refine (szLabs a1 a2 c1 c2 l1 l2 S1.out S2.out _ (by omega) (by omega) _ (K1.out.on (Keep.of hwW)) (K2.out.on (Keep.of hwW))).mono ?_
    rw [HSZ.out]
    rintro e w1 ⟨rfl, hb1⟩
    have hw1 : Below w.heap.size w w1 := below_over hwW hb1
    clear hb1
    go_wp2
    go_ret
    exact ⟨rfl, hw1⟩
end Pg
end Go.Proofs.Ytbachkjhmenhfaa
