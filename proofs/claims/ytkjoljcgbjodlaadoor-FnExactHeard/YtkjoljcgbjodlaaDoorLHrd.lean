/- The walk of the law FnExactHeard. -/
import Derived.Test.YtkjoljcgbjodlaaDoorHd0
namespace Go.Proofs.YtkjoljcgbjodlaaDoor
namespace Pg
open Go.ChangeShapes Go.WideShapes Go.ChangeAt Go.RowKit St

set_option maxRecDepth 100000 in
set_option maxHeartbeats 4000000 in
theorem heardLaw (x : Mc) (a1 a2 a3 : Option Addr) (c1 c2 c3 : Nat) (hs : SaneK x) (hi : (∀ y ∈ x.said, I64 y) ∧ I64 x.fin ∧ I64 x.code) (w : World) (hT : Tab w.heap.size w) (hin : KV false 0 w (.slice a1 x.heap.length c1) (.slice a2 x.frames.length c2) (.slice a3 x.said.length c3) x) :
    Calls Tryd.prog 4 #[.agg #[.slice a1 x.heap.length c1, .slice a2 x.frames.length c2, .slice a3 x.said.length c3, .int .i64 x.fin, .int .i64 x.code]] w fun e w' => e = .returned (.bool true) ∧ Below w.heap.size w w' := by
  have HIN : Hid (KV false 0 w (.slice a1 x.heap.length c1) (.slice a2 x.frames.length c2) (.slice a3 x.said.length c3) x) := hin
  have HS : Hid (SaneK x) := hs
  have HI : Hid ((∀ y ∈ x.said, I64 y) ∧ I64 x.fin ∧ I64 x.code) := hi
  have HT : Hid (Tab w.heap.size w) := hT
  obtain ⟨S, hSe⟩ : ∃ S : ByteArray, S = ⟨(heardT x).toArray⟩ := ⟨_, rfl⟩
  have HSS : Hid (S = ⟨(heardT x).toArray⟩) := hSe
  clear hin hs hT hSe hi
  obtain ⟨W, hW⟩ : ∃ W, W = w.alloc (.cells #[.slice a1 x.heap.length c1, .slice a2 x.frames.length c2, .slice a3 x.said.length c3, .int .i64 x.fin, .int .i64 x.code] 37) := ⟨_, rfl⟩
  have hwW : Below w.heap.size w W := by rw [hW]; exact (Below.refl _ _).alloc (Nat.le_refl _) _
  have L0 : Hid (Cells W w.heap.size [.slice a1 x.heap.length c1, .slice a2 x.frames.length c2, .slice a3 x.said.length c3, .int .i64 x.fin, .int .i64 x.code]) := by rw [hW]; exact Cells.new w _ rfl _ _
  by_cases hsz : (szK x : Int) ≤ 1048576
  · have HSN : Hid (szK x ≤ 1048576) := by show _ ≤ _; omega
    have HSM : Hid (SmallK x) := SmallK.of HSN.out
    have HSZ : Hid (szR (szK x) 1048576 = 1048576 - (szK x : Int)) := szR_yes hsz
    have hq : 0 ≤ 1048576 - (szK x : Int) := by omega
    go_enter Tryd.func4, Tryd.ntmps4
    go_wp2_with fail
    rw [← hW]
    clear hW
    refine (szMachine x 0 a1 a2 a3 c1 c2 c3 1048576 (by omega) (by omega) HS.out _ (HIN.out.on (Keep.of hwW))).mono ?_
    rw [HSZ.out]
    rintro e w1 ⟨rfl, hb1⟩
    have hw1 : Below w.heap.size w w1 := below_over hwW hb1
    have hW1 : Below W.heap.size W w1 := hb1
    have L1 : Hid (Cells w1 w.heap.size [.slice a1 x.heap.length c1, .slice a2 x.frames.length c2, .slice a3 x.said.length c3, .int .i64 x.fin, .int .i64 x.code]) := L0.out.on hW1
    obtain ⟨p0, _⟩ := L1.out.g0
    obtain ⟨p1, _⟩ := L1.out.g1
    obtain ⟨p2, _⟩ := L1.out.g2
    obtain ⟨p3, _⟩ := L1.out.g3
    obtain ⟨p4, _⟩ := L1.out.g4
    clear hb1 HSZ
    go_wp2_with fail
    refine (toMachine x a1 a2 a3 c1 c2 c3 HSM.out _ (HIN.out.on (Keep.of hw1))).mono ?_
    rintro e w2 ⟨v1, v2, v3, rfl, hv2, hb2⟩
    obtain ⟨b1, d1, rfl⟩ := hv2.1.form
    obtain ⟨b2, d2, rfl⟩ := hv2.2.1.form
    obtain ⟨b3, d3, rfl⟩ := hv2.2.2.form
    have hw2 : Below w.heap.size w w2 := below_over hw1 hb2
    have hW2 : Below W.heap.size W w2 := below_over hW1 hb2
    have HV2 : Hid (KV true w1.heap.size w2 (.slice b1 x.heap.length d1) (.slice b2 x.frames.length d2) (.slice b3 x.said.length d3) x) := hv2
    clear hb2 hv2 p0 p1 p2 p3 p4 L1
    go_wp2_with fail
    refine (specHeard w1.heap.size x b1 b2 b3 d1 d2 d3 HSM.out.2.2 HI.out _ HV2.out.2.2).mono ?_
    rw [← HSS.out]
    rintro e w3 ⟨rfl, hb3⟩
    have hw3 : Below w.heap.size w w3 := below_over hw2 hb3
    have hW3 : Below W.heap.size W w3 := below_over hW2 hb3
    have L3 : Hid (Cells w3 w.heap.size [.slice a1 x.heap.length c1, .slice a2 x.frames.length c2, .slice a3 x.said.length c3, .int .i64 x.fin, .int .i64 x.code]) := L0.out.on hW3
    obtain ⟨p0, _⟩ := L3.out.g0
    obtain ⟨p1, _⟩ := L3.out.g1
    obtain ⟨p2, _⟩ := L3.out.g2
    obtain ⟨p3, _⟩ := L3.out.g3
    obtain ⟨p4, _⟩ := L3.out.g4
    clear hb3 HV2
    go_wp2_with fail
    refine (toMachine x a1 a2 a3 c1 c2 c3 HSM.out _ (HIN.out.on (Keep.of hw3))).mono ?_
    rintro e w4 ⟨v1, v2, v3, rfl, hv4, hb4⟩
    obtain ⟨e1, f1, rfl⟩ := hv4.1.form
    obtain ⟨e2, f2, rfl⟩ := hv4.2.1.form
    obtain ⟨e3, f3, rfl⟩ := hv4.2.2.form
    have hw4 : Below w.heap.size w w4 := below_over hw3 hb4
    have hW4 : Below W.heap.size W w4 := below_over hW3 hb4
    obtain ⟨W5, hW5⟩ : ∃ W5, W5 = w4.alloc (.cells #[.slice e1 x.heap.length f1, .slice e2 x.frames.length f2, .slice e3 x.said.length f3, .int .i64 x.fin, .int .i64 x.code] 43) := ⟨_, rfl⟩
    have hb5 : Below w4.heap.size w4 W5 := by rw [hW5]; exact (Below.refl _ _).alloc (Nat.le_refl _) _
    have X5 : Hid (Cells W5 w4.heap.size [.slice e1 x.heap.length f1, .slice e2 x.frames.length f2, .slice e3 x.said.length f3, .int .i64 x.fin, .int .i64 x.code]) := by rw [hW5]; exact Cells.new w4 _ rfl _ _
    have HV5 : Hid (KV true w3.heap.size W5 (.slice e1 x.heap.length f1) (.slice e2 x.frames.length f2) (.slice e3 x.said.length f3) x) := hv4.on (Keep.of hb5)
    have hw5 : Below w.heap.size w W5 := below_over hw4 hb5
    have hWW5 : Below W.heap.size W W5 := below_over hW4 hb5
    clear hb4 hv4 p0 p1 p2 p3 p4 hb5 L3
    go_wp2_with fail
    rw [← hW5]
    clear hW5
    refine (implHeard w3.heap.size x e1 e2 e3 f1 f2 f3 HSM.out.2.2 HI.out w.heap.size _ hw5.size (HT.out.on hw5) HV5.out.2.2).mono ?_
    rw [← HSS.out]
    rintro e w6 ⟨rfl, hb6⟩
    have hw6 : Below w.heap.size w w6 := below_over hw5 hb6
    have hW6 : Below W.heap.size W w6 := below_over hWW5 hb6
    have X6 : Hid (Cells w6 w4.heap.size [.slice e1 x.heap.length f1, .slice e2 x.frames.length f2, .slice e3 x.said.length f3, .int .i64 x.fin, .int .i64 x.code]) := X5.out.on hb6
    have HV6 : Hid (KV true w3.heap.size w6 (.slice e1 x.heap.length f1) (.slice e2 x.frames.length f2) (.slice e3 x.said.length f3) x) := HV5.out.on (Keep.of hb6)
    have L6 : Hid (Cells w6 w.heap.size [.slice a1 x.heap.length c1, .slice a2 x.frames.length c2, .slice a3 x.said.length c3, .int .i64 x.fin, .int .i64 x.code]) := L0.out.on hW6
    obtain ⟨p0, _⟩ := L6.out.g0
    obtain ⟨p1, _⟩ := L6.out.g1
    obtain ⟨p2, _⟩ := L6.out.g2
    obtain ⟨p3, _⟩ := L6.out.g3
    obtain ⟨p4, _⟩ := L6.out.g4
    obtain ⟨q0, _⟩ := X6.out.g0
    obtain ⟨q1, _⟩ := X6.out.g1
    obtain ⟨q2, _⟩ := X6.out.g2
    obtain ⟨q3, _⟩ := X6.out.g3
    obtain ⟨q4, _⟩ := X6.out.g4
    have lx : w4.heap.size < w6.heap.size := cell_lt q0
    clear hb6 HV5 X5 L6 X6
    go_wp2_with fail
    go_region_with (first
      | (go_at_call 12; refine (toMachine x a1 a2 a3 c1 c2 c3 HSM.out _ ?hx).mono ?_; (case hx => exact HIN.out.on (Keep.of hw6.drew)); rintro e w7 ⟨v1, v2, v3, rfl, hv7, hb7⟩; obtain ⟨g1, h1, rfl⟩ := hv7.1.form; obtain ⟨g2, h2, rfl⟩ := hv7.2.1.form; obtain ⟨g3, h3, rfl⟩ := hv7.2.2.form; have y0 := (hb7.cell (p := ⟨w4.heap.size, 0, none⟩) lx).trans q0; have y1 := (hb7.cell (p := ⟨w4.heap.size, 1, none⟩) lx).trans q1; have y2 := (hb7.cell (p := ⟨w4.heap.size, 2, none⟩) lx).trans q2; have y3 := (hb7.cell (p := ⟨w4.heap.size, 3, none⟩) lx).trans q3; have y4 := (hb7.cell (p := ⟨w4.heap.size, 4, none⟩) lx).trans q4)
      | (go_at_call 14; have q9 := HV6.out.on (Keep.of (below_over (Below.refl _ _).drew hb7)); refine (eqMachine w3.heap.size _ x e1 g1 e2 g2 e3 g3 f1 h1 f2 h2 f3 h3 HSM.out _ q9 hv7).mono ?_; rintro e w8 ⟨rfl, hb8⟩))
    all_goals
      have hw8 : Below w.heap.size w w8 := below_over (below_over hw6.drew hb7) hb8
      clear hb7 hb8 hv7 q0 q1 q2 q3 q4 p0 p1 p2 p3 p4
      go_wp2
      go_ret
      exact ⟨rfl, hw8⟩
  · have HSZ : Hid (szR (szK x) 1048576 = -1) := szR_no (Int.not_le.1 hsz)
    go_enter Tryd.func4, Tryd.ntmps4
    go_wp2_with fail
    rw [← hW]
    clear hW
    refine (szMachine x 0 a1 a2 a3 c1 c2 c3 1048576 (by omega) (by omega) HS.out _ (HIN.out.on (Keep.of hwW))).mono ?_
    rw [HSZ.out]
    rintro e w1 ⟨rfl, hb1⟩
    have hw1 : Below w.heap.size w w1 := below_over hwW hb1
    clear hb1
    go_wp2
    go_ret
    exact ⟨rfl, hw1⟩
end Pg
end Go.Proofs.YtkjoljcgbjodlaaDoor
