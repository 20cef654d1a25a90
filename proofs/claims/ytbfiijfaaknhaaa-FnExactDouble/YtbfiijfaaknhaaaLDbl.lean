/- The walk of the law FnExactDouble. -/
import Derived.Test.YtbfiijfaaknhaaaDb4
import Derived.Deep.RegionWith
namespace Go.Proofs.Ytbfiijfaaknhaaa
namespace Pg
open Go.ChangeShapes Go.WideShapes Go.ChangeAt Go.RowKit St

set_option maxRecDepth 100000 in
set_option maxHeartbeats 2000000 in
theorem dblLaw (a : Option Addr) (cap : Nat) (p : Prg) (x1 x2 : Int) (hs : SaneP p) (w : World) (hin : SK wide 0 w (.slice a p.length cap) p) :
    Calls Try.prog 4 #[.agg #[.slice a p.length cap], .int .i64 x1, .int .i64 x2] w fun e w' => e = .returned (.bool true) ∧ Below w.heap.size w w' := by
  have HIN : Hid (SK wide 0 w (.slice a p.length cap) p) := hin
  have HS : Hid (SaneP p) := hs
  clear hin hs
  obtain ⟨W, hW⟩ : ∃ W, W = w.alloc (.cells #[.slice a p.length cap] 24) := ⟨_, rfl⟩
  have hwW : Below w.heap.size w W := by rw [hW]; exact (Below.refl _ _).alloc (Nat.le_refl _) _
  have L0 : Hid (Cells W w.heap.size [.slice a p.length cap]) := by rw [hW]; exact Cells.new w _ rfl _ _
  by_cases hsz : (szP p : Int) ≤ 1048576
  · have HSN : Hid (szP p ≤ 1048576) := by show _ ≤ _; omega
    have HSM : Hid (SmallP p) := SmallP.of HSN.out
    have HSZ : Hid (szR (szP p) 1048576 = 1048576 - (szP p : Int)) := szR_yes hsz
    have hq : 0 ≤ 1048576 - (szP p : Int) := by omega
    obtain ⟨P, HSF, HIF⟩ : ∃ P : Bool, Hid (∀ B v d w, SK front B w (.slice v p.length d) p → Calls Try.prog 16 #[.agg #[.slice v p.length d], .int .i64 x1, .int .i64 x2] w fun e w' => e = .returned (.bool P) ∧ Below w.heap.size w w') ∧
        Hid (∀ B v d w, SK front B w (.slice v p.length d) p → Calls Try.prog 17 #[.agg #[.slice v p.length d], .int .i64 x1, .int .i64 x2] w fun e w' => e = .returned (.bool P) ∧ Below w.heap.size w w') :=
      ⟨dblA p x1 x2, fun B v d w h => specDouble B p v d x1 x2 HSM.out w h, fun B v d w h => implDouble B p v d x1 x2 HSM.out w h⟩
    go_enter Try.func4, Try.ntmps4
    go_wp2_with fail
    rw [← hW]
    clear hW
    refine (szProgram wide 0 a cap p HS.out _ (SK.on HIN.out (Keep.of hwW))).mono ?_
    rw [HSZ.out]
    rintro e w1 ⟨rfl, hb1⟩
    have hw1 : Below w.heap.size w w1 := below_over hwW hb1
    have hW1 : Below W.heap.size W w1 := hb1
    obtain ⟨c1, _⟩ := (L0.out.on hW1).g0
    clear hb1 HSZ
    go_wp2_with fail
    refine (toProgram p a cap HSM.out _ (SK.on HIN.out (Keep.of hw1))).mono ?_
    rintro e w2 ⟨v2, rfl, hv2, hb2⟩
    obtain ⟨a2, d2, rfl⟩ := hv2.form
    have hw2 : Below w.heap.size w w2 := below_over hw1 hb2
    have hW2 : Below W.heap.size W w2 := below_over hW1 hb2
    have HV2 : Hid (SK front w1.heap.size w2 (.slice a2 p.length d2) p) := hv2
    clear hb2 hv2 c1
    go_wp2_with fail
    refine (HSF.out w1.heap.size a2 d2 _ HV2.out).mono ?_
    rintro e w3 ⟨rfl, hb3⟩
    have hw3 : Below w.heap.size w w3 := below_over hw2 hb3
    have hW3 : Below W.heap.size W w3 := below_over hW2 hb3
    obtain ⟨c3, _⟩ := (L0.out.on hW3).g0
    clear hb3 HV2
    go_wp2_with fail
    refine (toProgram p a cap HSM.out _ (SK.on HIN.out (Keep.of hw3))).mono ?_
    rintro e w4 ⟨v4, rfl, hv4, hb4⟩
    obtain ⟨a4, d4, rfl⟩ := hv4.form
    have hw4 : Below w.heap.size w w4 := below_over hw3 hb4
    have hW4 : Below W.heap.size W w4 := below_over hW3 hb4
    obtain ⟨W5, hW5⟩ : ∃ W5, W5 = w4.alloc (.cells #[.slice a4 p.length d4] 34) := ⟨_, rfl⟩
    have hb5 : Below w4.heap.size w4 W5 := by rw [hW5]; exact (Below.refl _ _).alloc (Nat.le_refl _) _
    have X5 : Hid (Cells W5 w4.heap.size [.slice a4 p.length d4]) := by rw [hW5]; exact Cells.new w4 _ rfl _ _
    have HV5 : Hid (SK front w3.heap.size W5 (.slice a4 p.length d4) p) := SK.on hv4 (Keep.of hb5)
    have hw5 : Below w.heap.size w W5 := below_over hw4 hb5
    have hWW5 : Below W.heap.size W W5 := below_over hW4 hb5
    clear hb4 hv4 c3 hb5
    go_wp2_with fail
    rw [← hW5]
    clear hW5
    refine (HIF.out w3.heap.size a4 d4 _ HV5.out).mono ?_
    rintro e w6 ⟨rfl, hb6⟩
    have hw6 : Below w.heap.size w w6 := below_over hw5 hb6
    have hW6 : Below W.heap.size W w6 := below_over hWW5 hb6
    have X6 : Hid (Cells w6 w4.heap.size [.slice a4 p.length d4]) := X5.out.on hb6
    have HV6 : Hid (SK front w3.heap.size w6 (.slice a4 p.length d4) p) := SK.on HV5.out (Keep.of hb6)
    obtain ⟨c6, _⟩ := (L0.out.on hW6).g0
    obtain ⟨x6, _⟩ := X6.out.g0
    have lx : w4.heap.size < w6.heap.size := cell_lt x6
    clear hb6 HV5 X5
    have hnn : (P != P) = false := by simp
    go_wp2_with fail
    go_region_with (first
      | (go_at_call 9; refine (toProgram p a cap HSM.out _ ?hx).mono ?_; (case hx => exact SK.on HIN.out (Keep.of hw6.drew)); rintro e w7 ⟨v7, rfl, hv7, hb7⟩; have x7 := (hb7.cell (p := ⟨w4.heap.size, 0, none⟩) lx).trans x6)
      | (go_at_call 12; have q3 := SK.on HV6.out (Keep.of (below_over (Below.refl _ _).drew hb7)); refine (eqProgram w3.heap.size _ (.slice a4 p.length d4) _ p HSM.out _ q3 hv7).mono ?_; rintro e w8 ⟨rfl, hb8⟩))
    all_goals
      have hw8 : Below w.heap.size w w8 := below_over (below_over hw6.drew hb7) hb8
      clear hb7 hb8 hv7 x6 c6
      go_wp2
      go_ret
      exact ⟨rfl, hw8⟩
  · have HSZ : Hid (szR (szP p) 1048576 = -1) := szR_no (Int.not_le.1 hsz)
    go_enter Try.func4, Try.ntmps4
    go_wp2_with fail
    rw [← hW]
    clear hW
    refine (szProgram wide 0 a cap p HS.out _ (SK.on HIN.out (Keep.of hwW))).mono ?_
    rw [HSZ.out]
    rintro e w1 ⟨rfl, hb1⟩
    have hw1 : Below w.heap.size w w1 := below_over hwW hb1
    clear hb1
    go_wp2
    go_ret
    exact ⟨rfl, hw1⟩
end Pg
end Go.Proofs.Ytbfiijfaaknhaaa
