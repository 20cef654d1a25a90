/- The walk of the law FnExactNeeded. -/
import Derived.Test.YtinanjjhkddikaaGreatJSg8
import Derived.Test.YtinanjjhkddikaaGreatJRx7
import Derived.Test.YtinanjjhkddikaaGreatJPm2
import Derived.Deep.RegionWith
namespace Go.Proofs.YtinanjjhkddikaaGreat
namespace Pg
open Go.ChangeShapes Go.WideShapes Go.ChangeAt Go.RowKit St

set_option maxRecDepth 100000 in
set_option maxHeartbeats 4000000 in
theorem nddLaw (a : Option Addr) (cap : Nat) (p : Prg) (hs : SaneP p) (w : World) (hin : SK wide 0 w (.slice a p.length cap) p) :
    Calls Tryz.prog 5 #[.agg #[.slice a p.length cap]] w fun e w' => e = .returned (.bool true) ∧ Below w.heap.size w w' := by
  have HIN : Hid (SK wide 0 w (.slice a p.length cap) p) := hin
  have HS : Hid (SaneP p) := hs
  clear hin hs
  obtain ⟨W, hW⟩ : ∃ W, W = w.alloc (.cells #[.slice a p.length cap] 24) := ⟨_, rfl⟩
  have hwW : Below w.heap.size w W := by rw [hW]; exact (Below.refl _ _).alloc (Nat.le_refl _) _
  have L0 : Hid (Cells W w.heap.size [.slice a p.length cap]) := by rw [hW]; exact Cells.new w _ rfl _ _
  by_cases hsz : (szP p : Int) ≤ 1048576
  · have HSN : Hid (szP p ≤ 1048576) := by show _ ≤ _; omega
    have HSM : Hid (SmallP p) := SmallP.of HSN.out
    have HSZ : Hid (szR (szP p) 1048576 = 1048576 - (szP p : Int)) := szR_yes hsz
    have hq : 0 ≤ 1048576 - (szP p : Int) := by omega
    obtain ⟨P, hP, HSF, HIF⟩ : ∃ P : List Int, P.length ≤ 24 ∧
        Hid (∀ B v d w, SK front B w (.slice v p.length d) p → Calls Tryz.prog 18 #[.agg #[.slice v p.length d]] w fun e w' => ∃ v, e = .returned v ∧ LstB w.heap.size w' v P ∧ Below w.heap.size w w') ∧
        Hid (∀ B v d w, SK front B w (.slice v p.length d) p → Calls Tryz.prog 19 #[.agg #[.slice v p.length d]] w fun e w' => ∃ v, e = .returned v ∧ Grow w.heap.size w' v P ∧ Below w.heap.size w w') :=
      ⟨_, ndL_len p, fun B v d w h => specNeeded_at B p v d HSM.out w h, fun B v d w h => implNeeded B p v d HSM.out w h⟩
    go_enter Tryz.func5, Tryz.ntmps5
    go_wp2_with fail
    rw [← hW]
    clear hW
    refine (szProgram wide 0 a cap p HS.out _ (SK.on HIN.out (Keep.of hwW))).mono ?_
    rw [HSZ.out]
    rintro e w1 ⟨rfl, hb1⟩
    have hw1 : Below w.heap.size w w1 := below_over hwW hb1
    have hW1 : Below W.heap.size W w1 := hb1
    obtain ⟨c1, _⟩ := (L0.out.on hW1).g0
    clear hb1 HSZ
    go_wp2_with fail
    refine (toProgram p a cap HSM.out _ (SK.on HIN.out (Keep.of hw1))).mono ?_
    rintro e w2 ⟨v2, rfl, hv2, hb2⟩
    obtain ⟨a2, d2, rfl⟩ := hv2.form
    have hw2 : Below w.heap.size w w2 := below_over hw1 hb2
    have hW2 : Below W.heap.size W w2 := below_over hW1 hb2
    have HV2 : Hid (SK front w1.heap.size w2 (.slice a2 p.length d2) p) := hv2
    clear hb2 hv2 c1
    go_wp2_with fail
    refine (HSF.out w1.heap.size a2 d2 _ HV2.out).mono ?_
    rintro e w3 ⟨x0, rfl, hg3, hb3⟩
    obtain ⟨gs, cs, rfl, _, hgs, hgs', hsr⟩ := id hg3
    have hw3 : Below w.heap.size w w3 := below_over hw2 hb3
    have hW3 : Below W.heap.size W w3 := below_over hW2 hb3
    have HS3 : Hid (IRow w3 gs 0 P) := hsr
    obtain ⟨c3, _⟩ := (L0.out.on hW3).g0
    clear hb3 HV2 hg3 hsr
    go_wp2_with fail
    refine (toProgram p a cap HSM.out _ (SK.on HIN.out (Keep.of hw3))).mono ?_
    rintro e w4 ⟨v4, rfl, hv4, hb4⟩
    obtain ⟨a4, d4, rfl⟩ := hv4.form
    have hw4 : Below w.heap.size w w4 := below_over hw3 hb4
    have hW4 : Below W.heap.size W w4 := below_over hW3 hb4
    have hz34 : w3.heap.size ≤ w4.heap.size := hb4.size
    have SH4 : Hid (ShK w3.heap.size w4.heap.size w4 (.slice a4 p.length d4) p) := shK_of hv4
    have HS4 : Hid (IRow w4 gs 0 P) := HS3.out.on hb4
    obtain ⟨W5, hW5⟩ : ∃ W5, W5 = w4.alloc (.cells #[.slice a4 p.length d4] 30) := ⟨_, rfl⟩
    have hb5 : Below w4.heap.size w4 W5 := by rw [hW5]; exact (Below.refl _ _).alloc (Nat.le_refl _) _
    have hz5 : w4.heap.size ≤ W5.heap.size := hb5.size
    have X5 : Hid (Cells W5 w4.heap.size [.slice a4 p.length d4]) := by rw [hW5]; exact Cells.new w4 _ rfl _ _
    have HV5 : Hid (SK front w3.heap.size W5 (.slice a4 p.length d4) p) := SK.on hv4 (Keep.of hb5)
    have hw5 : Below w.heap.size w W5 := below_over hw4 hb5
    have hWW5 : Below W.heap.size W W5 := below_over hW4 hb5
    have SH5 : Hid (ShK w3.heap.size w4.heap.size W5 (.slice a4 p.length d4) p) := SH4.out.mrk (Mrk.of hb5)
    have HS5 : Hid (IRow W5 gs 0 P) := HS4.out.on hb5
    clear hb4 hv4 c3 hb5 SH4 HS4 HS3
    go_wp2_with fail
    rw [← hW5]
    clear hW5
    refine (HIF.out w3.heap.size a4 d4 _ HV5.out).mono ?_
    rintro e w6 ⟨x1, rfl, hg6, hb6⟩
    obtain ⟨gi, ci, rfl, hgi, hgi', hir, him⟩ := hg6.gint
    have hw6 : Below w.heap.size w w6 := below_over hw5 hb6
    have hW6 : Below W.heap.size W w6 := below_over hWW5 hb6
    have X6 : Hid (Cells w6 w4.heap.size [.slice a4 p.length d4]) := X5.out.on hb6
    have HV6 : Hid (SK front w3.heap.size w6 (.slice a4 p.length d4) p) := SK.on HV5.out (Keep.of hb6)
    have SH6 : Hid (ShK w3.heap.size w4.heap.size w6 (.slice a4 p.length d4) p) := SH5.out.mrk (Mrk.of hb6)
    have HI6 : Hid (IRow w6 gi 0 P) := hir
    have HM6 : Hid (Room w6 gi P.length) := him
    have HS6 : Hid (IRow w6 gs 0 P) := HS5.out.on hb6
    clear hb6 HV5 X5 SH5 HS5 hir him hg6
    go_wp2_with fail
    refine (eqInts gi gs ci cs P (by omega) _ HI6.out HS6.out).mono ?_
    rintro e w7 ⟨rfl, hb7⟩
    have hw7 : Below w.heap.size w w7 := below_over hw6 hb7
    have hW7 : Below W.heap.size W w7 := below_over hW6 hb7
    have X7 : Hid (Cells w7 w4.heap.size [.slice a4 p.length d4]) := X6.out.on hb7
    have HV7 : Hid (SK front w3.heap.size w7 (.slice a4 p.length d4) p) := SK.on HV6.out (Keep.of hb7)
    have SH7 : Hid (ShK w3.heap.size w4.heap.size w7 (.slice a4 p.length d4) p) := SH6.out.mrk (Mrk.of hb7)
    have HI7 : Hid (IRow w7 gi 0 P) := HI6.out.on hb7
    have HM7 : Hid (Room w7 gi P.length) := HM6.out.on hb7
    have HS7 : Hid (IRow w7 gs 0 P) := HS6.out.on hb7
    obtain ⟨c7, _⟩ := (L0.out.on hW7).g0
    obtain ⟨x7, _⟩ := X7.out.g0
    have lx : w4.heap.size < w7.heap.size := cell_lt x7
    clear hb7 HV6 X6 SH6 HI6 HM6 HS6 hw6 hW6
    go_wp2_with fail
    go_region_with (first
      | (go_at_call 9; refine (toProgram p a cap HSM.out _ ?hx).mono ?_; (case hx => exact SK.on HIN.out (Keep.of hw7.drew)); rintro e w8 ⟨v8, rfl, hv8, hb8⟩; have x8 := (hb8.cell (p := ⟨w4.heap.size, 0, none⟩) lx).trans x7)
      | (go_at_call 12; have q3 := SK.on HV7.out (Keep.of (below_over (Below.refl _ _).drew hb8)); refine (eqProgram w3.heap.size _ (.slice a4 p.length d4) _ p HSM.out _ q3 hv8).mono ?_; rintro e w9 ⟨rfl, hb9⟩))
    all_goals
      have hb79 : Below w7.heap.size w7 w9 := below_over (below_over (Below.refl _ _).drew hb8) hb9
      have hw9 : Below w.heap.size w w9 := below_over hw7 hb79
      have hW9 : Below W.heap.size W w9 := below_over hW7 hb79
      obtain ⟨x9, _⟩ := (X7.out.on hb79).g0
      have SH9 : Hid (ShK w3.heap.size w4.heap.size w9 (.slice a4 p.length d4) p) := SH7.out.mrk (Mrk.of hb79)
      have HI9 : Hid (IRow w9 gi 0 P) := HI7.out.on hb79
      have HM9 : Hid (Room w9 gi P.length) := HM7.out.on hb79
      have HS9 : Hid (IRow w9 gs 0 P) := HS7.out.on hb79
      clear hb8 hb9 hv8 x7 c7 q3 x8 hb79 SH7 HI7 HM7 HS7 HV7 X7 hw7 hW7 lx
      go_wp2_with fail
      refine (markProgram' w3.heap.size w4.heap.size a4 d4 p HSN.out _ SH9.out).mono ?_
      rintro e wD ⟨rfl, hmD⟩
      have hzW : W.heap.size ≤ w3.heap.size := hW3.size
      have hzw : w.heap.size ≤ w3.heap.size := hw3.size
      have hwD : Below w.heap.size w wD := hw9.trans (hmD.below hzw hw9.size)
      have hWD : Below W.heap.size W wD := hW9.trans (hmD.below hzW hW9.size)
      have hgl : gi < w3.heap.size ∨ w4.heap.size ≤ gi := .inr (by omega)
      have hgl2 : gs < w3.heap.size ∨ w4.heap.size ≤ gs := .inl hgs'
      have HID : Hid (IRow wD gi 0 P) := hmD.irow hgl HI9.out
      have HMD : Hid (Room wD gi P.length) := hmD.room hgl HM9.out
      have HSD : Hid (IRow wD gs 0 P) := hmD.irow hgl2 HS9.out
      clear hmD HI9 HM9 HS9 SH9 x9 hw9 hW9 hgl hgl2
      generalize 1 + cntP p = cnt at *
      have hneg : ¬ ((cnt : Int) < 0) := by omega
      go_wp2_with fail
      refine (eqInts gi gs ci cs P (by omega) _ HID.out HSD.out).mono ?_
      rintro e wE ⟨rfl, hbE⟩
      have hwE : Below w.heap.size w wE := below_over hwD hbE
      have hWE : Below W.heap.size W wE := below_over hWD hbE
      have HME : Hid (Room wE gi P.length) := HMD.out.on hbE
      have HSE : Hid (IRow wE gs 0 P) := HSD.out.on hbE
      clear hbE HID HMD HSD hwD hWD
      have n6 : gs ≠ gi := by omega
      have mi : w.heap.size ≤ gi := by omega
      have miW : W.heap.size ≤ gi := by omega
      go_wp2_with fail
      refine (imark_at gi ci 1 P.length (by omega) (by omega) wE HME.out).mono ?_
      rintro e wF ⟨rfl, hiF, _, hoF⟩
      have hwF : Below w.heap.size w wF := hwE.trans (hoF.below mi)
      have hWF : Below W.heap.size W wF := hWE.trans (hoF.below miW)
      have HKF : Hid (IRow wF gi 0 (imarks 1 P.length)) := hiF
      have HSF : Hid (IRow wF gs 0 P) := hoF.irow n6 HSE.out
      obtain ⟨cF, _⟩ := (L0.out.on hWF).g0
      clear hiF hoF HME HSE hwE hWE
      go_wp2_with fail
      refine (iheld_at gi ci 1 P.length (by omega) (by omega) wF HKF.out).mono ?_
      rintro e wF' ⟨rfl, rfl⟩
      have hq0 : ¬ (((1 : Nat) : Int) + (P.length : Int) < 0) := by omega
      go_wp2_with fail
      refine (toProgram p a cap HSM.out _ (SK.on HIN.out (Keep.of hwF))).mono ?_
      rintro e wH ⟨vH, rfl, hvH, hbG⟩
      obtain ⟨aH, dH, rfl⟩ := hvH.form
      have hwH : Below w.heap.size w wH := below_over hwF hbG
      have HVH : Hid (SK front wF.heap.size wH (.slice aH p.length dH) p) := hvH
      have HKH : Hid (IRow wH gi 0 (imarks 1 P.length)) := HKF.out.on hbG
      have HSH : Hid (IRow wH gs 0 P) := HSF.out.on hbG
      clear hvH hbG HKF HSF cF
      go_wp2_with fail
      refine (HIF.out wF.heap.size aH dH _ HVH.out).mono ?_
      rintro e wI ⟨x2, rfl, hgI, hbI⟩
      obtain ⟨gh, ch, rfl, hgh, hgh', hirh, _⟩ := hgI.gint
      have hwI : Below w.heap.size w wI := below_over hwH hbI
      have HHI : Hid (IRow wI gh 0 P) := hirh
      have HKI : Hid (IRow wI gi 0 (imarks 1 P.length)) := HKH.out.on hbI
      have HSI : Hid (IRow wI gs 0 P) := HSH.out.on hbI
      clear hirh hbI HVH HKH HSH hgI
      go_wp2_with fail
      refine (eqInts gh gs ch cs P (by omega) _ HHI.out HSI.out).mono ?_
      rintro e wJ ⟨rfl, hbJ⟩
      have hwJ : Below w.heap.size w wJ := below_over hwI hbJ
      have HKJ : Hid (IRow wJ gi 0 (imarks 1 P.length)) := HKI.out.on hbJ
      clear hbJ HKI HSI HHI
      go_wp2_with fail
      refine (iheld_at gi ci 1 P.length (by omega) (by omega) wJ HKJ.out).mono ?_
      rintro e wJ' ⟨rfl, rfl⟩
      go_wp2
      go_ret
      exact ⟨rfl, hwJ⟩
  · have HSZ : Hid (szR (szP p) 1048576 = -1) := szR_no (Int.not_le.1 hsz)
    go_enter Tryz.func5, Tryz.ntmps5
    go_wp2_with fail
    rw [← hW]
    clear hW
    refine (szProgram wide 0 a cap p HS.out _ (SK.on HIN.out (Keep.of hwW))).mono ?_
    rw [HSZ.out]
    rintro e w1 ⟨rfl, hb1⟩
    have hw1 : Below w.heap.size w w1 := below_over hwW hb1
    clear hb1
    go_wp2
    go_ret
    exact ⟨rfl, hw1⟩
end Pg
end Go.Proofs.YtinanjjhkddikaaGreat
