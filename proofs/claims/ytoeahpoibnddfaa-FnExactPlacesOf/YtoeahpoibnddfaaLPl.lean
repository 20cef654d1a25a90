/- The walk of the law FnExactPlacesOf. -/
import Derived.Test.YtoeahpoibnddfaaLo8
namespace Go.Proofs.Ytoeahpoibnddfaa
namespace St
open Go.ChangeShapes Go.WideShapes Go.ChangeAt Go.RowKit

theorem placesC_len (l : List Tx.Ins) (v : List Int) : (placesC l v).length ≤ 41 := by
  unfold placesC
  split
  · rename_i h
    have h1 : Lay.codeOk l = true := by
      simp only [Bool.and_eq_true] at h
      exact h.1
    have := (Lay.ok_len h1).2
    rw [Lay.places_len]; omega
  · simp

set_option maxHeartbeats 2000000 in
theorem placesLaw (a a' : Option Addr) (cap cap' : Nat) (l : List Tx.Ins) (v : List Int) (hmax : l.length ≤ 9223372036854775807) (hmaxv : v.length ≤ 9223372036854775807) (w : World) (hr : 0 < l.length → ∃ b o, a = some ⟨b, o, none⟩ ∧ Row w b o l) (hi : 0 < v.length → ∃ b o, a' = some ⟨b, o, none⟩ ∧ IRow w b o v) :
    Calls Try.prog 6 #[.slice a l.length cap, .slice a' v.length cap'] w fun e w' => e = .returned (.bool true) ∧ Below w.heap.size w w' := by
  have HR : Hid (0 < l.length → ∃ b o, a = some ⟨b, o, none⟩ ∧ Row w b o l) := hr
  have HI : Hid (0 < v.length → ∃ b o, a' = some ⟨b, o, none⟩ ∧ IRow w b o v) := hi
  clear hr hi
  by_cases hbv : (1048576 : Int) < (v.length : Int)
  · go_enter Try.func6, Try.ntmps6
    go_wp2
    go_ret
    exact ⟨rfl, Below.refl _ _⟩
  · by_cases hbig : (1048576 : Int) - (l.length : Int) < 0
    · go_enter Try.func6, Try.ntmps6
      go_wp2
      go_ret
      exact ⟨rfl, Below.refl _ _⟩
    · have hl : l.length ≤ 1048576 := by omega
      have hlv : v.length ≤ 1048576 := by omega
      have hrow : ∀ {u : World}, Below w.heap.size w u → 0 < l.length → ∃ b o, a = some ⟨b, o, none⟩ ∧ Row u b o l := fun hb h0 => by
        obtain ⟨b, o, e, hx⟩ := HR.out h0
        exact ⟨b, o, e, hx.on hb⟩
      have HROW : Hid (∀ {u : World}, Below w.heap.size w u → 0 < l.length → ∃ b o, a = some ⟨b, o, none⟩ ∧ Row u b o l) := hrow
      have hirow : ∀ {u : World}, Below w.heap.size w u → 0 < v.length → ∃ b o, a' = some ⟨b, o, none⟩ ∧ IRow u b o v := fun hb h0 => by
        obtain ⟨b, o, e, hx⟩ := HI.out h0
        exact ⟨b, o, e, hx.on hb⟩
      have HIROW : Hid (∀ {u : World}, Below w.heap.size w u → 0 < v.length → ∃ b o, a' = some ⟨b, o, none⟩ ∧ IRow u b o v) := hirow
      clear hrow hirow
      obtain ⟨P, hP, HS, HM⟩ : ∃ P : List Int, P.length ≤ 41 ∧
          Hid (∀ g cap g' cap' w, Row w g 0 l → IRow w g' 0 v → Calls Try.prog 19 #[.slice (some ⟨g, 0, none⟩) l.length cap, .slice (some ⟨g', 0, none⟩) v.length cap'] w fun e w' => ∃ x, e = .returned x ∧ IGot w.heap.size w' x P ∧ Below w.heap.size w w') ∧
          Hid (∀ g cap g' cap' w, Row w g 0 l → IRow w g' 0 v → Calls Try.prog 17 #[.slice (some ⟨g, 0, none⟩) l.length cap, .slice (some ⟨g', 0, none⟩) v.length cap'] w fun e w' => ∃ x, e = .returned x ∧ IGot w.heap.size w' x P ∧ Below w.heap.size w w') :=
        ⟨_, placesC_len l v, fun g cap g' cap' w h h' => specPlacesOf g cap g' cap' l v hl w h h', fun g cap g' cap' w h h' => implPlacesOf g cap g' cap' l v hl w h h'⟩
      go_enter Try.func6, Try.ntmps6
      go_wp2_with (first | (go_at_call 22; go_in))
      refine (toRow a cap l hl _ (HROW.out (Below.refl _ _))).mono ?_
      rintro e w1 ⟨rfl, hr1, _, hb1⟩
      have HR1 : Hid (Row w1 w.heap.size 0 l) := hr1
      clear hr1
      go_wp2_with fail
      refine (toInts a' cap' v hlv _ (HIROW.out hb1)).mono ?_
      rintro e w2 ⟨rfl, hi2, _, _, hb2⟩
      have hw2 : Below w.heap.size w w2 := below_over hb1 hb2
      have HR2 : Hid (Row w2 w.heap.size 0 l) := HR1.out.on hb2
      have HI2 : Hid (IRow w2 w1.heap.size 0 v) := hi2
      clear hi2 hb2 hb1 HR1
      go_wp2_with fail
      refine (HS.out _ _ _ _ _ HR2.out HI2.out).mono ?_
      rintro e w3 ⟨x0, rfl, ⟨gs, cs, rfl, hgs, hgs', hsr, _⟩, hb3⟩
      have hw3 : Below w.heap.size w w3 := below_over hw2 hb3
      have HS3 : Hid (IRow w3 gs 0 P) := hsr
      clear hsr hb3 hw2 HR2 HI2
      go_wp2_with fail
      refine (toRowS a cap l hl _ (HROW.out hw3)).mono ?_
      rintro e w4 ⟨rfl, hr4, hm4, hlt4, hb4⟩
      have hw4 : Below w.heap.size w w4 := below_over hw3 hb4
      have HR4 : Hid (Row w4 w3.heap.size 0 l) := hr4
      have HM4 : Hid (Room w4 w3.heap.size (l.length * 3)) := hm4
      have HS4 : Hid (IRow w4 gs 0 P) := HS3.out.on hb4
      have hx3 := hw3.size
      have hx4 := hb4.size
      clear hr4 hm4 hb4 HS3 hw3
      go_wp2_with fail
      refine (toInts a' cap' v hlv _ (HIROW.out hw4)).mono ?_
      rintro e w5 ⟨rfl, hi5, hm5, hlt5, hb5⟩
      have hw5 : Below w.heap.size w w5 := below_over hw4 hb5
      have HI5 : Hid (IRow w5 w4.heap.size 0 v) := hi5
      have HM5 : Hid (Room w5 w4.heap.size v.length) := hm5
      have HR5 : Hid (Row w5 w3.heap.size 0 l) := HR4.out.on hb5
      have HN5 : Hid (Room w5 w3.heap.size (l.length * 3)) := HM4.out.on hb5
      have HS5 : Hid (IRow w5 gs 0 P) := HS4.out.on hb5
      have hx5 := hb5.size
      clear hi5 hm5 hb5 HS4 HR4 HM4 hw4
      go_wp2_with fail
      refine (HM.out _ _ _ _ _ HR5.out HI5.out).mono ?_
      rintro e w6 ⟨x1, rfl, ⟨gi, ci, rfl, hgi, hgi', hir, him⟩, hb6⟩
      have hw6 : Below w.heap.size w w6 := below_over hw5 hb6
      have HI6 : Hid (IRow w6 gi 0 P) := hir
      have HM6 : Hid (Room w6 gi P.length) := him
      have HS6 : Hid (IRow w6 gs 0 P) := HS5.out.on hb6
      have HR6 : Hid (Row w6 w3.heap.size 0 l) := HR5.out.on hb6
      have HN6 : Hid (Room w6 w3.heap.size (l.length * 3)) := HN5.out.on hb6
      have HV6 : Hid (IRow w6 w4.heap.size 0 v) := HI5.out.on hb6
      have HO6 : Hid (Room w6 w4.heap.size v.length) := HM5.out.on hb6
      have hx6 := hb6.size
      clear hir him hb6 HS5 HR5 HN5 HI5 HM5 hw5
      go_wp2_with fail
      refine (eqInts gi gs ci cs P (by omega) _ HI6.out HS6.out).mono ?_
      rintro e w7 ⟨rfl, hb7⟩
      have hw7 : Below w.heap.size w w7 := below_over hw6 hb7
      have HI7 : Hid (IRow w7 gi 0 P) := HI6.out.on hb7
      have HM7 : Hid (Room w7 gi P.length) := HM6.out.on hb7
      have HS7 : Hid (IRow w7 gs 0 P) := HS6.out.on hb7
      have HR7 : Hid (Row w7 w3.heap.size 0 l) := HR6.out.on hb7
      have HN7 : Hid (Room w7 w3.heap.size (l.length * 3)) := HN6.out.on hb7
      have HV7 : Hid (IRow w7 w4.heap.size 0 v) := HV6.out.on hb7
      have HO7 : Hid (Room w7 w4.heap.size v.length) := HO6.out.on hb7
      have hx7 := hb7.size
      clear hb7 HI6 HM6 HS6 HR6 HN6 HV6 HO6 hw6
      go_wp2_with fail
      refine (toRow a cap l hl _ (HROW.out hw7)).mono ?_
      rintro e w8 ⟨rfl, hr8, _, hb8⟩
      have hw8 : Below w.heap.size w w8 := below_over hw7 hb8
      have HQ8 : Hid (Row w8 w7.heap.size 0 l) := hr8
      have HI8 : Hid (IRow w8 gi 0 P) := HI7.out.on hb8
      have HM8 : Hid (Room w8 gi P.length) := HM7.out.on hb8
      have HS8 : Hid (IRow w8 gs 0 P) := HS7.out.on hb8
      have HR8 : Hid (Row w8 w3.heap.size 0 l) := HR7.out.on hb8
      have HN8 : Hid (Room w8 w3.heap.size (l.length * 3)) := HN7.out.on hb8
      have HV8 : Hid (IRow w8 w4.heap.size 0 v) := HV7.out.on hb8
      have HO8 : Hid (Room w8 w4.heap.size v.length) := HO7.out.on hb8
      clear hr8 hb8 HI7 HM7 HS7 HR7 HN7 HV7 HO7 hw7
      go_wp2_with fail
      refine (eqRows w3.heap.size w7.heap.size l.length l.length l hl _ HR8.out HQ8.out).mono ?_
      rintro e w9 ⟨rfl, hb9⟩
      have hw9 : Below w.heap.size w w9 := below_over hw8 hb9
      have HI9 : Hid (IRow w9 gi 0 P) := HI8.out.on hb9
      have HM9 : Hid (Room w9 gi P.length) := HM8.out.on hb9
      have HS9 : Hid (IRow w9 gs 0 P) := HS8.out.on hb9
      have HN9 : Hid (Room w9 w3.heap.size (l.length * 3)) := HN8.out.on hb9
      have HV9 : Hid (IRow w9 w4.heap.size 0 v) := HV8.out.on hb9
      have HO9 : Hid (Room w9 w4.heap.size v.length) := HO8.out.on hb9
      clear hb9 HI8 HM8 HS8 HR8 HN8 HV8 HO8 hw8 HQ8
      go_wp2_with fail
      refine (toInts a' cap' v hlv _ (HIROW.out hw9)).mono ?_
      rintro e wA ⟨rfl, hiA, _, _, hbA⟩
      have hwA : Below w.heap.size w wA := below_over hw9 hbA
      have HQA : Hid (IRow wA w9.heap.size 0 v) := hiA
      have HIA : Hid (IRow wA gi 0 P) := HI9.out.on hbA
      have HMA : Hid (Room wA gi P.length) := HM9.out.on hbA
      have HSA : Hid (IRow wA gs 0 P) := HS9.out.on hbA
      have HNA : Hid (Room wA w3.heap.size (l.length * 3)) := HN9.out.on hbA
      have HVA : Hid (IRow wA w4.heap.size 0 v) := HV9.out.on hbA
      have HOA : Hid (Room wA w4.heap.size v.length) := HO9.out.on hbA
      clear hbA HI9 HM9 HS9 HN9 HV9 HO9 hw9 hiA
      go_wp2_with fail
      refine (eqInts w4.heap.size w9.heap.size v.length v.length v hlv _ HVA.out HQA.out).mono ?_
      rintro e wB ⟨rfl, hbB⟩
      have hwB : Below w.heap.size w wB := below_over hwA hbB
      have HIB : Hid (IRow wB gi 0 P) := HIA.out.on hbB
      have HMB : Hid (Room wB gi P.length) := HMA.out.on hbB
      have HSB : Hid (IRow wB gs 0 P) := HSA.out.on hbB
      have HNB : Hid (Room wB w3.heap.size (l.length * 3)) := HNA.out.on hbB
      have HOB : Hid (Room wB w4.heap.size v.length) := HOA.out.on hbB
      clear hbB HIA HMA HSA HNA HVA HOA hwA HQA
      have n1 : gi ≠ w3.heap.size := by omega
      have n2 : gi ≠ w4.heap.size := by omega
      have n3 : gs ≠ w3.heap.size := by omega
      have n4 : gs ≠ w4.heap.size := by omega
      have n5 : w4.heap.size ≠ w3.heap.size := by omega
      have n6 : gs ≠ gi := by omega
      have m3 : w.heap.size ≤ w3.heap.size := hx3
      have m4 : w.heap.size ≤ w4.heap.size := by omega
      have mi : w.heap.size ≤ gi := by omega
      go_wp2_with fail
      refine (mark_at w3.heap.size l.length l.length hl _ HNB.out).mono ?_
      rintro e wC ⟨rfl, _, _, hoC⟩
      have hwC : Below w.heap.size w wC := hwB.trans (hoC.below m3)
      have HIC : Hid (IRow wC gi 0 P) := hoC.irow n1 HIB.out
      have HMC : Hid (Room wC gi P.length) := hoC.room n1 HMB.out
      have HSC : Hid (IRow wC gs 0 P) := hoC.irow n3 HSB.out
      have HOC : Hid (Room wC w4.heap.size v.length) := hoC.room n5 HOB.out
      clear hoC HIB HMB HSB HNB HOB hwB
      go_wp2_with fail
      have CM := imark_at w4.heap.size v.length (l.length * 3 + 1) v.length (by omega) hlv wC HOC.out
      have ecast : (((l.length * 3 + 1 : Nat) : Int)) = (l.length : Int) * 3 + 1 := by omega
      rw [ecast] at CM
      refine CM.mono ?_
      clear CM ecast
      rintro e wD ⟨rfl, _, _, hoD⟩
      have hwD : Below w.heap.size w wD := hwC.trans (hoD.below m4)
      have HID : Hid (IRow wD gi 0 P) := hoD.irow n2 HIC.out
      have HMD : Hid (Room wD gi P.length) := hoD.room n2 HMC.out
      have HSD : Hid (IRow wD gs 0 P) := hoD.irow n4 HSC.out
      clear hoD HIC HMC HSC HOC hwC
      have hneg : ¬ ((l.length : Int) * 3 + 1 + (v.length : Int) < 0) := by omega
      go_wp2_with fail
      refine (eqInts gi gs ci cs P (by omega) _ HID.out HSD.out).mono ?_
      rintro e wE ⟨rfl, hbE⟩
      have hwE : Below w.heap.size w wE := below_over hwD hbE
      have HME : Hid (Room wE gi P.length) := HMD.out.on hbE
      have HSE : Hid (IRow wE gs 0 P) := HSD.out.on hbE
      clear hbE HID HMD HSD hwD
      go_wp2_with fail
      refine (imark_at gi ci 1 P.length (by omega) (by omega) wE HME.out).mono ?_
      rintro e wF ⟨rfl, hiF, _, hoF⟩
      have hwF : Below w.heap.size w wF := hwE.trans (hoF.below mi)
      have HKF : Hid (IRow wF gi 0 (imarks 1 P.length)) := hiF
      have HSF : Hid (IRow wF gs 0 P) := hoF.irow n6 HSE.out
      clear hiF hoF HME HSE hwE
      go_wp2_with fail
      refine (iheld_at gi ci 1 P.length (by omega) (by omega) wF HKF.out).mono ?_
      rintro e wF' ⟨rfl, rfl⟩
      have hq0 : ¬ (((1 : Nat) : Int) + (P.length : Int) < 0) := by omega
      go_wp2_with fail
      refine (toRow a cap l hl _ (HROW.out hwF)).mono ?_
      rintro e wG ⟨rfl, hrG, _, hbG⟩
      have hwG : Below w.heap.size w wG := below_over hwF hbG
      have HRG : Hid (Row wG wF.heap.size 0 l) := hrG
      have HKG : Hid (IRow wG gi 0 (imarks 1 P.length)) := HKF.out.on hbG
      have HSG : Hid (IRow wG gs 0 P) := HSF.out.on hbG
      clear hrG hbG HKF HSF
      go_wp2_with fail
      refine (toInts a' cap' v hlv _ (HIROW.out hwG)).mono ?_
      rintro e wH ⟨rfl, hiH, _, _, hbH⟩
      have hwH : Below w.heap.size w wH := below_over hwG hbH
      have HIH : Hid (IRow wH wG.heap.size 0 v) := hiH
      have HRH : Hid (Row wH wF.heap.size 0 l) := HRG.out.on hbH
      have HKH : Hid (IRow wH gi 0 (imarks 1 P.length)) := HKG.out.on hbH
      have HSH : Hid (IRow wH gs 0 P) := HSG.out.on hbH
      clear hiH hbH HRG HKG HSG
      go_wp2_with fail
      refine (HM.out _ _ _ _ _ HRH.out HIH.out).mono ?_
      rintro e wI ⟨x2, rfl, ⟨gh, ch, rfl, hgh, hgh', hirh, _⟩, hbI⟩
      have hwI : Below w.heap.size w wI := below_over hwH hbI
      have HHI : Hid (IRow wI gh 0 P) := hirh
      have HKI : Hid (IRow wI gi 0 (imarks 1 P.length)) := HKH.out.on hbI
      have HSI : Hid (IRow wI gs 0 P) := HSH.out.on hbI
      clear hirh hbI HRH HKH HSH HIH
      go_wp2_with fail
      refine (eqInts gh gs ch cs P (by omega) _ HHI.out HSI.out).mono ?_
      rintro e wJ ⟨rfl, hbJ⟩
      have hwJ : Below w.heap.size w wJ := below_over hwI hbJ
      have HKJ : Hid (IRow wJ gi 0 (imarks 1 P.length)) := HKI.out.on hbJ
      clear hbJ HKI HSI HHI
      go_wp2_with fail
      refine (iheld_at gi ci 1 P.length (by omega) (by omega) wJ HKJ.out).mono ?_
      rintro e wJ' ⟨rfl, rfl⟩
      go_wp2
      go_ret
      exact ⟨rfl, hwJ⟩
end St
end Go.Proofs.Ytoeahpoibnddfaa
