/- The walk of the law FnExactSwept. -/
import Derived.Test.YtlbjnlkeagmpoaaTh5
namespace Go.Proofs.Ytlbjnlkeagmpoaa
namespace St
open Go.ChangeShapes Go.WideShapes Go.ChangeAt Go.RowKit

set_option maxHeartbeats 2000000 in
theorem swpLaw (a : Option Addr) (cap : Nat) (l : List Tx.Ins) (hmax : l.length ≤ 9223372036854775807) (w : World) (hr : 0 < l.length → ∃ b o, a = some ⟨b, o, none⟩ ∧ Row w b o l) :
    Calls Try.prog 6 #[.slice a l.length cap] w fun e w' => e = .returned (.bool true) ∧ Below w.heap.size w w' := by
  have HR : Hid (0 < l.length → ∃ b o, a = some ⟨b, o, none⟩ ∧ Row w b o l) := hr
  clear hr
  by_cases hbig : (1048576 : Int) - (l.length : Int) < 0
  · go_enter Try.func6, Try.ntmps6
    go_wp2
    go_ret
    exact ⟨rfl, Below.refl _ _⟩
  · have hl : l.length ≤ 1048576 := by omega
    have hrow : ∀ {u : World}, Below w.heap.size w u → 0 < l.length → ∃ b o, a = some ⟨b, o, none⟩ ∧ Row u b o l := fun hb h0 => by
      obtain ⟨b, o, e, hx⟩ := HR.out h0
      exact ⟨b, o, e, hx.on hb⟩
    have HROW : Hid (∀ {u : World}, Below w.heap.size w u → 0 < l.length → ∃ b o, a = some ⟨b, o, none⟩ ∧ Row u b o l) := hrow
    clear hrow
    obtain ⟨P, hP, HS, HM⟩ : ∃ P : List Tx.Ins, P.length ≤ 41 ∧
        Hid (∀ g cap w, Row w g 0 l → Calls Try.prog 22 #[.slice (some ⟨g, 0, none⟩) l.length cap] w fun e w' => ∃ x, e = .returned x ∧ Got w.heap.size w' x P ∧ Below w.heap.size w w') ∧
        Hid (∀ g cap w, Row w g 0 l → Calls Try.prog 23 #[.slice (some ⟨g, 0, none⟩) l.length cap] w fun e w' => ∃ x, e = .returned x ∧ Got w.heap.size w' x P ∧ Below w.heap.size w w') :=
      ⟨Pg.swpA l, Pg.swpA_len l, fun g cap w h => Pg.specSwept g cap l hl w h, fun g cap w h => Pg.implSwept g cap l hl w h⟩
    go_enter Try.func6, Try.ntmps6
    go_wp2_with (first | (go_at_call 8; go_in))
    refine (toRow a cap l hl _ (HROW.out (Below.refl _ _))).mono ?_
    rintro e w1 ⟨rfl, hr1, _, hb1⟩
    have HR1 : Hid (Row w1 w.heap.size 0 l) := hr1
    clear hr1
    go_wp2_with fail
    refine (HS.out _ _ _ HR1.out).mono ?_
    rintro e w3 ⟨x0, rfl, ⟨gs, cs, rfl, hgs, hgs', hsr, _⟩, hb3⟩
    have hw3 : Below w.heap.size w w3 := below_over hb1 hb3
    have HS3 : Hid (Row w3 gs 0 P) := hsr
    clear hsr hb3 hb1 HR1
    go_wp2_with fail
    refine (toRowS a cap l hl _ (HROW.out hw3)).mono ?_
    rintro e w4 ⟨rfl, hr4, hm4, hlt4, hb4⟩
    have hw4 : Below w.heap.size w w4 := below_over hw3 hb4
    have HR5 : Hid (Row w4 w3.heap.size 0 l) := hr4
    have HN5 : Hid (Room w4 w3.heap.size (l.length * 3)) := hm4
    have HS5 : Hid (Row w4 gs 0 P) := HS3.out.on hb4
    have hx3 := hw3.size
    have hx4 := hb4.size
    clear hr4 hm4 hb4 HS3 hw3
    go_wp2_with fail
    refine (HM.out _ _ _ HR5.out).mono ?_
    rintro e w6 ⟨x1, rfl, ⟨gi, ci, rfl, hgi, hgi', hir, him⟩, hb6⟩
    have hw6 : Below w.heap.size w w6 := below_over hw4 hb6
    have HI6 : Hid (Row w6 gi 0 P) := hir
    have HM6 : Hid (Room w6 gi (P.length * 3)) := him
    have HS6 : Hid (Row w6 gs 0 P) := HS5.out.on hb6
    have HR6 : Hid (Row w6 w3.heap.size 0 l) := HR5.out.on hb6
    have HN6 : Hid (Room w6 w3.heap.size (l.length * 3)) := HN5.out.on hb6
    have hx6 := hb6.size
    clear hir him hb6 HS5 HR5 HN5 hw4
    go_wp2_with fail
    refine (eqRows gi gs ci cs P (by omega) _ HI6.out HS6.out).mono ?_
    rintro e w7 ⟨rfl, hb7⟩
    have hw7 : Below w.heap.size w w7 := below_over hw6 hb7
    have HI7 : Hid (Row w7 gi 0 P) := HI6.out.on hb7
    have HM7 : Hid (Room w7 gi (P.length * 3)) := HM6.out.on hb7
    have HS7 : Hid (Row w7 gs 0 P) := HS6.out.on hb7
    have HR7 : Hid (Row w7 w3.heap.size 0 l) := HR6.out.on hb7
    have HN7 : Hid (Room w7 w3.heap.size (l.length * 3)) := HN6.out.on hb7
    clear hb7 HI6 HM6 HS6 HR6 HN6 hw6
    go_wp2_with fail
    refine (toRow a cap l hl _ (HROW.out hw7)).mono ?_
    rintro e w8 ⟨rfl, hr8, _, hb8⟩
    have hw8 : Below w.heap.size w w8 := below_over hw7 hb8
    have HQ8 : Hid (Row w8 w7.heap.size 0 l) := hr8
    have HI8 : Hid (Row w8 gi 0 P) := HI7.out.on hb8
    have HM8 : Hid (Room w8 gi (P.length * 3)) := HM7.out.on hb8
    have HS8 : Hid (Row w8 gs 0 P) := HS7.out.on hb8
    have HR8 : Hid (Row w8 w3.heap.size 0 l) := HR7.out.on hb8
    have HN8 : Hid (Room w8 w3.heap.size (l.length * 3)) := HN7.out.on hb8
    clear hr8 hb8 HI7 HM7 HS7 HR7 HN7 hw7
    go_wp2_with fail
    refine (eqRows w3.heap.size w7.heap.size l.length l.length l hl _ HR8.out HQ8.out).mono ?_
    rintro e wB ⟨rfl, hbB⟩
    have hwB : Below w.heap.size w wB := below_over hw8 hbB
    have HIB : Hid (Row wB gi 0 P) := HI8.out.on hbB
    have HMB : Hid (Room wB gi (P.length * 3)) := HM8.out.on hbB
    have HSB : Hid (Row wB gs 0 P) := HS8.out.on hbB
    have HNB : Hid (Room wB w3.heap.size (l.length * 3)) := HN8.out.on hbB
    clear hbB HI8 HM8 HS8 HR8 HN8 hw8 HQ8
    have n1 : gi ≠ w3.heap.size := by omega
    have n3 : gs ≠ w3.heap.size := by omega
    have n6 : gs ≠ gi := by omega
    have m3 : w.heap.size ≤ w3.heap.size := hx3
    have mi : w.heap.size ≤ gi := by omega
    go_wp2_with fail
    refine (mark_at w3.heap.size l.length l.length hl _ HNB.out).mono ?_
    rintro e wD ⟨rfl, _, _, hoC⟩
    have hwD : Below w.heap.size w wD := hwB.trans (hoC.below m3)
    have HID : Hid (Row wD gi 0 P) := hoC.row n1 HIB.out
    have HMD : Hid (Room wD gi (P.length * 3)) := hoC.room n1 HMB.out
    have HSD : Hid (Row wD gs 0 P) := hoC.row n3 HSB.out
    clear hoC HIB HMB HSB HNB hwB
    have hneg : ¬ ((l.length : Int) * 3 + 1 < 0) := by omega
    go_wp2_with fail
    refine (eqRows gi gs ci cs P (by omega) _ HID.out HSD.out).mono ?_
    rintro e wE ⟨rfl, hbE⟩
    have hwE : Below w.heap.size w wE := below_over hwD hbE
    have HME : Hid (Room wE gi (P.length * 3)) := HMD.out.on hbE
    have HSE : Hid (Row wE gs 0 P) := HSD.out.on hbE
    clear hbE HID HMD HSD hwD
    go_wp2_with fail
    refine (mark_at gi ci P.length (by omega) wE HME.out).mono ?_
    rintro e wF ⟨rfl, hiF, _, hoF⟩
    have hwF : Below w.heap.size w wF := hwE.trans (hoF.below mi)
    have HKF : Hid (Row wF gi 0 (marks P.length)) := hiF
    have HSF : Hid (Row wF gs 0 P) := hoF.row n6 HSE.out
    clear hiF hoF HME HSE hwE
    go_wp2_with fail
    refine (held_at gi ci P.length (by omega) wF HKF.out).mono ?_
    rintro e wF' ⟨rfl, rfl⟩
    have hq0 : ¬ ((P.length : Int) * 3 + 1 < 0) := by omega
    go_wp2_with fail
    refine (toRow a cap l hl _ (HROW.out hwF)).mono ?_
    rintro e wH ⟨rfl, hrG, _, hbG⟩
    have hwH : Below w.heap.size w wH := below_over hwF hbG
    have HRH : Hid (Row wH wF.heap.size 0 l) := hrG
    have HKH : Hid (Row wH gi 0 (marks P.length)) := HKF.out.on hbG
    have HSH : Hid (Row wH gs 0 P) := HSF.out.on hbG
    clear hrG hbG HKF HSF
    go_wp2_with fail
    refine (HM.out _ _ _ HRH.out).mono ?_
    rintro e wI ⟨x2, rfl, ⟨gh, ch, rfl, hgh, hgh', hirh, _⟩, hbI⟩
    have hwI : Below w.heap.size w wI := below_over hwH hbI
    have HHI : Hid (Row wI gh 0 P) := hirh
    have HKI : Hid (Row wI gi 0 (marks P.length)) := HKH.out.on hbI
    have HSI : Hid (Row wI gs 0 P) := HSH.out.on hbI
    clear hirh hbI HRH HKH HSH
    go_wp2_with fail
    refine (eqRows gh gs ch cs P (by omega) _ HHI.out HSI.out).mono ?_
    rintro e wJ ⟨rfl, hbJ⟩
    have hwJ : Below w.heap.size w wJ := below_over hwI hbJ
    have HKJ : Hid (Row wJ gi 0 (marks P.length)) := HKI.out.on hbJ
    clear hbJ HKI HSI HHI
    go_wp2_with fail
    refine (held_at gi ci P.length (by omega) wJ HKJ.out).mono ?_
    rintro e wJ' ⟨rfl, rfl⟩
    go_wp2
    go_ret
    exact ⟨rfl, hwJ⟩
end St
end Go.Proofs.Ytlbjnlkeagmpoaa
