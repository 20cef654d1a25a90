/- The walk of the law FnExactKnown. -/
import Derived.Test.YthabenjodhjgiaaKw1
namespace Go.Proofs.Ythabenjodhjgiaa
namespace St
open Go.ChangeShapes Go.WideShapes Go.ChangeAt Go.RowKit Pg

set_option maxHeartbeats 2000000 in
theorem knoLaw (a : Option Addr) (cap : Nat) (l : List Tx.Ins) (hmax : l.length ≤ 9223372036854775807) (w : World) (hr : 0 < l.length → ∃ b o, a = some ⟨b, o, none⟩ ∧ Row w b o l) :
    Calls Try.prog 3 #[.slice a l.length cap] w fun e w' => e = .returned (.bool true) ∧ Below w.heap.size w w' := by
  have HR : Hid (0 < l.length → ∃ b o, a = some ⟨b, o, none⟩ ∧ Row w b o l) := hr
  clear hr
  by_cases hbig : (1048576 : Int) - (l.length : Int) < 0
  · go_enter Try.func3, Try.ntmps3
    go_wp2
    go_ret
    exact ⟨rfl, Below.refl _ _⟩
  · have hl : l.length ≤ 1048576 := by omega
    have hrow : ∀ {u : World}, Below w.heap.size w u → 0 < l.length → ∃ b o, a = some ⟨b, o, none⟩ ∧ Row u b o l := fun hb h0 => by
      obtain ⟨b, o, e, hx⟩ := HR.out h0
      exact ⟨b, o, e, hx.on hb⟩
    have HROW : Hid (∀ {u : World}, Below w.heap.size w u → 0 < l.length → ∃ b o, a = some ⟨b, o, none⟩ ∧ Row u b o l) := hrow
    clear hrow
    obtain ⟨n, K, hn, HA, HS, HM⟩ : ∃ (n : Nat) (K : Kw), n ≤ 41 ∧ Hid (AllK n K) ∧
        Hid (∀ g cap w, Row w g 0 l → Calls Try.prog 10 #[.slice (some ⟨g, 0, none⟩) l.length cap] w fun e w' => ∃ G c f cp, e = .returned (.slice (some ⟨G, 0, none⟩) n c) ∧ RowsK w.heap.size w' G n K f cp ∧ Below w.heap.size w w') ∧
        Hid (∀ g cap w, Row w g 0 l → Calls Try.prog 12 #[.slice (some ⟨g, 0, none⟩) l.length cap] w fun e w' => ∃ G c f cp, e = .returned (.slice (some ⟨G, 0, none⟩) n c) ∧ w.heap.size ≤ G ∧ RowsK w.heap.size w' G n K f cp ∧ Below w.heap.size w w') :=
      ⟨nK l, wdK l, nK_le l, wdK_all l _, fun g cap w h => (specKnown g cap l hl w h).mono (by rintro e w' ⟨x, rfl, ⟨G, c, f, cp, rfl, h1⟩, h2⟩; exact ⟨G, c, f, cp, rfl, h1, h2⟩),
        fun g cap w h => (implKnown g cap l hl w h).mono (by rintro e w' ⟨x, rfl, ⟨G, c, f, cp, rfl, h0, h1⟩, h2⟩; exact ⟨G, c, f, cp, rfl, h0, h1, h2⟩)⟩
    go_enter Try.func3, Try.ntmps3
    go_wp2_with (first | (go_at_call 9; go_in))
    refine (toRow a cap l hl _ (HROW.out (Below.refl _ _))).mono ?_
    rintro e w1 ⟨rfl, hr1, _, hb1⟩
    have HR1 : Hid (Row w1 w.heap.size 0 l) := hr1
    clear hr1
    go_wp2_with fail
    refine (HS.out _ _ _ HR1.out).mono ?_
    rintro e w3 ⟨gs, cs, fs, cps, rfl, hsr, hb3⟩
    have hw3 : Below w.heap.size w w3 := below_over hb1 hb3
    have HS3 : Hid (RowsK w1.heap.size w3 gs n K fs cps) := hsr
    clear hsr hb3 hb1 HR1
    go_wp2_with fail
    refine (toRowS a cap l hl _ (HROW.out hw3)).mono ?_
    rintro e w4 ⟨rfl, hr4, hm4, hlt4, hb4⟩
    have hw4 : Below w.heap.size w w4 := below_over hw3 hb4
    have HR5 : Hid (Row w4 w3.heap.size 0 l) := hr4
    have HN5 : Hid (Room w4 w3.heap.size (l.length * 3)) := hm4
    have hx3 := hw3.size
    have hx4 := hb4.size
    have hS4 : Below w3.heap.size w3 w4 := hb4
    clear hr4 hm4 hb4
    go_wp2_with fail
    refine (HM.out _ _ _ HR5.out).mono ?_
    rintro e w6 ⟨gi, ci, fi, cpi, rfl, hgi, hir, hb6⟩
    have hw6 : Below w.heap.size w w6 := below_over hw4 hb6
    have hS6 : Below w3.heap.size w3 w6 := below_over hS4 hb6
    have HI6 : Hid (RowsK w4.heap.size w6 gi n K fi cpi) := hir
    have HR6 : Hid (Row w6 w3.heap.size 0 l) := HR5.out.on hb6
    have HN6 : Hid (Room w6 w3.heap.size (l.length * 3)) := HN5.out.on hb6
    have hx6 := hb6.size
    clear hir hb6 HR5 HN5 hw4 hS4
    go_wp2_with fail
    refine (eqSS n gi gs ci cs hn K HA.out fi cpi fs cps _ _ w6 HI6.out (HS3.out.on hS6)).mono ?_
    rintro e w7 ⟨rfl, hb7⟩
    have hw7 : Below w.heap.size w w7 := below_over hw6 hb7
    have hS7 : Below w3.heap.size w3 w7 := below_over hS6 hb7
    have HI7 : Hid (RowsK w4.heap.size w7 gi n K fi cpi) := HI6.out.on hb7
    have HR7 : Hid (Row w7 w3.heap.size 0 l) := HR6.out.on hb7
    have HN7 : Hid (Room w7 w3.heap.size (l.length * 3)) := HN6.out.on hb7
    clear hb7 HI6 HR6 HN6 hw6 hS6
    go_wp2_with fail
    refine (toRow a cap l hl _ (HROW.out hw7)).mono ?_
    rintro e w8 ⟨rfl, hr8, _, hb8⟩
    have hw8 : Below w.heap.size w w8 := below_over hw7 hb8
    have hS8 : Below w3.heap.size w3 w8 := below_over hS7 hb8
    have HQ8 : Hid (Row w8 w7.heap.size 0 l) := hr8
    have HI8 : Hid (RowsK w4.heap.size w8 gi n K fi cpi) := HI7.out.on hb8
    have HR8 : Hid (Row w8 w3.heap.size 0 l) := HR7.out.on hb8
    have HN8 : Hid (Room w8 w3.heap.size (l.length * 3)) := HN7.out.on hb8
    clear hr8 hb8 HI7 HR7 HN7 hw7 hS7
    go_wp2_with fail
    refine (eqRows w3.heap.size w7.heap.size l.length l.length l hl _ HR8.out HQ8.out).mono ?_
    rintro e wB ⟨rfl, hbB⟩
    have hwB : Below w.heap.size w wB := below_over hw8 hbB
    have hSB : Below w3.heap.size w3 wB := below_over hS8 hbB
    have HIB : Hid (RowsK w4.heap.size wB gi n K fi cpi) := HI8.out.on hbB
    have HNB : Hid (Room wB w3.heap.size (l.length * 3)) := HN8.out.on hbB
    clear hbB HI8 HR8 HN8 hw8 HQ8 hS8
    have n1 : gi ≠ w3.heap.size := by omega
    have m3 : w.heap.size ≤ w3.heap.size := hx3
    go_wp2_with fail
    refine (mark_at w3.heap.size l.length l.length hl _ HNB.out).mono ?_
    rintro e wD ⟨rfl, _, _, hoC⟩
    have hwD : Below w.heap.size w wD := hwB.trans (hoC.below m3)
    have hSD : Below w3.heap.size w3 wD := hSB.trans (hoC.below (Nat.le_refl _))
    have HID : Hid (RowsK w4.heap.size wD gi n K fi cpi) := HIB.out.only hoC n1 hlt4
    clear hoC HIB HNB hwB hSB
    have hneg : ¬ ((l.length : Int) * 3 + 1 < 0) := by omega
    go_wp2_with fail
    refine (eqSS n gi gs ci cs hn K HA.out fi cpi fs cps _ _ wD HID.out (HS3.out.on hSD)).mono ?_
    rintro e wE ⟨rfl, hbE⟩
    have hwE : Below w.heap.size w wE := below_over hwD hbE
    have hSE : Below w3.heap.size w3 wE := below_over hSD hbE
    have HIE : Hid (RowsK w4.heap.size wE gi n K fi cpi) := HID.out.on hbE
    clear hbE HID hwD hSD
    go_wp2_with fail
    refine (markSS n gi ci 1 hn (by omega) K HA.out fi cpi _ wE HIE.out).mono ?_
    rintro e wF ⟨rfl, hiF, hbF⟩
    have hwF : Below w.heap.size w wF := hwE.trans (hbF.mono (by omega))
    have hSF : Below w3.heap.size w3 wF := hSE.trans (hbF.mono hx4)
    have HKF : Hid (RowsK w4.heap.size wF gi n (mkK K 1 n) fi cpi) := hiF
    clear hiF hbF HIE hwE hSE
    go_wp2_with fail
    refine (heldSS n gi ci 1 hn (by omega) K HA.out fi cpi _ wF HKF.out).mono ?_
    rintro e wF' ⟨rfl, rfl⟩
    have hq0 : ¬ (((1 : Nat) : Int) + 8 * (n : Int) < 0) := by omega
    go_wp2_with fail
    refine (toRow a cap l hl _ (HROW.out hwF)).mono ?_
    rintro e wH ⟨rfl, hrG, _, hbG⟩
    have hwH : Below w.heap.size w wH := below_over hwF hbG
    have hSH : Below w3.heap.size w3 wH := below_over hSF hbG
    have HRH : Hid (Row wH wF.heap.size 0 l) := hrG
    have HKH : Hid (RowsK w4.heap.size wH gi n (mkK K 1 n) fi cpi) := HKF.out.on hbG
    clear hrG hbG HKF
    go_wp2_with fail
    refine (HM.out _ _ _ HRH.out).mono ?_
    rintro e wI ⟨gh, ch, fh, cph, rfl, hgh, hirh, hbI⟩
    have hwI : Below w.heap.size w wI := below_over hwH hbI
    have hSI : Below w3.heap.size w3 wI := below_over hSH hbI
    have HHI : Hid (RowsK wH.heap.size wI gh n K fh cph) := hirh
    have HKI : Hid (RowsK w4.heap.size wI gi n (mkK K 1 n) fi cpi) := HKH.out.on hbI
    clear hirh hbI HRH HKH
    go_wp2_with fail
    refine (eqSS n gh gs ch cs hn K HA.out fh cph fs cps _ _ wI HHI.out (HS3.out.on hSI)).mono ?_
    rintro e wJ ⟨rfl, hbJ⟩
    have hwJ : Below w.heap.size w wJ := below_over hwI hbJ
    have HKJ : Hid (RowsK w4.heap.size wJ gi n (mkK K 1 n) fi cpi) := HKI.out.on hbJ
    clear hbJ HKI HHI
    go_wp2_with fail
    refine (heldSS n gi ci 1 hn (by omega) K HA.out fi cpi _ wJ HKJ.out).mono ?_
    rintro e wJ' ⟨rfl, rfl⟩
    go_wp2
    go_ret
    exact ⟨rfl, hwJ⟩
end St
end Go.Proofs.Ythabenjodhjgiaa
