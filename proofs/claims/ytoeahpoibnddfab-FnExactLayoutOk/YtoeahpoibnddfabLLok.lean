/- The walk of the law FnExactLayoutOk. -/
import Derived.Test.YtoeahpoibnddfabLoA
namespace Go.Proofs.Ytoeahpoibnddfab
namespace St
open Go.ChangeShapes Go.WideShapes Go.ChangeAt Go.RowKit

set_option maxHeartbeats 2000000 in
theorem lokLaw (a a' : Option Addr) (cap cap' : Nat) (l : List Tx.Ins) (v : List Int) (hmax : l.length ≤ 9223372036854775807) (hmaxv : v.length ≤ 9223372036854775807) (w : World) (hr : 0 < l.length → ∃ b o, a = some ⟨b, o, none⟩ ∧ Row w b o l) (hi : 0 < v.length → ∃ b o, a' = some ⟨b, o, none⟩ ∧ IRow w b o v) :
    Calls Try.prog 3 #[.slice a l.length cap, .slice a' v.length cap'] w fun e w' => e = .returned (.bool true) ∧ Below w.heap.size w w' := by
  have HR : Hid (0 < l.length → ∃ b o, a = some ⟨b, o, none⟩ ∧ Row w b o l) := hr
  have HI : Hid (0 < v.length → ∃ b o, a' = some ⟨b, o, none⟩ ∧ IRow w b o v) := hi
  clear hr hi
  by_cases hbv : (1048576 : Int) < (v.length : Int)
  · go_enter Try.func3, Try.ntmps3
    go_wp2
    go_ret
    exact ⟨rfl, Below.refl _ _⟩
  · by_cases hbig : (1048576 : Int) - (l.length : Int) < 0
    · go_enter Try.func3, Try.ntmps3
      go_wp2
      go_ret
      exact ⟨rfl, Below.refl _ _⟩
    · have hl : l.length ≤ 1048576 := by omega
      have hlv : v.length ≤ 1048576 := by omega
      have hrow : ∀ {u : World}, Below w.heap.size w u → 0 < l.length → ∃ b o, a = some ⟨b, o, none⟩ ∧ Row u b o l := fun hb h0 => by
        obtain ⟨b, o, e, hx⟩ := HR.out h0
        exact ⟨b, o, e, hx.on hb⟩
      have HROW : Hid (∀ {u : World}, Below w.heap.size w u → 0 < l.length → ∃ b o, a = some ⟨b, o, none⟩ ∧ Row u b o l) := hrow
      have hirow : ∀ {u : World}, Below w.heap.size w u → 0 < v.length → ∃ b o, a' = some ⟨b, o, none⟩ ∧ IRow u b o v := fun hb h0 => by
        obtain ⟨b, o, e, hx⟩ := HI.out h0
        exact ⟨b, o, e, hx.on hb⟩
      have HIROW : Hid (∀ {u : World}, Below w.heap.size w u → 0 < v.length → ∃ b o, a' = some ⟨b, o, none⟩ ∧ IRow u b o v) := hirow
      clear hrow hirow
      obtain ⟨q, HS, HM⟩ : ∃ q : Bool,
          Hid (∀ g cap g' cap' w, Row w g 0 l → IRow w g' 0 v → Calls Try.prog 7 #[.slice (some ⟨g, 0, none⟩) l.length cap, .slice (some ⟨g', 0, none⟩) v.length cap'] w fun e w' => e = .returned (.bool q) ∧ Below w.heap.size w w') ∧
          Hid (∀ g cap g' cap' w, Row w g 0 l → IRow w g' 0 v → Calls Try.prog 10 #[.slice (some ⟨g, 0, none⟩) l.length cap, .slice (some ⟨g', 0, none⟩) v.length cap'] w fun e w' => e = .returned (.bool q) ∧ Below w.heap.size w w') :=
        ⟨_, fun g cap g' cap' w h h' => specLayoutOk g cap g' cap' l v hl w h h', fun g cap g' cap' w h h' => implLayoutOk g cap g' cap' l v hl w h h'⟩
      go_enter Try.func3, Try.ntmps3
      go_wp2_with (first | (go_at_call 6; go_in))
      refine (toRow a cap l hl _ (HROW.out (Below.refl _ _))).mono ?_
      rintro e w1 ⟨rfl, hr1, _, hb1⟩
      have HR1 : Hid (Row w1 w.heap.size 0 l) := hr1
      clear hr1
      go_wp2_with fail
      refine (toInts a' cap' v hlv _ (HIROW.out hb1)).mono ?_
      rintro e w2 ⟨rfl, hi2, _, _, hb2⟩
      have hw2 : Below w.heap.size w w2 := below_over hb1 hb2
      have HR2 : Hid (Row w2 w.heap.size 0 l) := HR1.out.on hb2
      have HI2 : Hid (IRow w2 w1.heap.size 0 v) := hi2
      clear hi2 hb2 hb1 HR1
      go_wp2_with fail
      refine (HS.out _ _ _ _ _ HR2.out HI2.out).mono ?_
      rintro e w3 ⟨rfl, hb3⟩
      have hw3 : Below w.heap.size w w3 := below_over hw2 hb3
      clear hb3 hw2 HR2 HI2
      go_wp2_with fail
      refine (toRow a cap l hl _ (HROW.out hw3)).mono ?_
      rintro e w4 ⟨rfl, hr4, _, hb4⟩
      have hw4 : Below w.heap.size w w4 := below_over hw3 hb4
      have HR4 : Hid (Row w4 w3.heap.size 0 l) := hr4
      clear hr4 hb4 hw3
      go_wp2_with fail
      refine (toInts a' cap' v hlv _ (HIROW.out hw4)).mono ?_
      rintro e w5 ⟨rfl, hi5, _, _, hb5⟩
      have hw5 : Below w.heap.size w w5 := below_over hw4 hb5
      have HI5 : Hid (IRow w5 w4.heap.size 0 v) := hi5
      have HR5 : Hid (Row w5 w3.heap.size 0 l) := HR4.out.on hb5
      clear hi5 hb5 HR4 hw4
      go_wp2_with fail
      refine (HM.out _ _ _ _ _ HR5.out HI5.out).mono ?_
      rintro e w6 ⟨rfl, hb6⟩
      have hw6 : Below w.heap.size w w6 := below_over hw5 hb6
      have HR6 : Hid (Row w6 w3.heap.size 0 l) := HR5.out.on hb6
      have HV6 : Hid (IRow w6 w4.heap.size 0 v) := HI5.out.on hb6
      clear hb6 HR5 HI5 hw5
      go_wp2_with fail
      refine (toRow a cap l hl _ (HROW.out hw6)).mono ?_
      rintro e w8 ⟨rfl, hr8, _, hb8⟩
      have hw8 : Below w.heap.size w w8 := below_over hw6 hb8
      have HQ8 : Hid (Row w8 w6.heap.size 0 l) := hr8
      have HR8 : Hid (Row w8 w3.heap.size 0 l) := HR6.out.on hb8
      have HV8 : Hid (IRow w8 w4.heap.size 0 v) := HV6.out.on hb8
      clear hr8 hb8 HR6 HV6 hw6
      go_wp2_with fail
      refine (eqRows w3.heap.size w6.heap.size l.length l.length l hl _ HR8.out HQ8.out).mono ?_
      rintro e w9 ⟨rfl, hb9⟩
      have hw9 : Below w.heap.size w w9 := below_over hw8 hb9
      have HV9 : Hid (IRow w9 w4.heap.size 0 v) := HV8.out.on hb9
      clear hb9 HR8 HV8 hw8 HQ8
      go_wp2_with fail
      refine (toInts a' cap' v hlv _ (HIROW.out hw9)).mono ?_
      rintro e wA ⟨rfl, hiA, _, _, hbA⟩
      have hwA : Below w.heap.size w wA := below_over hw9 hbA
      have HQA : Hid (IRow wA w9.heap.size 0 v) := hiA
      have HVA : Hid (IRow wA w4.heap.size 0 v) := HV9.out.on hbA
      clear hbA HV9 hw9 hiA
      go_wp2_with fail
      refine (eqInts w4.heap.size w9.heap.size v.length v.length v hlv _ HVA.out HQA.out).mono ?_
      rintro e wB ⟨rfl, hbB⟩
      have hwB : Below w.heap.size w wB := below_over hwA hbB
      clear hbB HVA hwA HQA
      go_wp2
      go_ret
      exact ⟨rfl, hwB⟩
end St
end Go.Proofs.Ytoeahpoibnddfab
