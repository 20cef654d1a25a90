/- The walk of the law FnExactEndUp. -/
import Derived.Test.YtlbjnlkeagmpoaaTh6
namespace Go.Proofs.Ytlbjnlkeagmpoaa
namespace St
open Go.ChangeShapes Go.WideShapes Go.ChangeAt Go.RowKit

set_option maxHeartbeats 1000000 in
theorem eupLaw (a : Option Addr) (cap : Nat) (l : List Tx.Ins) (n1 : Int) (hmax : l.length ≤ 9223372036854775807) (w : World) (hr : 0 < l.length → ∃ b o, a = some ⟨b, o, none⟩ ∧ Row w b o l) :
    Calls Try.prog 3 #[.slice a l.length cap, .int .i64 n1] w fun e w' => e = .returned (.bool true) ∧ Below w.heap.size w w' := by
  have HR : Hid (0 < l.length → ∃ b o, a = some ⟨b, o, none⟩ ∧ Row w b o l) := hr
  clear hr
  by_cases hbig : (1048576 : Int) - (l.length : Int) < 0
  · go_enter Try.func3, Try.ntmps3
    go_wp2
    go_ret
    exact ⟨rfl, Below.refl _ _⟩
  · have hl : l.length ≤ 1048576 := by omega
    have hrow : ∀ {u : World}, Below w.heap.size w u → 0 < l.length → ∃ b o, a = some ⟨b, o, none⟩ ∧ Row u b o l := fun hb h0 => by
      obtain ⟨b, o, e, hx⟩ := HR.out h0
      exact ⟨b, o, e, hx.on hb⟩
    have HROW : Hid (∀ {u : World}, Below w.heap.size w u → 0 < l.length → ∃ b o, a = some ⟨b, o, none⟩ ∧ Row u b o l) := hrow
    clear hrow
    obtain ⟨P, HS, HM⟩ : ∃ P : Int,
        Hid (∀ g cap w, Row w g 0 l → Calls Try.prog 9 #[.slice (some ⟨g, 0, none⟩) l.length cap, .int .i64 n1] w fun e w' => e = .returned (.int .i64 P) ∧ Below w.heap.size w w') ∧
        Hid (∀ g cap w, Row w g 0 l → Calls Try.prog 11 #[.slice (some ⟨g, 0, none⟩) l.length cap, .int .i64 n1] w fun e w' => e = .returned (.int .i64 P) ∧ Below w.heap.size w w') :=
      ⟨Pg.endA l n1, fun g cap w h => Pg.specEndUp g cap l n1 hl w h, fun g cap w h => Pg.implEndUp g cap l n1 hl w h⟩
    go_enter Try.func3, Try.ntmps3
    go_wp2_with (first | (go_at_call 8; go_in))
    refine (toRow a cap l hl _ (HROW.out (Below.refl _ _))).mono ?_
    rintro e w1 ⟨rfl, hr1, _, hb1⟩
    have HR1 : Hid (Row w1 w.heap.size 0 l) := hr1
    clear hr1
    go_wp2_with fail
    refine (HS.out _ _ _ HR1.out).mono ?_
    rintro e w2 ⟨rfl, hb2⟩
    have hw2 : Below w.heap.size w w2 := below_over hb1 hb2
    clear hb2 hb1 HR1
    go_wp2_with fail
    refine (toRow a cap l hl _ (HROW.out hw2)).mono ?_
    rintro e w3 ⟨rfl, hr3, _, hb3⟩
    have HR3 : Hid (Row w3 w2.heap.size 0 l) := hr3
    have hw3 : Below w.heap.size w w3 := below_over hw2 hb3
    clear hr3 hb3
    go_wp2_with fail
    refine (HM.out _ _ _ HR3.out).mono ?_
    rintro e w4 ⟨rfl, hb4⟩
    have hw4 : Below w.heap.size w w4 := below_over hw3 hb4
    have HR4 : Hid (Row w4 w2.heap.size 0 l) := HR3.out.on hb4
    clear hb4 HR3 hw3
    go_wp2_with fail
    refine (toRow a cap l hl _ (HROW.out hw4)).mono ?_
    rintro e w5 ⟨rfl, hr5, _, hb5⟩
    have hw5 : Below w.heap.size w w5 := below_over hw4 hb5
    have HR5 : Hid (Row w5 w4.heap.size 0 l) := hr5
    have HR6 : Hid (Row w5 w2.heap.size 0 l) := HR4.out.on hb5
    clear hr5 hb5 HR4 hw4
    go_wp2_with fail
    refine (eqRows w2.heap.size w4.heap.size l.length l.length l hl _ HR6.out HR5.out).mono ?_
    rintro e w6 ⟨rfl, hb6⟩
    have hw6 : Below w.heap.size w w6 := below_over hw5 hb6
    clear hb6
    go_wp2
    go_ret
    exact ⟨rfl, hw6⟩
end St
end Go.Proofs.Ytlbjnlkeagmpoaa
