/- The walk of the law FnExactReadCode. -/
import Derived.Test.YtfgiemhbkbllmabDoorRC2
import Derived.Test.YtfgiemhbkbllmabDoorRC3
import Derived.Test.YtfgiemhbkbllmabDoorEqR
namespace Go.Proofs.YtfgiemhbkbllmabDoor
namespace St
open Go.ChangeShapes Go.WideShapes Go.ChangeAt Go.RowKit

theorem insL_len (s : List UInt8) : (insL (Tx.readC s)).length ≤ 40 := by
  cases h : Tx.readC s with
  | none => simp [insL]
  | some l =>
    have := (Tx.readC_sound h).1
    unfold Tx.okC at this
    simp only [Bool.and_eq_true, decide_eq_true_eq] at this
    exact this.1

set_option maxHeartbeats 2000000 in
theorem readCLaw (s : ByteArray) (w : World) (hE : Env w.heap.size w) :
    Calls Tryd.prog 3 #[.string s] w fun e w' => e = .returned (.bool true) ∧ Below w.heap.size w w' := by
  by_cases hbig : (1048576 : Int) < (s.size : Int)
  · clear hE
    go_enter Tryd.func3, Tryd.ntmps3
    go_wp2
    go_ret
    exact ⟨rfl, Below.refl _ _⟩
  · have HE : Hid (Env w.heap.size w) := hE
    clear hE
    have hs : s.size ≤ 2000000 := by omega
    obtain ⟨l, q, hl, H1, H2⟩ : ∃ (l : List Tx.Ins) (q : Bool), l.length ≤ 40 ∧
        Hid (∀ w, Calls Tryd.prog 4 #[.string s] w fun e w' => ∃ v, e = .returned (.tuple #[v, .bool q]) ∧ Got w.heap.size w' v l ∧ Below w.heap.size w w') ∧
        Hid (∀ B w, B ≤ w.heap.size → Env B w → Calls Tryd.prog 5 #[.string s] w fun e w' => ∃ v, e = .returned (.tuple #[v, .bool q]) ∧ Got w.heap.size w' v l ∧ Below w.heap.size w w') :=
      ⟨_, _, insL_len s.data.toList, fun w => specReadC s w hs, fun B w hB hE => implReadC s hs B w hB hE⟩
    go_enter Tryd.func3, Tryd.ntmps3
    go_wp2_with fail
    refine (H1.out _).mono ?_
    rintro e w1 ⟨v0, rfl, ⟨g0, c0, rfl, hg0, hg0', hr0, _⟩, hb1⟩
    have HR0 : Hid (Row w1 g0 0 l) := hr0
    clear hr0
    go_wp2_with fail
    refine (H2.out w.heap.size _ hb1.size (HE.out.on hb1)).mono ?_
    rintro e w2 ⟨v1, rfl, ⟨g1, c1, rfl, hg1, hg1', hr1, hm1⟩, hb2⟩
    have hw2 : Below w.heap.size w w2 := below_over hb1 hb2
    have HR1 : Hid (Row w2 g1 0 l) := hr1
    have HM1 : Hid (Room w2 g1 (l.length * 3)) := hm1
    have HR0' : Hid (Row w2 g0 0 l) := HR0.out.on hb2
    have hne : g0 ≠ g1 := by omega
    have hg1w : w.heap.size ≤ g1 := by have := hb1.size; omega
    clear hr1 hm1 HR0 hb2
    go_wp2_with fail
    refine (eqRows g1 g0 c1 c0 l (by omega) _ HR1.out HR0'.out).mono ?_
    rintro e w3 ⟨rfl, hb3⟩
    have hw3 : Below w.heap.size w w3 := below_over hw2 hb3
    have HR03 : Hid (Row w3 g0 0 l) := HR0'.out.on hb3
    have HM3 : Hid (Room w3 g1 (l.length * 3)) := HM1.out.on hb3
    clear HR1 HM1 HR0' hb3 hw2
    go_wp2_with fail
    refine (mark_at g1 c1 l.length (by omega) _ HM3.out).mono ?_
    rintro e w4 ⟨rfl, hr4, _, ho4⟩
    have hw4 : Below w.heap.size w w4 := hw3.trans (ho4.below hg1w)
    have HR04 : Hid (Row w4 g0 0 l) := ho4.row hne HR03.out
    have HMK4 : Hid (Row w4 g1 0 (marks l.length)) := hr4
    clear hr4 ho4 HR03 HM3 hw3
    go_wp2_with fail
    refine (held_at g1 c1 l.length (by omega) _ HMK4.out).mono ?_
    rintro e w4' ⟨rfl, rfl⟩
    have hq0 : ¬ ((l.length : Int) * 3 + 1 < 0) := by omega
    go_wp2_with fail
    refine (H2.out w.heap.size _ hw4.size (HE.out.on hw4)).mono ?_
    rintro e w5 ⟨v2, rfl, ⟨g2, c2, rfl, hg2, hg2', hr2, _⟩, hb5⟩
    have hw5 : Below w.heap.size w w5 := below_over hw4 hb5
    have HR2 : Hid (Row w5 g2 0 l) := hr2
    have HR05 : Hid (Row w5 g0 0 l) := HR04.out.on hb5
    have HMK5 : Hid (Row w5 g1 0 (marks l.length)) := HMK4.out.on hb5
    clear hr2 HR04 HMK4 hb5 hw4
    go_wp2_with fail
    refine (eqRows g2 g0 c2 c0 l (by omega) _ HR2.out HR05.out).mono ?_
    rintro e w6 ⟨rfl, hb6⟩
    have hw6 : Below w.heap.size w w6 := below_over hw5 hb6
    have HMK6 : Hid (Row w6 g1 0 (marks l.length)) := HMK5.out.on hb6
    clear HR2 HR05 HMK5 hb6 hw5
    go_wp2_with fail
    refine (held_at g1 c1 l.length (by omega) _ HMK6.out).mono ?_
    rintro e w6' ⟨rfl, rfl⟩
    go_wp2
    go_ret
    exact ⟨rfl, hw6⟩
end St
end Go.Proofs.YtfgiemhbkbllmabDoor
