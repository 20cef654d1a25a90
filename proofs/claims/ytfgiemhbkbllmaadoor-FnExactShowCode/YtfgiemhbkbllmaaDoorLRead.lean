/- The walk of the law FnExactReadInsn. -/
import Derived.Test.YtfgiemhbkbllmaaDoorSRead
namespace Go.Proofs.YtfgiemhbkbllmaaDoor
namespace St
open Go.ChangeShapes Go.WideShapes Go.ChangeAt Go.RowKit

set_option maxHeartbeats 800000 in
theorem eqSame (op a b : Int) (w : World) :
    Calls Tryd.prog 17 #[.agg #[.int .i64 op, .int .i64 a, .int .i64 b], .agg #[.int .i64 op, .int .i64 a, .int .i64 b]] w fun e w' => e = .returned (.bool true) ∧ Below w.heap.size w w' := by
  go_enter Tryd.func17, Tryd.ntmps17
  go_wp2
  go_ret
  exact ⟨rfl, by go_grown⟩

set_option maxHeartbeats 1000000 in
theorem readLaw (s : ByteArray) (w : World) (hE : Env w.heap.size w) :
    Calls Tryd.prog 5 #[.string s] w fun e w' => e = .returned (.bool true) ∧ Below w.heap.size w w' := by
  by_cases hbig : (1048576 : Int) < (s.size : Int)
  · clear hE
    go_enter Tryd.func5, Tryd.ntmps5
    go_wp2
    go_ret
    exact ⟨rfl, by go_grown⟩
  · have HE : Hid (Env w.heap.size w) := hE
    clear hE
    have hs : s.size ≤ 2000000 := by omega
    obtain ⟨op, a, b, q, H1, H2⟩ : ∃ (op a b : Int) (q : Bool),
        Hid (∀ w, Calls Tryd.prog 12 #[.string s] w fun e w' => e = .returned (.tuple #[.agg #[.int .i64 op, .int .i64 a, .int .i64 b], .bool q]) ∧ Below w.heap.size w w') ∧
        Hid (∀ B w, B ≤ w.heap.size → Env B w → Calls Tryd.prog 11 #[.string s] w fun e w' => e = .returned (.tuple #[.agg #[.int .i64 op, .int .i64 a, .int .i64 b], .bool q]) ∧ Below w.heap.size w w') :=
      ⟨_, _, _, _, fun w => specRead s hs w, fun B w hB hE => implRead s hs B w hB hE⟩
    go_enter Tryd.func5, Tryd.ntmps5
    go_wp2_with fail
    refine (H1.out _).mono ?_
    rintro e w1 ⟨rfl, hb1⟩
    go_wp2_with fail
    refine (H2.out w.heap.size _ (by have := hb1.size; simp; omega) (HE.out.on (hb1.alloc hb1.size _))).mono ?_
    rintro e w2 ⟨rfl, hb2⟩
    have hw2 : Below w.heap.size w w2 := below_over (hb1.alloc hb1.size _) hb2
    have x2 := (Box.new w1 (.int .i64 op) (.int .i64 a) (.int .i64 b) 25).on hb2
    clear hb2
    have x3 := x2.on ((Below.refl _ _).alloc (Nat.le_refl _) (.cells #[.int .i64 op, .int .i64 a, .int .i64 b] 25))
    obtain ⟨c0, c1, c2, f0, f1, f2⟩ := x2
    obtain ⟨d0, d1, d2, _, _, _⟩ := x3
    go_wp2_with fail
    refine (eqSame op a b _).mono ?_
    rintro e w3 ⟨rfl, hb3⟩
    have hw3 : Below w.heap.size w w3 := below_over (hw2.alloc hw2.size _) hb3
    clear hb3
    go_wp2
    go_ret
    exact ⟨rfl, hw3⟩
end St
end Go.Proofs.YtfgiemhbkbllmaaDoor
