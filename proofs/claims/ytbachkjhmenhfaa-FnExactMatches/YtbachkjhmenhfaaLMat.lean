/- The walk of the law FnExactMatches. -/
import Derived.Test.YtbachkjhmenhfaaGm4
import Derived.Test.YtbachkjhmenhfaaGm5
namespace Go.Proofs.Ytbachkjhmenhfaa
namespace St
open Go.ChangeShapes Go.WideShapes Go.ChangeAt Go.RowKit

set_option maxHeartbeats 1000000 in
theorem matLaw (p t : ByteArray) (w : World) :
    Calls Try.prog 5 #[.string p, .string t] w fun e w' => e = .returned (.bool true) ∧ Below w.heap.size w w' := by
  obtain ⟨P, HS, HM⟩ : ∃ P : Bool,
      Hid (∀ w, Calls Try.prog 12 #[.string p, .string t] w fun e w' => e = .returned (.bool P) ∧ Below w.heap.size w w') ∧
      Hid (∀ w, Calls Try.prog 11 #[.string p, .string t] w fun e w' => e = .returned (.bool P) ∧ Below w.heap.size w w') :=
    ⟨Pg.matM p.data.toList t.data.toList, fun w => Pg.specMatches p t w, fun w => Pg.implMatches p t w⟩
  by_cases h1 : (1048576 : Int) < (p.size : Int)
  · go_enter Try.func5, Try.ntmps5
    go_wp2
    go_ret
    exact ⟨rfl, Below.refl _ _⟩
  · by_cases h2 : (1048576 : Int) < (t.size : Int)
    · go_enter Try.func5, Try.ntmps5
      go_wp2
      go_ret
      exact ⟨rfl, Below.refl _ _⟩
    · go_enter Try.func5, Try.ntmps5
      go_wp2_with fail
      refine (HS.out _).mono ?_
      rintro e w1 ⟨rfl, hb1⟩
      go_wp2_with fail
      refine (HM.out _).mono ?_
      rintro e w2 ⟨rfl, hb2⟩
      have hb3 := below_over hb1 hb2
      clear hb1 hb2
      go_wp2
      go_ret
      exact ⟨rfl, hb3⟩
end St
end Go.Proofs.Ytbachkjhmenhfaa
