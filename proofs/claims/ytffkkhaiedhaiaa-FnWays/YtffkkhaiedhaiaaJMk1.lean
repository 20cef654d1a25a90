/- Which machines are right: plainly, and the program's functions. -/
import Derived.Test.YtffkkhaiedhaiaaJMv3
import Derived.BigQuiet
namespace Go.Proofs.Ytffkkhaiedhaiaa
namespace Pg
open Go.ChangeShapes Go.WideShapes Go.ChangeAt Go.RowKit St Wd

theorem retO {p q : Bool} (h : p = q) : Ending.returned (.bool p) = .returned (.bool q) := by rw [h]
theorem implWordOkB (n : Int) (w : World) : Calls Try.prog 101 #[.int .i64 n] w fun e w' => e = .returned (.bool (okB n)) ∧ Below w.heap.size w w' :=
  (implWordOk n w).mono fun _ _ ⟨h, e⟩ => ⟨h, e ▸ Below.refl _ _⟩
theorem all_no {α : Type} {l : List α} {p : α → Bool} {k : Nat} (hk : k < l.length) (h : p l[k] = false) : l.all p = false := by
  cases h2 : l.all p
  · rfl
  · rw [List.all_eq_true.1 h2 _ (List.getElem_mem hk)] at h; cases h
theorem all_yes {α : Type} {l : List α} {p : α → Bool} {k : Nat} (hk : k < l.length) (ha : (l.take k).all p = true) (h : p l[k] = true) : (l.take (k + 1)).all p = true := by
  rw [List.take_succ_eq_append_getElem hk, List.all_append, ha]
  simp [h]
theorem all_end {α : Type} {l : List α} {p : α → Bool} {k : Nat} (hk : ¬ k < l.length) (ha : (l.take k).all p = true) : l.all p = true := by
  rw [List.take_of_length_le (by omega)] at ha
  exact ha

end Pg
end Go.Proofs.Ytffkkhaiedhaiaa

/- Which machines are right: the program's MachineOk. -/
namespace Go.Proofs.Ytffkkhaiedhaiaa
namespace Pg
open Go.ChangeShapes Go.WideShapes Go.ChangeAt Go.RowKit St Wd

theorem mach_fin_no {x : Mc} (h : (decide (0 ≤ x.fin) && decide (x.fin < 7)) = false) : machB x = false := by
  by_cases h1 : 0 ≤ x.fin
  · have : ¬ x.fin ≤ 6 := by
      simp [h1] at h
      omega
    simp [machB, this]
  · simp [machB, h1]
end Pg
end Go.Proofs.Ytffkkhaiedhaiaa
