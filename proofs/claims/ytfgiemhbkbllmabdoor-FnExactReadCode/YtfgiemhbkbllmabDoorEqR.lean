/- The contract of the laws' comparison of two rows of steps that hold the same. -/
import Derived.Test.YtfgiemhbkbllmabDoorCode0
import Derived.Test.YtfgiemhbkbllmabDoorLRead
namespace Go.Proofs.YtfgiemhbkbllmabDoor
namespace St
open Go.ChangeShapes Go.WideShapes Go.ChangeAt Go.RowKit

set_option maxHeartbeats 1000000 in
theorem eqRows (g g' cap cap' : Nat) (l : List Tx.Ins) (hl : l.length ≤ 1048576) (w : World) (h1 : Row w g 0 l) (h2 : Row w g' 0 l) :
    Calls Tryd.prog 6 #[.slice (some ⟨g, 0, none⟩) l.length cap, .slice (some ⟨g', 0, none⟩) l.length cap'] w fun e w' => e = .returned (.bool true) ∧ Below w.heap.size w w' := by
  have H1 : Hid (Row w g 0 l) := h1
  have H2 : Hid (Row w g' 0 l) := h2
  clear h1 h2
  go_enter Tryd.func6, Tryd.ntmps6
  go_wp2
  go_loopw [5] (fun i wr => ∃ k : Nat, k ≤ l.length ∧ i = .int .i64 k ∧ Below w.heap.size w wr) (fun i _ => l.length - (intOf i).toNat)
  case atStart => exact ⟨0, Nat.zero_le _, rfl, Below.refl _ _⟩
  case round =>
    obtain ⟨k, hk, rfl, hb⟩ := hrel
    by_cases hlt : k < l.length
    · obtain ⟨a0, a1, a2⟩ := H1.out.on hb k _ (List.getElem?_eq_getElem hlt)
      obtain ⟨b0, b1, b2⟩ := H2.out.on hb k _ (List.getElem?_eq_getElem hlt)
      generalize l[k] = x at *
      simp only [Nat.zero_add] at a0 a1 a2 b0 b1 b2
      have hki : (k : Int) < (l.length : Int) := by omega
      have hki0 : (0 : Int) ≤ (k : Int) := by omega
      have r0 := cell_regrown a0
      have r1 := cell_regrown a1
      have r2 := cell_regrown a2
      have s0 := cell_regrown b0
      have s1 := cell_regrown b1
      have s2 := cell_regrown b2
      have cE : ∀ d os, Calls Tryd.prog 13 #[.agg #[.int .i64 x.1, .int .i64 x.2.1, .int .i64 x.2.2], .agg #[.int .i64 x.1, .int .i64 x.2.1, .int .i64 x.2.2]] (Sort.grow (redrawn wr d) os) fun e w'' => e = .returned (.bool true) ∧ ∃ p : Regrown, w'' = Sort.grow (redrawn wr p.d) p.os := fun d os => Calls.regrown_of (eqSame x.1 x.2.1 x.2.2 _)
      go_wp2_with fail
      refine wp_region_quiet_below (by kernel_rfl) (by kernel_rfl) ?_
      repeat (quiet_step ((go_at_call 13; exact cE _ _)))
      refine wpQuiet_nil ?_
      intro _ hw'
      obtain ⟨⟨dq, osq⟩, hw''⟩ := hw'
      subst hw''
      have hw1 : Below w.heap.size w (Sort.grow (redrawn wr dq) osq) := below_over hb (below_regrown wr dq osq)
      clear a0 a1 a2 b0 b1 b2 r0 r1 r2 s0 s1 s2 cE hb
      generalize Sort.grow (redrawn wr dq) osq = w1 at *
      go_wp2
      go_roundw
      case rel => exact ⟨k + 1, by omega, by go_num, hw1⟩
      case measure => simp [intOf]; omega
    · go_wp2
      go_ret
      exact ⟨rfl, hb⟩

end St
end Go.Proofs.YtfgiemhbkbllmabDoor
