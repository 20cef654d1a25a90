/- The contract of the cursor's next byte. -/
import Derived.Test.YtbachkjhmenhfaaCur0
import Derived.BigQuiet
import Derived.Deep.QuietTactic
namespace Go.Proofs.Ytbachkjhmenhfaa
namespace Cu
open Go.ChangeShapes Go.WideShapes Go.ChangeAt Go.RowKit

set_option maxHeartbeats 400000 in
theorem byte_any (B c : Nat) (w : World) (a : Option Addr) (len cap : Nat) (hcur : Cur B w c a len cap) :
    Calls Try.prog 52 #[.pointer (some ⟨c, 0, none⟩)] w fun e w' => ∃ r : Int, e = .returned (.int .i64 r) ∧ 0 ≤ r ∧ r ≤ 255 ∧ Touch c w w' ∧ Cur B w' c a len cap := by
  have HC : Hid (Cur B w c a len cap) := hcur
  obtain ⟨h0, h1, h2, ⟨i, hi, h3⟩, ⟨g, h4⟩, h5, h6, hB⟩ := hcur
  by_cases hlt : i < len
  · obtain ⟨b, off, z, rfl, hbB, hcz, hz0, hz1⟩ := hB.2 i hlt
    have hlt' : (i : Int) < (len : Int) := by omega
    have hl := hB.1
    go_enter Try.func52, Try.ntmps52
    go_wp2
    go_quiet (fail)
    go_wp2
    go_quiet (fail)
    go_wp2
    go_quiet (fail)
    go_wp2
    go_ret
    refine ⟨_, rfl, ?_, ?_, ?_, ?_⟩
    · exact (and255_bd _).1
    · exact (and255_bd _).2
    · exact (((Touch.refl c w).setCell 2 _).drewN _).setCell 1 _
    · exact ((HC.out.set2 _).drewN _).set1 (i + 1) (by omega) _ (by omega)
  · have hlt' : ¬ (i : Int) < (len : Int) := by omega
    go_enter Try.func52, Try.ntmps52
    go_wp2
    go_quiet (fail)
    go_wp2
    go_quiet (fail)
    go_wp2
    go_ret
    refine ⟨_, rfl, ?_, ?_, ?_, ?_⟩
    · exact (and255_bd _).1
    · exact (and255_bd _).2
    · exact (((Touch.refl c w).setCell 2 _).drewN _).drewN _
    · exact ((HC.out.set2 _).drewN _).drewN _
end Cu
end Go.Proofs.Ytbachkjhmenhfaa
