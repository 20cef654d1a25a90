/- The contracts of the drawn numbers of stage 1, and of the laws' own helpers. -/
import Derived.Test.YtbachkjhmenhfaaCur4
namespace Go.Proofs.Ytbachkjhmenhfaa
namespace Cu
open Go.ChangeShapes Go.WideShapes Go.ChangeAt Go.RowKit

theorem At.start {B c : Nat} {w : World} {a : Option Addr} {len cap : Nat} (h : Cur B w c a len cap) : At B w w c a len cap := ⟨Touch.refl _ _, h⟩
theorem At.below {B c : Nat} {u v w : World} {a : Option Addr} {len cap : Nat} (h : At B v w c a len cap) (hb : Below u.heap.size u v) (hc : u.heap.size ≤ c) : Below u.heap.size u w :=
  hb.trans (h.1.below hc hb.size)

theorem big_at (w : World) (a : Option Addr) (len cap : Nat) :
    Calls Try.prog 9 #[.slice a len cap] w fun e w' => e = .returned (.bool (decide ((4096 : Int) < (len : Int)))) ∧ w = w' := by
  go_enter Try.func9, Try.ntmps9
  go_wp2
  go_ret
  exact ⟨rfl, rfl⟩
end Cu
end Go.Proofs.Ytbachkjhmenhfaa
