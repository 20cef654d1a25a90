/- The contracts of the drawn words and of the drawn numbers. -/
import Derived.Test.YtbgbddahniacbaaGreatDoorJCur3
namespace Go.Proofs.YtbgbddahniacbaaGreatDoor
namespace Cu
open Go.ChangeShapes Go.WideShapes Go.ChangeAt Go.RowKit

theorem drawWord_row {w w2 : World} {c : Nat} {t : TypeId} (r : Int) (h0 : 0 ≤ r) (h1 : r < 8) (hc : c < w.heap.size)
    (ht : Touch c (w.alloc (.cells #[.int .i64 2147483647, .int .i64 (-2147483648), .int .i64 0, .int .i64 1, .int .i64 (-1), .int .i64 128, .int .i64 (-129), .int .i64 65536] t)) w2) :
    ∃ v : Int, w2.cell? ⟨w.heap.size, r.toNat, none⟩ = some (.int .i64 v) ∧ -2147483648 ≤ v ∧ v ≤ 2147483647 := by
  obtain ⟨k, rfl⟩ := Int.eq_ofNat_of_zero_le h0
  rw [Int.toNat_natCast, ht.cell (p := ⟨w.heap.size, k, none⟩) (by simp) (by simp; omega)]
  have hk : k = 0 ∨ k = 1 ∨ k = 2 ∨ k = 3 ∨ k = 4 ∨ k = 5 ∨ k = 6 ∨ k = 7 := by omega
  rcases hk with rfl | rfl | rfl | rfl | rfl | rfl | rfl | rfl
  all_goals exact ⟨_, by simp [go_sem]; rfl, by omega, by omega⟩

set_option maxHeartbeats 400000 in
theorem drawWord_at (B c : Nat) (w0 w : World) (a : Option Addr) (len cap : Nat) (h : At B w0 w c a len cap) :
    Calls Tryz.prog 81 #[.pointer (some ⟨c, 0, none⟩)] w fun e w' => ∃ r : Int, e = .returned (.int .i64 r) ∧ -2147483648 ≤ r ∧ r ≤ 2147483647 ∧ At B w0 w' c a len cap := by
  go_enter Tryz.func81, Tryz.ntmps81
  go_wp2_with (go_at_call 44; refine (once_at B c w0 _ a len cap _ (by assumption)).mono ?_; rintro e w1 ⟨r, rfl, h1⟩; cases r)
  · refine (below_at B c w0 _ a len cap _ h1).mono ?_
    rintro e w2 ⟨r, rfl, hr0, hr1, hr2, hr3, h2⟩
    have hr := hr2 (by omega)
    clear hr2 hr3
    go_wp2
    go_ret
    exact ⟨_, rfl, by omega, by omega, h2⟩
  · refine (below_at B c _ _ a len cap _ ⟨Touch.refl _ _, h1.2.alloc _⟩).mono ?_
    rintro e w2 ⟨r, rfl, hr0, hr1, hr2, hr3, ht, h2⟩
    have hr := hr2 (by omega)
    clear hr2 hr3
    obtain ⟨v, hv, hv0, hv1⟩ := drawWord_row r hr0 hr h1.2.2.1 ht
    have hT : Touch c w0 w2 := (h1.1.alloc _).trans ht
    go_wp2
    go_ret
    exact ⟨_, rfl, hv0, hv1, hT, h2⟩
end Cu
end Go.Proofs.YtbgbddahniacbaaGreatDoor

/- The contracts of the drawn numbers of stage 1, and of the laws' own helpers. -/
namespace Go.Proofs.YtbgbddahniacbaaGreatDoor
namespace Cu
open Go.ChangeShapes Go.WideShapes Go.ChangeAt Go.RowKit

theorem At.start {B c : Nat} {w : World} {a : Option Addr} {len cap : Nat} (h : Cur B w c a len cap) : At B w w c a len cap := ⟨Touch.refl _ _, h⟩
theorem At.below {B c : Nat} {u v w : World} {a : Option Addr} {len cap : Nat} (h : At B v w c a len cap) (hb : Below u.heap.size u v) (hc : u.heap.size ≤ c) : Below u.heap.size u w :=
  hb.trans (h.1.below hc hb.size)

theorem big_at (w : World) (a : Option Addr) (len cap : Nat) :
    Calls Tryz.prog 4 #[.slice a len cap] w fun e w' => e = .returned (.bool (decide ((4096 : Int) < (len : Int)))) ∧ w = w' := by
  go_enter Tryz.func4, Tryz.ntmps4
  go_wp2
  go_ret
  exact ⟨rfl, rfl⟩
end Cu
end Go.Proofs.YtbgbddahniacbaaGreatDoor
