/- The contracts of the drawn numbers of stage 1, and of the laws' own helpers. -/
import Derived.Test.YtmadhhjdplekaaaCur4
namespace Go.Proofs.Ytmadhhjdplekaaa
namespace Cu
open Go.ChangeShapes Go.WideShapes Go.ChangeAt Go.RowKit

theorem drawAny_row {w w2 : World} {c : Nat} {t : TypeId} (r : Int) (h0 : 0 ≤ r) (h1 : r < 4) (hc : c < w.heap.size)
    (ht : Touch c (w.alloc (.cells #[.int .i64 2147483648, .int .i64 (-2147483649), .int .i64 4611686018427387904, .int .i64 (-9223372036854775808)] t)) w2) :
    ∃ v : Int, w2.cell? ⟨w.heap.size, r.toNat, none⟩ = some (.int .i64 v) := by
  obtain ⟨k, rfl⟩ := Int.eq_ofNat_of_zero_le h0
  rw [Int.toNat_natCast, ht.cell (p := ⟨w.heap.size, k, none⟩) (by simp) (by simp; omega)]
  have hk : k = 0 ∨ k = 1 ∨ k = 2 ∨ k = 3 := by omega
  rcases hk with rfl | rfl | rfl | rfl
  all_goals exact ⟨_, by simp [go_sem]; rfl⟩

set_option maxHeartbeats 400000 in
theorem drawAny_at (B c : Nat) (w0 w : World) (a : Option Addr) (len cap : Nat) (h : At B w0 w c a len cap) :
    Calls Try.prog 26 #[.pointer (some ⟨c, 0, none⟩)] w fun e w' => ∃ r : Int, e = .returned (.int .i64 r) ∧ At B w0 w' c a len cap := by
  go_enter Try.func26, Try.ntmps26
  go_wp2_with (go_at_call 36; refine (once_at B c w0 _ a len cap _ (by assumption)).mono ?_; rintro e w1 ⟨r, rfl, h1⟩; cases r)
  · refine (drawWord_at B c w0 _ a len cap h1).mono ?_
    rintro e w2 ⟨r, rfl, hr0, hr1, h2⟩
    go_wp2
    go_ret
    exact ⟨_, rfl, h2⟩
  · refine (below_at B c _ _ a len cap _ ⟨Touch.refl _ _, h1.2.alloc _⟩).mono ?_
    rintro e w2 ⟨r, rfl, hr0, hr1, hr2, hr3, ht, h2⟩
    have hr := hr2 (by omega)
    clear hr2 hr3
    obtain ⟨v, hv⟩ := drawAny_row r hr0 hr h1.2.2.1 ht
    have hT : Touch c w0 w2 := (h1.1.alloc _).trans ht
    go_wp2
    go_ret
    exact ⟨_, rfl, hT, h2⟩

theorem At.start {B c : Nat} {w : World} {a : Option Addr} {len cap : Nat} (h : Cur B w c a len cap) : At B w w c a len cap := ⟨Touch.refl _ _, h⟩
theorem At.below {B c : Nat} {u v w : World} {a : Option Addr} {len cap : Nat} (h : At B v w c a len cap) (hb : Below u.heap.size u v) (hc : u.heap.size ≤ c) : Below u.heap.size u w :=
  hb.trans (h.1.below hc hb.size)

set_option maxHeartbeats 400000 in
theorem drawPlus_at (B : Nat) (w : World) (a : Option Addr) (len cap : Nat) (hB : Bytes B w a len) (hs : B ≤ w.heap.size) :
    Calls Try.prog 10 #[.slice a len cap] w fun e w' => ∃ x y : Int, e = .returned (.tuple #[.int .i64 x, .int .i64 y]) ∧ Below w.heap.size w w' := by
  go_enter Try.func10, Try.ntmps10
  go_wp2_with fail
  refine (new_at B _ a len cap hB hs).mono ?_
  rintro e w1 ⟨c, rfl, hc, hb, h1⟩
  have h1 := At.start h1
  go_wp2_with (go_at_call 26; refine (drawAny_at B c w1 _ a len cap (by assumption)).mono ?_; rintro e w2 ⟨r, rfl, h2⟩)
  go_ret2
  exact ⟨_, _, rfl, h2.below hb hc⟩

set_option maxHeartbeats 400000 in
theorem drawWrap_at (B : Nat) (w : World) (a : Option Addr) (len cap : Nat) (hB : Bytes B w a len) (hs : B ≤ w.heap.size) :
    Calls Try.prog 15 #[.slice a len cap] w fun e w' => ∃ x : Int, e = .returned (.int .i64 x) ∧ Below w.heap.size w w' := by
  go_enter Try.func15, Try.ntmps15
  go_wp2_with fail
  refine (new_at B _ a len cap hB hs).mono ?_
  rintro e w1 ⟨c, rfl, hc, hb, h1⟩
  have h1 := At.start h1
  go_wp2_with (first | (go_at_call 26; refine (drawAny_at B c w1 _ a len cap (by assumption)).mono ?_; rintro e w2 ⟨r, rfl, h2⟩) | (go_at_call 33; refine (below_at B c w1 _ a len cap _ (by assumption)).mono ?_; rintro e w2 ⟨r, rfl, hr0, hr1, hr2, hr3, h2⟩))
  go_ret
  exact ⟨_, rfl, h2.below hb hc⟩

theorem big_at (w : World) (a : Option Addr) (len cap : Nat) :
    Calls Try.prog 9 #[.slice a len cap] w fun e w' => e = .returned (.bool (decide ((4096 : Int) < (len : Int)))) ∧ w = w' := by
  go_enter Try.func9, Try.ntmps9
  go_wp2
  go_ret
  exact ⟨rfl, rfl⟩
end Cu
end Go.Proofs.Ytmadhhjdplekaaa
