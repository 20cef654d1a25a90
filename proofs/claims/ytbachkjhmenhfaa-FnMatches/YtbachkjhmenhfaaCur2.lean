/- The contracts of the cursor's numbers below a bound, and of its coin. -/
import Derived.Test.YtbachkjhmenhfaaCur1
namespace Go.Proofs.Ytbachkjhmenhfaa
namespace Cu
open Go.ChangeShapes Go.WideShapes Go.ChangeAt Go.RowKit

theorem mod_bd (x n : Int) (h0 : 0 ≤ x) (hn : 0 < n) : 0 ≤ x % n ∧ x % n < n ∧ x % n ≤ x := by
  have h1 := Int.emod_nonneg x (show n ≠ 0 by omega)
  have h2 := Int.emod_lt_of_pos x hn
  refine ⟨h1, h2, ?_⟩
  by_cases h : x < n
  · rw [Int.emod_eq_of_lt h0 h]; omega
  · omega

/-- Since w0 no block but the cursor's has turned, and the cursor stands. -/
def At (B : Nat) (w0 w : World) (c : Nat) (a : Option Addr) (len cap : Nat) : Prop := Touch c w0 w ∧ Cur B w c a len cap

theorem byte_at (B c : Nat) (w0 w : World) (a : Option Addr) (len cap : Nat) (h : At B w0 w c a len cap) :
    Calls Try.prog 52 #[.pointer (some ⟨c, 0, none⟩)] w fun e w' => ∃ r : Int, e = .returned (.int .i64 r) ∧ 0 ≤ r ∧ r ≤ 255 ∧ At B w0 w' c a len cap := by
  refine (byte_any B c w a len cap h.2).mono ?_
  rintro e w' ⟨r, he, h0, h1, hb, hc⟩
  exact ⟨r, he, h0, h1, h.1.trans hb, hc⟩

set_option maxHeartbeats 400000 in
theorem below_no (B c : Nat) (w0 w : World) (a : Option Addr) (len cap : Nat) (n : Int) (h : At B w0 w c a len cap) (hn : n ≤ 0) :
    Calls Try.prog 38 #[.pointer (some ⟨c, 0, none⟩), .int .i64 n] w fun e w' => ∃ r : Int, e = .returned (.int .i64 r) ∧ r = 0 ∧ At B w0 w' c a len cap := by
  go_enter Try.func38, Try.ntmps38
  go_wp2
  go_ret
  exact ⟨_, rfl, rfl, h⟩

set_option maxHeartbeats 400000 in
theorem below_small (B c : Nat) (w0 w : World) (a : Option Addr) (len cap : Nat) (n : Int) (h : At B w0 w c a len cap) (hn : 0 < n) (hn' : n ≤ 256) :
    Calls Try.prog 38 #[.pointer (some ⟨c, 0, none⟩), .int .i64 n] w fun e w' => ∃ r : Int, e = .returned (.int .i64 r) ∧ 0 ≤ r ∧ r < n ∧ At B w0 w' c a len cap := by
  go_enter Try.func38, Try.ntmps38
  go_wp2_with (go_at_call 52; refine (byte_at B c w0 _ a len cap (by assumption)).mono ?_; rintro e w1 ⟨r, rfl, hr0, hr1, h1⟩)
  have hm := mod_bd r n hr0 hn
  go_ret
  exact ⟨_, rfl, hm.1, hm.2.1, h1⟩

set_option maxHeartbeats 400000 in
theorem below_great (B c : Nat) (w0 w : World) (a : Option Addr) (len cap : Nat) (n : Int) (h : At B w0 w c a len cap) (hn : 256 < n) :
    Calls Try.prog 38 #[.pointer (some ⟨c, 0, none⟩), .int .i64 n] w fun e w' => ∃ r : Int, e = .returned (.int .i64 r) ∧ 0 ≤ r ∧ r < n ∧ r ≤ 4294967295 ∧ At B w0 w' c a len cap := by
  go_enter Try.func38, Try.ntmps38
  go_wp2_with (go_at_call 52; refine (byte_at B c w0 _ a len cap (by assumption)).mono ?_; rintro e w1 ⟨r, rfl, hr0, hr1, h1⟩)
  go_ret
  refine ⟨_, rfl, ?_⟩
  generalize hx : (_ * 16777216 + _ * 65536 + _ * 256 + _ : Int) = x
  have hm := mod_bd x n (by omega) (by omega)
  exact ⟨hm.1, hm.2.1, by omega, h1⟩

/-- A number below n, from 0 on; 0 where n is not above 0. -/
theorem below_at (B c : Nat) (w0 w : World) (a : Option Addr) (len cap : Nat) (n : Int) (h : At B w0 w c a len cap) :
    Calls Try.prog 38 #[.pointer (some ⟨c, 0, none⟩), .int .i64 n] w fun e w' => ∃ r : Int, e = .returned (.int .i64 r) ∧ 0 ≤ r ∧ r ≤ 4294967295 ∧ (0 < n → r < n) ∧ (n ≤ 0 → r = 0) ∧ At B w0 w' c a len cap := by
  by_cases h1 : n ≤ 0
  · refine (below_no B c w0 w a len cap n h h1).mono ?_
    rintro e w' ⟨r, he, hr, hc⟩
    exact ⟨r, he, by omega, by omega, fun _ => by omega, fun _ => hr, hc⟩
  · by_cases h2 : n ≤ 256
    · refine (below_small B c w0 w a len cap n h (by omega) h2).mono ?_
      rintro e w' ⟨r, he, hr, hr', hc⟩
      exact ⟨r, he, by omega, by omega, fun _ => by omega, fun _ => by omega, hc⟩
    · refine (below_great B c w0 w a len cap n h (by omega)).mono ?_
      rintro e w' ⟨r, he, hr, hr', hr2, hc⟩
      exact ⟨r, he, by omega, by omega, fun _ => by omega, fun _ => by omega, hc⟩

set_option maxHeartbeats 400000 in
theorem once_at (B c : Nat) (w0 w : World) (a : Option Addr) (len cap : Nat) (n : Int) (h : At B w0 w c a len cap) :
    Calls Try.prog 37 #[.pointer (some ⟨c, 0, none⟩), .int .i64 n] w fun e w' => ∃ r : Bool, e = .returned (.bool r) ∧ At B w0 w' c a len cap := by
  go_enter Try.func37, Try.ntmps37
  go_wp2_with (go_at_call 38; refine (below_at B c w0 _ a len cap _ (by assumption)).mono ?_; rintro e w1 ⟨r, rfl, hr0, hr1, hr2, hr3, h1⟩)
  go_ret
  exact ⟨_, rfl, h1⟩
end Cu
end Go.Proofs.Ytbachkjhmenhfaa
