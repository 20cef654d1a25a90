/- The contracts of the cursor's numbers below a bound, and of its coin. -/
import Derived.Test.YtbgbddahniacbaaGreatDoorJCur1
namespace Go.Proofs.YtbgbddahniacbaaGreatDoor
namespace Cu
open Go.ChangeShapes Go.WideShapes Go.ChangeAt Go.RowKit

theorem mod_bd (x n : Int) (h0 : 0 ≤ x) (hn : 0 < n) : 0 ≤ x % n ∧ x % n < n ∧ x % n ≤ x := by
  have h1 := Int.emod_nonneg x (show n ≠ 0 by omega)
  have h2 := Int.emod_lt_of_pos x hn
  refine ⟨h1, h2, ?_⟩
  by_cases h : x < n
  · rw [Int.emod_eq_of_lt h0 h]; omega
  · omega

/-- Since w0 no block but the cursor's has turned, and the cursor stands. -/
def At (B : Nat) (w0 w : World) (c : Nat) (a : Option Addr) (len cap : Nat) : Prop := Touch c w0 w ∧ Cur B w c a len cap

theorem byte_at (B c : Nat) (w0 w : World) (a : Option Addr) (len cap : Nat) (h : At B w0 w c a len cap) :
    Calls Tryz.prog 63 #[.pointer (some ⟨c, 0, none⟩)] w fun e w' => ∃ r : Int, e = .returned (.int .i64 r) ∧ 0 ≤ r ∧ r ≤ 255 ∧ At B w0 w' c a len cap := by
  refine (byte_any B c w a len cap h.2).mono ?_
  rintro e w' ⟨r, he, h0, h1, hb, hc⟩
  exact ⟨r, he, h0, h1, h.1.trans hb, hc⟩

set_option maxHeartbeats 400000 in
theorem below_no (B c : Nat) (w0 w : World) (a : Option Addr) (len cap : Nat) (n : Int) (h : At B w0 w c a len cap) (hn : n ≤ 0) :
    Calls Tryz.prog 45 #[.pointer (some ⟨c, 0, none⟩), .int .i64 n] w fun e w' => ∃ r : Int, e = .returned (.int .i64 r) ∧ r = 0 ∧ At B w0 w' c a len cap := by
  go_enter Tryz.func45, Tryz.ntmps45
  go_wp2
  go_ret
  exact ⟨_, rfl, rfl, h⟩

set_option maxHeartbeats 400000 in
theorem below_small (B c : Nat) (w0 w : World) (a : Option Addr) (len cap : Nat) (n : Int) (h : At B w0 w c a len cap) (hn : 0 < n) (hn' : n ≤ 256) :
    Calls Tryz.prog 45 #[.pointer (some ⟨c, 0, none⟩), .int .i64 n] w fun e w' => ∃ r : Int, e = .returned (.int .i64 r) ∧ 0 ≤ r ∧ r < n ∧ At B w0 w' c a len cap := by
  go_enter Tryz.func45, Tryz.ntmps45
  go_wp2_with (go_at_call 63; refine (byte_at B c w0 _ a len cap (by assumption)).mono ?_; rintro e w1 ⟨r, rfl, hr0, hr1, h1⟩)
  have hm := mod_bd r n hr0 hn
  go_ret
  exact ⟨_, rfl, hm.1, hm.2.1, h1⟩

set_option maxHeartbeats 400000 in
theorem below_great (B c : Nat) (w0 w : World) (a : Option Addr) (len cap : Nat) (n : Int) (h : At B w0 w c a len cap) (hn : 256 < n) :
    Calls Tryz.prog 45 #[.pointer (some ⟨c, 0, none⟩), .int .i64 n] w fun e w' => ∃ r : Int, e = .returned (.int .i64 r) ∧ 0 ≤ r ∧ r < n ∧ r ≤ 4294967295 ∧ At B w0 w' c a len cap := by
  go_enter Tryz.func45, Tryz.ntmps45
  go_wp2_with (go_at_call 63; refine (byte_at B c w0 _ a len cap (by assumption)).mono ?_; rintro e w1 ⟨r, rfl, hr0, hr1, h1⟩)
  go_ret
  refine ⟨_, rfl, ?_⟩
  generalize hx : (_ * 16777216 + _ * 65536 + _ * 256 + _ : Int) = x
  have hm := mod_bd x n (by omega) (by omega)
  exact ⟨hm.1, hm.2.1, by omega, h1⟩

/-- A number below n, from 0 on; 0 where n is not above 0. -/
theorem below_at (B c : Nat) (w0 w : World) (a : Option Addr) (len cap : Nat) (n : Int) (h : At B w0 w c a len cap) :
    Calls Tryz.prog 45 #[.pointer (some ⟨c, 0, none⟩), .int .i64 n] w fun e w' => ∃ r : Int, e = .returned (.int .i64 r) ∧ 0 ≤ r ∧ r ≤ 4294967295 ∧ (0 < n → r < n) ∧ (n ≤ 0 → r = 0) ∧ At B w0 w' c a len cap := by
  by_cases h1 : n ≤ 0
  · refine (below_no B c w0 w a len cap n h h1).mono ?_
    rintro e w' ⟨r, he, hr, hc⟩
    exact ⟨r, he, by omega, by omega, fun _ => by omega, fun _ => hr, hc⟩
  · by_cases h2 : n ≤ 256
    · refine (below_small B c w0 w a len cap n h (by omega) h2).mono ?_
      rintro e w' ⟨r, he, hr, hr', hc⟩
      exact ⟨r, he, by omega, by omega, fun _ => by omega, fun _ => by omega, hc⟩
    · refine (below_great B c w0 w a len cap n h (by omega)).mono ?_
      rintro e w' ⟨r, he, hr, hr', hr2, hc⟩
      exact ⟨r, he, by omega, by omega, fun _ => by omega, fun _ => by omega, hc⟩

set_option maxHeartbeats 400000 in
theorem once_at (B c : Nat) (w0 w : World) (a : Option Addr) (len cap : Nat) (n : Int) (h : At B w0 w c a len cap) :
    Calls Tryz.prog 44 #[.pointer (some ⟨c, 0, none⟩), .int .i64 n] w fun e w' => ∃ r : Bool, e = .returned (.bool r) ∧ At B w0 w' c a len cap := by
  go_enter Tryz.func44, Tryz.ntmps44
  go_wp2_with (go_at_call 45; refine (below_at B c w0 _ a len cap _ (by assumption)).mono ?_; rintro e w1 ⟨r, rfl, hr0, hr1, hr2, hr3, h1⟩)
  go_ret
  exact ⟨_, rfl, h1⟩
end Cu
end Go.Proofs.YtbgbddahniacbaaGreatDoor

/- The contract of the cursor's making. -/
namespace Go.Proofs.YtbgbddahniacbaaGreatDoor
namespace Cu
open Go.ChangeShapes Go.WideShapes Go.ChangeAt Go.RowKit

theorem Bytes.parts {B : Nat} {w : World} {a : Option Addr} {len : Nat} (h : Bytes B w a len) :
    len = 0 ∨ ∃ b off : Nat, a = some ⟨b, off, none⟩ ∧ b < B ∧ ∀ j, j < len → ∃ z : Int, w.cell? ⟨b, off + j, none⟩ = some (.int .u8 z) ∧ 0 ≤ z ∧ z ≤ 255 := by
  by_cases h0 : len = 0
  · exact .inl h0
  · obtain ⟨b, off, z, ha, hb, _⟩ := h.2 0 (by omega)
    refine .inr ⟨b, off, ha, hb, fun j hj => ?_⟩
    obtain ⟨b', off', z', ha', hb', hc', hz⟩ := h.2 j hj
    rw [ha] at ha'
    simp at ha'
    obtain ⟨rfl, rfl⟩ := ha'
    exact ⟨z', hc', hz⟩

theorem new_cur {B : Nat} {w : World} {a : Option Addr} {len cap : Nat} {t : TypeId} (hB : Bytes B w a len) (hs : B ≤ w.heap.size) (h : Int) :
    Cur B (w.alloc (.cells #[.slice a len cap, .int .i64 0, .int .i64 h] t)) w.heap.size a len cap := by
  have hb : Below B w (w.alloc (.cells #[.slice a len cap, .int .i64 0, .int .i64 h] t)) := (Below.refl B w).alloc hs _
  exact ⟨hs, by simp, by simp [go_sem], ⟨0, by omega, by simp [go_sem]⟩, ⟨h, by simp [go_sem]⟩, by simp [go_sem], by simp [go_sem], hB.below hb⟩

set_option maxHeartbeats 400000 in
theorem new_nil (B : Nat) (w : World) (a : Option Addr) (cap : Nat) (hB : Bytes B w a 0) (hs : B ≤ w.heap.size) :
    Calls Tryz.prog 20 #[.slice a 0 cap] w fun e w' => ∃ c : Nat, e = .returned (.pointer (some ⟨c, 0, none⟩)) ∧ w.heap.size ≤ c ∧ Below w.heap.size w w' ∧ Cur B w' c a 0 cap := by
  go_enter Tryz.func20, Tryz.ntmps20
  go_wp2
  go_loop [3, 4] (fun h i => i = .int .i64 0 ∧ ∃ hh : Int, h = .int .i64 hh) (fun _ i => 0 - (intOf i).toNat)
  case atStart => exact ⟨rfl, _, rfl⟩
  case round =>
    obtain ⟨rfl, hh, rfl⟩ := hrel
    go_wp2
    go_ret
    exact ⟨w.heap.size, rfl, Nat.le_refl _, (Below.refl _ w).alloc (Nat.le_refl _) _, new_cur hB hs _⟩

set_option maxHeartbeats 400000 in
theorem new_some (B b off : Nat) (w : World) (len cap : Nat) (hl : len ≤ 4096)
    (hc : ∀ j, j < len → ∃ z : Int, w.cell? ⟨b, off + j, none⟩ = some (.int .u8 z) ∧ 0 ≤ z ∧ z ≤ 255)
    (hB : Bytes B w (some ⟨b, off, none⟩) len) (hs : B ≤ w.heap.size) :
    Calls Tryz.prog 20 #[.slice (some ⟨b, off, none⟩) len cap] w fun e w' => ∃ c : Nat, e = .returned (.pointer (some ⟨c, 0, none⟩)) ∧ w.heap.size ≤ c ∧ Below w.heap.size w w' ∧ Cur B w' c (some ⟨b, off, none⟩) len cap := by
  have HC : Hid (∀ j, j < len → ∃ z : Int, w.cell? ⟨b, off + j, none⟩ = some (.int .u8 z) ∧ 0 ≤ z ∧ z ≤ 255) := hc
  clear hc
  go_enter Tryz.func20, Tryz.ntmps20
  go_wp2
  go_loop [3, 4] (fun h i => ∃ k : Nat, k ≤ len ∧ i = .int .i64 k ∧ ∃ hh : Int, 0 ≤ hh ∧ hh ≤ 1073741823 ∧ h = .int .i64 hh) (fun _ i => len - (intOf i).toNat)
  case atStart => exact ⟨0, Nat.zero_le _, rfl, _, by omega, by omega, rfl⟩
  case round =>
    obtain ⟨k, hk, rfl, hh, h0, h1, rfl⟩ := hrel
    by_cases hlt : k < len
    · obtain ⟨z, hz, hz0, hz1⟩ := HC.out k hlt
      have hlt' : (k : Int) < (len : Int) := by omega
      go_wp2
      go_round
      case rel => exact ⟨k + 1, by omega, by go_num, _, (and30_bd _).1, (and30_bd _).2, rfl⟩
      case measure => simp [intOf]; omega
    · have hlt' : ¬ (k : Int) < (len : Int) := by omega
      go_wp2
      go_ret
      exact ⟨w.heap.size, rfl, Nat.le_refl _, (Below.refl _ w).alloc (Nat.le_refl _) _, new_cur hB hs _⟩

theorem new_at (B : Nat) (w : World) (a : Option Addr) (len cap : Nat) (hB : Bytes B w a len) (hs : B ≤ w.heap.size) :
    Calls Tryz.prog 20 #[.slice a len cap] w fun e w' => ∃ c : Nat, e = .returned (.pointer (some ⟨c, 0, none⟩)) ∧ w.heap.size ≤ c ∧ Below w.heap.size w w' ∧ Cur B w' c a len cap := by
  rcases hB.parts with rfl | ⟨b, off, rfl, hlt, hc⟩
  · exact new_nil B w a cap hB hs
  · exact new_some B b off w len cap hB.1 hc hB hs
end Cu
end Go.Proofs.YtbgbddahniacbaaGreatDoor
