/- The contract of the cursor's making. -/
import Derived.Test.YtcbbpmknomhedaaJCur2
namespace Go.Proofs.Ytcbbpmknomhedaa
namespace Cu
open Go.ChangeShapes Go.WideShapes Go.ChangeAt Go.RowKit

theorem Bytes.parts {B : Nat} {w : World} {a : Option Addr} {len : Nat} (h : Bytes B w a len) :
    len = 0 ∨ ∃ b off : Nat, a = some ⟨b, off, none⟩ ∧ b < B ∧ ∀ j, j < len → ∃ z : Int, w.cell? ⟨b, off + j, none⟩ = some (.int .u8 z) ∧ 0 ≤ z ∧ z ≤ 255 := by
  by_cases h0 : len = 0
  · exact .inl h0
  · obtain ⟨b, off, z, ha, hb, _⟩ := h.2 0 (by omega)
    refine .inr ⟨b, off, ha, hb, fun j hj => ?_⟩
    obtain ⟨b', off', z', ha', hb', hc', hz⟩ := h.2 j hj
    rw [ha] at ha'
    simp at ha'
    obtain ⟨rfl, rfl⟩ := ha'
    exact ⟨z', hc', hz⟩

theorem new_cur {B : Nat} {w : World} {a : Option Addr} {len cap : Nat} {t : TypeId} (hB : Bytes B w a len) (hs : B ≤ w.heap.size) (h : Int) :
    Cur B (w.alloc (.cells #[.slice a len cap, .int .i64 0, .int .i64 h] t)) w.heap.size a len cap := by
  have hb : Below B w (w.alloc (.cells #[.slice a len cap, .int .i64 0, .int .i64 h] t)) := (Below.refl B w).alloc hs _
  exact ⟨hs, by simp, by simp [go_sem], ⟨0, by omega, by simp [go_sem]⟩, ⟨h, by simp [go_sem]⟩, by simp [go_sem], by simp [go_sem], hB.below hb⟩

set_option maxHeartbeats 400000 in
theorem new_nil (B : Nat) (w : World) (a : Option Addr) (cap : Nat) (hB : Bytes B w a 0) (hs : B ≤ w.heap.size) :
    Calls Try.prog 29 #[.slice a 0 cap] w fun e w' => ∃ c : Nat, e = .returned (.pointer (some ⟨c, 0, none⟩)) ∧ w.heap.size ≤ c ∧ Below w.heap.size w w' ∧ Cur B w' c a 0 cap := by
  go_enter Try.func29, Try.ntmps29
  go_wp2
  go_loop [3, 4] (fun h i => i = .int .i64 0 ∧ ∃ hh : Int, h = .int .i64 hh) (fun _ i => 0 - (intOf i).toNat)
  case atStart => exact ⟨rfl, _, rfl⟩
  case round =>
    obtain ⟨rfl, hh, rfl⟩ := hrel
    go_wp2
    go_ret
    exact ⟨w.heap.size, rfl, Nat.le_refl _, (Below.refl _ w).alloc (Nat.le_refl _) _, new_cur hB hs _⟩

set_option maxHeartbeats 400000 in
theorem new_some (B b off : Nat) (w : World) (len cap : Nat) (hl : len ≤ 4096)
    (hc : ∀ j, j < len → ∃ z : Int, w.cell? ⟨b, off + j, none⟩ = some (.int .u8 z) ∧ 0 ≤ z ∧ z ≤ 255)
    (hB : Bytes B w (some ⟨b, off, none⟩) len) (hs : B ≤ w.heap.size) :
    Calls Try.prog 29 #[.slice (some ⟨b, off, none⟩) len cap] w fun e w' => ∃ c : Nat, e = .returned (.pointer (some ⟨c, 0, none⟩)) ∧ w.heap.size ≤ c ∧ Below w.heap.size w w' ∧ Cur B w' c (some ⟨b, off, none⟩) len cap := by
  have HC : Hid (∀ j, j < len → ∃ z : Int, w.cell? ⟨b, off + j, none⟩ = some (.int .u8 z) ∧ 0 ≤ z ∧ z ≤ 255) := hc
  clear hc
  go_enter Try.func29, Try.ntmps29
  go_wp2
  go_loop [3, 4] (fun h i => ∃ k : Nat, k ≤ len ∧ i = .int .i64 k ∧ ∃ hh : Int, 0 ≤ hh ∧ hh ≤ 1073741823 ∧ h = .int .i64 hh) (fun _ i => len - (intOf i).toNat)
  case atStart => exact ⟨0, Nat.zero_le _, rfl, _, by omega, by omega, rfl⟩
  case round =>
    obtain ⟨k, hk, rfl, hh, h0, h1, rfl⟩ := hrel
    by_cases hlt : k < len
    · obtain ⟨z, hz, hz0, hz1⟩ := HC.out k hlt
      have hlt' : (k : Int) < (len : Int) := by omega
      go_wp2
      go_round
      case rel => exact ⟨k + 1, by omega, by go_num, _, (and30_bd _).1, (and30_bd _).2, rfl⟩
      case measure => simp [intOf]; omega
    · have hlt' : ¬ (k : Int) < (len : Int) := by omega
      go_wp2
      go_ret
      exact ⟨w.heap.size, rfl, Nat.le_refl _, (Below.refl _ w).alloc (Nat.le_refl _) _, new_cur hB hs _⟩

theorem new_at (B : Nat) (w : World) (a : Option Addr) (len cap : Nat) (hB : Bytes B w a len) (hs : B ≤ w.heap.size) :
    Calls Try.prog 29 #[.slice a len cap] w fun e w' => ∃ c : Nat, e = .returned (.pointer (some ⟨c, 0, none⟩)) ∧ w.heap.size ≤ c ∧ Below w.heap.size w w' ∧ Cur B w' c a len cap := by
  rcases hB.parts with rfl | ⟨b, off, rfl, hlt, hc⟩
  · exact new_nil B w a cap hB hs
  · exact new_some B b off w len cap hB.1 hc hB hs
end Cu
end Go.Proofs.Ytcbbpmknomhedaa

/- The contracts of the drawn words and of the drawn numbers. -/
namespace Go.Proofs.Ytcbbpmknomhedaa
namespace Cu
open Go.ChangeShapes Go.WideShapes Go.ChangeAt Go.RowKit

theorem drawWord_row {w w2 : World} {c : Nat} {t : TypeId} (r : Int) (h0 : 0 ≤ r) (h1 : r < 8) (hc : c < w.heap.size)
    (ht : Touch c (w.alloc (.cells #[.int .i64 2147483647, .int .i64 (-2147483648), .int .i64 0, .int .i64 1, .int .i64 (-1), .int .i64 128, .int .i64 (-129), .int .i64 65536] t)) w2) :
    ∃ v : Int, w2.cell? ⟨w.heap.size, r.toNat, none⟩ = some (.int .i64 v) ∧ -2147483648 ≤ v ∧ v ≤ 2147483647 := by
  obtain ⟨k, rfl⟩ := Int.eq_ofNat_of_zero_le h0
  rw [Int.toNat_natCast, ht.cell (p := ⟨w.heap.size, k, none⟩) (by simp) (by simp; omega)]
  have hk : k = 0 ∨ k = 1 ∨ k = 2 ∨ k = 3 ∨ k = 4 ∨ k = 5 ∨ k = 6 ∨ k = 7 := by omega
  rcases hk with rfl | rfl | rfl | rfl | rfl | rfl | rfl | rfl
  all_goals exact ⟨_, by simp [go_sem]; rfl, by omega, by omega⟩

set_option maxHeartbeats 400000 in
theorem drawWord_at (B c : Nat) (w0 w : World) (a : Option Addr) (len cap : Nat) (h : At B w0 w c a len cap) :
    Calls Try.prog 84 #[.pointer (some ⟨c, 0, none⟩)] w fun e w' => ∃ r : Int, e = .returned (.int .i64 r) ∧ -2147483648 ≤ r ∧ r ≤ 2147483647 ∧ At B w0 w' c a len cap := by
  go_enter Try.func84, Try.ntmps84
  go_wp2_with (go_at_call 45; refine (once_at B c w0 _ a len cap _ (by assumption)).mono ?_; rintro e w1 ⟨r, rfl, h1⟩; cases r)
  · refine (below_at B c w0 _ a len cap _ h1).mono ?_
    rintro e w2 ⟨r, rfl, hr0, hr1, hr2, hr3, h2⟩
    have hr := hr2 (by omega)
    clear hr2 hr3
    go_wp2
    go_ret
    exact ⟨_, rfl, by omega, by omega, h2⟩
  · refine (below_at B c _ _ a len cap _ ⟨Touch.refl _ _, h1.2.alloc _⟩).mono ?_
    rintro e w2 ⟨r, rfl, hr0, hr1, hr2, hr3, ht, h2⟩
    have hr := hr2 (by omega)
    clear hr2 hr3
    obtain ⟨v, hv, hv0, hv1⟩ := drawWord_row r hr0 hr h1.2.2.1 ht
    have hT : Touch c w0 w2 := (h1.1.alloc _).trans ht
    go_wp2
    go_ret
    exact ⟨_, rfl, hv0, hv1, hT, h2⟩
end Cu
end Go.Proofs.Ytcbbpmknomhedaa

/- The contracts of the drawn numbers of stage 1, and of the laws' own helpers. -/
namespace Go.Proofs.Ytcbbpmknomhedaa
namespace Cu
open Go.ChangeShapes Go.WideShapes Go.ChangeAt Go.RowKit

theorem At.start {B c : Nat} {w : World} {a : Option Addr} {len cap : Nat} (h : Cur B w c a len cap) : At B w w c a len cap := ⟨Touch.refl _ _, h⟩
theorem At.below {B c : Nat} {u v w : World} {a : Option Addr} {len cap : Nat} (h : At B v w c a len cap) (hb : Below u.heap.size u v) (hc : u.heap.size ≤ c) : Below u.heap.size u w :=
  hb.trans (h.1.below hc hb.size)

theorem big_at (w : World) (a : Option Addr) (len cap : Nat) :
    Calls Try.prog 4 #[.slice a len cap] w fun e w' => e = .returned (.bool (decide ((4096 : Int) < (len : Int)))) ∧ w = w' := by
  go_enter Try.func4, Try.ntmps4
  go_wp2
  go_ret
  exact ⟨rfl, rfl⟩
end Cu
end Go.Proofs.Ytcbbpmknomhedaa
