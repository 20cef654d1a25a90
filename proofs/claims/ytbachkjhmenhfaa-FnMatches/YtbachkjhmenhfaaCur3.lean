/- The contract of the cursor's making. -/
import Derived.Test.YtbachkjhmenhfaaCur2
namespace Go.Proofs.Ytbachkjhmenhfaa
namespace Cu
open Go.ChangeShapes Go.WideShapes Go.ChangeAt Go.RowKit

theorem Bytes.parts {B : Nat} {w : World} {a : Option Addr} {len : Nat} (h : Bytes B w a len) :
    len = 0 ∨ ∃ b off : Nat, a = some ⟨b, off, none⟩ ∧ b < B ∧ ∀ j, j < len → ∃ z : Int, w.cell? ⟨b, off + j, none⟩ = some (.int .u8 z) ∧ 0 ≤ z ∧ z ≤ 255 := by
  by_cases h0 : len = 0
  · exact .inl h0
  · obtain ⟨b, off, z, ha, hb, _⟩ := h.2 0 (by omega)
    refine .inr ⟨b, off, ha, hb, fun j hj => ?_⟩
    obtain ⟨b', off', z', ha', hb', hc', hz⟩ := h.2 j hj
    rw [ha] at ha'
    simp at ha'
    obtain ⟨rfl, rfl⟩ := ha'
    exact ⟨z', hc', hz⟩

theorem new_cur {B : Nat} {w : World} {a : Option Addr} {len cap : Nat} {t : TypeId} (hB : Bytes B w a len) (hs : B ≤ w.heap.size) (h : Int) :
    Cur B (w.alloc (.cells #[.slice a len cap, .int .i64 0, .int .i64 h] t)) w.heap.size a len cap := by
  have hb : Below B w (w.alloc (.cells #[.slice a len cap, .int .i64 0, .int .i64 h] t)) := (Below.refl B w).alloc hs _
  exact ⟨hs, by simp, by simp [go_sem], ⟨0, by omega, by simp [go_sem]⟩, ⟨h, by simp [go_sem]⟩, by simp [go_sem], by simp [go_sem], hB.below hb⟩

set_option maxHeartbeats 400000 in
theorem new_nil (B : Nat) (w : World) (a : Option Addr) (cap : Nat) (hB : Bytes B w a 0) (hs : B ≤ w.heap.size) :
    Calls Try.prog 35 #[.slice a 0 cap] w fun e w' => ∃ c : Nat, e = .returned (.pointer (some ⟨c, 0, none⟩)) ∧ w.heap.size ≤ c ∧ Below w.heap.size w w' ∧ Cur B w' c a 0 cap := by
  go_enter Try.func35, Try.ntmps35
  go_wp2
  go_loop [3, 4] (fun h i => i = .int .i64 0 ∧ ∃ hh : Int, h = .int .i64 hh) (fun _ i => 0 - (intOf i).toNat)
  case atStart => exact ⟨rfl, _, rfl⟩
  case round =>
    obtain ⟨rfl, hh, rfl⟩ := hrel
    go_wp2
    go_ret
    exact ⟨w.heap.size, rfl, Nat.le_refl _, (Below.refl _ w).alloc (Nat.le_refl _) _, new_cur hB hs _⟩

set_option maxHeartbeats 400000 in
theorem new_some (B b off : Nat) (w : World) (len cap : Nat) (hl : len ≤ 4096)
    (hc : ∀ j, j < len → ∃ z : Int, w.cell? ⟨b, off + j, none⟩ = some (.int .u8 z) ∧ 0 ≤ z ∧ z ≤ 255)
    (hB : Bytes B w (some ⟨b, off, none⟩) len) (hs : B ≤ w.heap.size) :
    Calls Try.prog 35 #[.slice (some ⟨b, off, none⟩) len cap] w fun e w' => ∃ c : Nat, e = .returned (.pointer (some ⟨c, 0, none⟩)) ∧ w.heap.size ≤ c ∧ Below w.heap.size w w' ∧ Cur B w' c (some ⟨b, off, none⟩) len cap := by
  have HC : Hid (∀ j, j < len → ∃ z : Int, w.cell? ⟨b, off + j, none⟩ = some (.int .u8 z) ∧ 0 ≤ z ∧ z ≤ 255) := hc
  clear hc
  go_enter Try.func35, Try.ntmps35
  go_wp2
  go_loop [3, 4] (fun h i => ∃ k : Nat, k ≤ len ∧ i = .int .i64 k ∧ ∃ hh : Int, 0 ≤ hh ∧ hh ≤ 1073741823 ∧ h = .int .i64 hh) (fun _ i => len - (intOf i).toNat)
  case atStart => exact ⟨0, Nat.zero_le _, rfl, _, by omega, by omega, rfl⟩
  case round =>
    obtain ⟨k, hk, rfl, hh, h0, h1, rfl⟩ := hrel
    by_cases hlt : k < len
    · obtain ⟨z, hz, hz0, hz1⟩ := HC.out k hlt
      have hlt' : (k : Int) < (len : Int) := by omega
      go_wp2
      go_round
      case rel => exact ⟨k + 1, by omega, by go_num, _, (and30_bd _).1, (and30_bd _).2, rfl⟩
      case measure => simp [intOf]; omega
    · have hlt' : ¬ (k : Int) < (len : Int) := by omega
      go_wp2
      go_ret
      exact ⟨w.heap.size, rfl, Nat.le_refl _, (Below.refl _ w).alloc (Nat.le_refl _) _, new_cur hB hs _⟩

theorem new_at (B : Nat) (w : World) (a : Option Addr) (len cap : Nat) (hB : Bytes B w a len) (hs : B ≤ w.heap.size) :
    Calls Try.prog 35 #[.slice a len cap] w fun e w' => ∃ c : Nat, e = .returned (.pointer (some ⟨c, 0, none⟩)) ∧ w.heap.size ≤ c ∧ Below w.heap.size w w' ∧ Cur B w' c a len cap := by
  rcases hB.parts with rfl | ⟨b, off, rfl, hlt, hc⟩
  · exact new_nil B w a cap hB hs
  · exact new_some B b off w len cap hB.1 hc hB hs
end Cu
end Go.Proofs.Ytbachkjhmenhfaa
