/- The contract of the other side's showing of a right step. -/
import Derived.Test.YtkjoljcgbjodlaaDoorShow0
import Derived.Lib.QuietBelow
import Derived.BigQuiet
import Derived.Deep.RegionWith
namespace Go.Proofs.YtkjoljcgbjodlaaDoor
namespace St
open Go.ChangeShapes Go.WideShapes Go.ChangeAt Go.RowKit

set_option maxHeartbeats 800000 in
set_option maxRecDepth 100000 in
theorem tell15 (a b : Int) (a0 : -9223372036854775808 ≤ a) (a1 : a ≤ 9223372036854775807) (b0 : -9223372036854775808 ≤ b) (b1 : b ≤ 9223372036854775807) (w : World) :
    Calls Tryd.prog 42 #[.agg #[.int .i64 15, .int .i64 a, .int .i64 b]] w fun e w' => e = .returned (.string ⟨(Tx.showI 15 a b).toArray⟩) ∧ Below w.heap.size w w' := by
  have hcv : ∀ t, (convert 97 9 (.slice (some ⟨w.heap.size + 1, 0, none⟩) 1 1)).run Tryd.prog ((w.alloc (.cells #[.int .i64 15, .int .i64 a, .int .i64 b] 82)).alloc (.cells #[.int .u8 (((⟨#[97, 98, 99, 100, 101, 102, 103, 104, 105, 106, 107, 108, 109, 110, 111, 112, 113, 114, 115, 116]⟩ : ByteArray)[14]'(by decide)).toNat : Int)] t)) = .ok (.string ⟨#[111]⟩) ((w.alloc (.cells #[.int .i64 15, .int .i64 a, .int .i64 b] 82)).alloc (.cells #[.int .u8 (((⟨#[97, 98, 99, 100, 101, 102, 103, 104, 105, 106, 107, 108, 109, 110, 111, 112, 113, 114, 115, 116]⟩ : ByteArray)[14]'(by decide)).toNat : Int)] t)) := fun t => conv_at w (.cells #[.int .i64 15, .int .i64 a, .int .i64 b] 82) 15 t (by omega) (by omega)
  have la := Lib.itoa_length_le a a0 a1
  have lb := Lib.itoa_length_le b b0 b1
  go_enter Tryd.func42, Tryd.ntmps42
  go_wp2_with (go_at_call 61; refine (count_at _ 2 rfl _).mono ?_; rintro e w' ⟨rfl, rfl⟩)
  clear hcv
  generalize hz : (((⟨#[97, 98, 99, 100, 101, 102, 103, 104, 105, 106, 107, 108, 109, 110, 111, 112, 113, 114, 115, 116]⟩ : ByteArray)[14]'(by decide)).toNat : Int) = z
  clear hz
  obtain ⟨W, hW⟩ : ∃ W : World, W = (w.alloc (.cells #[.int .i64 15, .int .i64 a, .int .i64 b] 82)).alloc (.cells #[.int .u8 z] 5) := ⟨_, rfl⟩
  rw [← hW]
  have c1 : W.cell? ⟨w.heap.size, 1, none⟩ = some (.int .i64 a) := by rw [hW]; simp
  have c2 : W.cell? ⟨w.heap.size, 2, none⟩ = some (.int .i64 b) := by rw [hW]; simp
  have hWb : Below w.heap.size w W := by rw [hW]; go_grown
  clear hW
  have k1 := cell_regrown c1
  have k2 := cell_regrown c2
  have cA : ∀ d os, Calls Tryd.prog 29 #[.int .i64 a] (Sort.grow (redrawn W d) os) fun e w'' => e = .returned (.string ⟨(Lib.itoa a).toArray⟩) ∧ ∃ p : Regrown, w'' = Sort.grow (redrawn W p.d) p.os := fun d os => Calls.regrown_of (int_at a a0 a1 _)
  have cB : ∀ d os, Calls Tryd.prog 29 #[.int .i64 b] (Sort.grow (redrawn W d) os) fun e w'' => e = .returned (.string ⟨(Lib.itoa b).toArray⟩) ∧ ∃ p : Regrown, w'' = Sort.grow (redrawn W p.d) p.os := fun d os => Calls.regrown_of (int_at b b0 b1 _)
  have n1 : ¬ 9223372036854775807 < 1 + (Lib.itoa a).length := by omega
  have n2 : ¬ 9223372036854775807 < 1 + (Lib.itoa a).length + 1 := by omega
  have n3 : ¬ 9223372036854775807 < 1 + (Lib.itoa a).length + 1 + (Lib.itoa b).length := by omega
  refine wp_region_quiet_below (by kernel_rfl) (by kernel_rfl) ?_
  repeat (quiet_step (first | (go_at_call_of 29 (Value.int .i64 a); exact cA _ _) | (go_at_call_of 29 (Value.int .i64 b); exact cB _ _)))
  refine wpQuiet_nil ?_
  intro _ hw'
  obtain ⟨⟨dq, osq⟩, hw''⟩ := hw'
  subst hw''
  go_wp2
  go_ret
  exact ⟨retS (str_eq (by simp [Tx.showI, Tx.tellI, Tx.cnt])), hWb.trans ((below_regrown W dq osq).mono hWb.size)⟩

set_option maxHeartbeats 800000 in
set_option maxRecDepth 100000 in
theorem tell16 (a b : Int) (a0 : -9223372036854775808 ≤ a) (a1 : a ≤ 9223372036854775807) (b0 : -9223372036854775808 ≤ b) (b1 : b ≤ 9223372036854775807) (w : World) :
    Calls Tryd.prog 42 #[.agg #[.int .i64 16, .int .i64 a, .int .i64 b]] w fun e w' => e = .returned (.string ⟨(Tx.showI 16 a b).toArray⟩) ∧ Below w.heap.size w w' := by
  have hcv : ∀ t, (convert 97 9 (.slice (some ⟨w.heap.size + 1, 0, none⟩) 1 1)).run Tryd.prog ((w.alloc (.cells #[.int .i64 16, .int .i64 a, .int .i64 b] 82)).alloc (.cells #[.int .u8 (((⟨#[97, 98, 99, 100, 101, 102, 103, 104, 105, 106, 107, 108, 109, 110, 111, 112, 113, 114, 115, 116]⟩ : ByteArray)[15]'(by decide)).toNat : Int)] t)) = .ok (.string ⟨#[112]⟩) ((w.alloc (.cells #[.int .i64 16, .int .i64 a, .int .i64 b] 82)).alloc (.cells #[.int .u8 (((⟨#[97, 98, 99, 100, 101, 102, 103, 104, 105, 106, 107, 108, 109, 110, 111, 112, 113, 114, 115, 116]⟩ : ByteArray)[15]'(by decide)).toNat : Int)] t)) := fun t => conv_at w (.cells #[.int .i64 16, .int .i64 a, .int .i64 b] 82) 16 t (by omega) (by omega)
  have la := Lib.itoa_length_le a a0 a1
  have lb := Lib.itoa_length_le b b0 b1
  go_enter Tryd.func42, Tryd.ntmps42
  go_wp2_with (go_at_call 61; refine (count_at _ 2 rfl _).mono ?_; rintro e w' ⟨rfl, rfl⟩)
  clear hcv
  generalize hz : (((⟨#[97, 98, 99, 100, 101, 102, 103, 104, 105, 106, 107, 108, 109, 110, 111, 112, 113, 114, 115, 116]⟩ : ByteArray)[15]'(by decide)).toNat : Int) = z
  clear hz
  obtain ⟨W, hW⟩ : ∃ W : World, W = (w.alloc (.cells #[.int .i64 16, .int .i64 a, .int .i64 b] 82)).alloc (.cells #[.int .u8 z] 5) := ⟨_, rfl⟩
  rw [← hW]
  have c1 : W.cell? ⟨w.heap.size, 1, none⟩ = some (.int .i64 a) := by rw [hW]; simp
  have c2 : W.cell? ⟨w.heap.size, 2, none⟩ = some (.int .i64 b) := by rw [hW]; simp
  have hWb : Below w.heap.size w W := by rw [hW]; go_grown
  clear hW
  have k1 := cell_regrown c1
  have k2 := cell_regrown c2
  have cA : ∀ d os, Calls Tryd.prog 29 #[.int .i64 a] (Sort.grow (redrawn W d) os) fun e w'' => e = .returned (.string ⟨(Lib.itoa a).toArray⟩) ∧ ∃ p : Regrown, w'' = Sort.grow (redrawn W p.d) p.os := fun d os => Calls.regrown_of (int_at a a0 a1 _)
  have cB : ∀ d os, Calls Tryd.prog 29 #[.int .i64 b] (Sort.grow (redrawn W d) os) fun e w'' => e = .returned (.string ⟨(Lib.itoa b).toArray⟩) ∧ ∃ p : Regrown, w'' = Sort.grow (redrawn W p.d) p.os := fun d os => Calls.regrown_of (int_at b b0 b1 _)
  have n1 : ¬ 9223372036854775807 < 1 + (Lib.itoa a).length := by omega
  have n2 : ¬ 9223372036854775807 < 1 + (Lib.itoa a).length + 1 := by omega
  have n3 : ¬ 9223372036854775807 < 1 + (Lib.itoa a).length + 1 + (Lib.itoa b).length := by omega
  refine wp_region_quiet_below (by kernel_rfl) (by kernel_rfl) ?_
  repeat (quiet_step (first | (go_at_call_of 29 (Value.int .i64 a); exact cA _ _) | (go_at_call_of 29 (Value.int .i64 b); exact cB _ _)))
  refine wpQuiet_nil ?_
  intro _ hw'
  obtain ⟨⟨dq, osq⟩, hw''⟩ := hw'
  subst hw''
  go_wp2
  go_ret
  exact ⟨retS (str_eq (by simp [Tx.showI, Tx.tellI, Tx.cnt])), hWb.trans ((below_regrown W dq osq).mono hWb.size)⟩

set_option maxHeartbeats 800000 in
set_option maxRecDepth 100000 in
theorem tell17 (a b : Int) (a0 : -9223372036854775808 ≤ a) (a1 : a ≤ 9223372036854775807) (b0 : -9223372036854775808 ≤ b) (b1 : b ≤ 9223372036854775807) (w : World) :
    Calls Tryd.prog 42 #[.agg #[.int .i64 17, .int .i64 a, .int .i64 b]] w fun e w' => e = .returned (.string ⟨(Tx.showI 17 a b).toArray⟩) ∧ Below w.heap.size w w' := by
  have hcv : ∀ t, (convert 97 9 (.slice (some ⟨w.heap.size + 1, 0, none⟩) 1 1)).run Tryd.prog ((w.alloc (.cells #[.int .i64 17, .int .i64 a, .int .i64 b] 82)).alloc (.cells #[.int .u8 (((⟨#[97, 98, 99, 100, 101, 102, 103, 104, 105, 106, 107, 108, 109, 110, 111, 112, 113, 114, 115, 116]⟩ : ByteArray)[16]'(by decide)).toNat : Int)] t)) = .ok (.string ⟨#[113]⟩) ((w.alloc (.cells #[.int .i64 17, .int .i64 a, .int .i64 b] 82)).alloc (.cells #[.int .u8 (((⟨#[97, 98, 99, 100, 101, 102, 103, 104, 105, 106, 107, 108, 109, 110, 111, 112, 113, 114, 115, 116]⟩ : ByteArray)[16]'(by decide)).toNat : Int)] t)) := fun t => conv_at w (.cells #[.int .i64 17, .int .i64 a, .int .i64 b] 82) 17 t (by omega) (by omega)
  have la := Lib.itoa_length_le a a0 a1
  have lb := Lib.itoa_length_le b b0 b1
  go_enter Tryd.func42, Tryd.ntmps42
  go_wp2_with (go_at_call 61; refine (count_at _ 2 rfl _).mono ?_; rintro e w' ⟨rfl, rfl⟩)
  clear hcv
  generalize hz : (((⟨#[97, 98, 99, 100, 101, 102, 103, 104, 105, 106, 107, 108, 109, 110, 111, 112, 113, 114, 115, 116]⟩ : ByteArray)[16]'(by decide)).toNat : Int) = z
  clear hz
  obtain ⟨W, hW⟩ : ∃ W : World, W = (w.alloc (.cells #[.int .i64 17, .int .i64 a, .int .i64 b] 82)).alloc (.cells #[.int .u8 z] 5) := ⟨_, rfl⟩
  rw [← hW]
  have c1 : W.cell? ⟨w.heap.size, 1, none⟩ = some (.int .i64 a) := by rw [hW]; simp
  have c2 : W.cell? ⟨w.heap.size, 2, none⟩ = some (.int .i64 b) := by rw [hW]; simp
  have hWb : Below w.heap.size w W := by rw [hW]; go_grown
  clear hW
  have k1 := cell_regrown c1
  have k2 := cell_regrown c2
  have cA : ∀ d os, Calls Tryd.prog 29 #[.int .i64 a] (Sort.grow (redrawn W d) os) fun e w'' => e = .returned (.string ⟨(Lib.itoa a).toArray⟩) ∧ ∃ p : Regrown, w'' = Sort.grow (redrawn W p.d) p.os := fun d os => Calls.regrown_of (int_at a a0 a1 _)
  have cB : ∀ d os, Calls Tryd.prog 29 #[.int .i64 b] (Sort.grow (redrawn W d) os) fun e w'' => e = .returned (.string ⟨(Lib.itoa b).toArray⟩) ∧ ∃ p : Regrown, w'' = Sort.grow (redrawn W p.d) p.os := fun d os => Calls.regrown_of (int_at b b0 b1 _)
  have n1 : ¬ 9223372036854775807 < 1 + (Lib.itoa a).length := by omega
  have n2 : ¬ 9223372036854775807 < 1 + (Lib.itoa a).length + 1 := by omega
  have n3 : ¬ 9223372036854775807 < 1 + (Lib.itoa a).length + 1 + (Lib.itoa b).length := by omega
  refine wp_region_quiet_below (by kernel_rfl) (by kernel_rfl) ?_
  repeat (quiet_step (first | (go_at_call_of 29 (Value.int .i64 a); exact cA _ _) | (go_at_call_of 29 (Value.int .i64 b); exact cB _ _)))
  refine wpQuiet_nil ?_
  intro _ hw'
  obtain ⟨⟨dq, osq⟩, hw''⟩ := hw'
  subst hw''
  go_wp2
  go_ret
  exact ⟨retS (str_eq (by simp [Tx.showI, Tx.tellI, Tx.cnt])), hWb.trans ((below_regrown W dq osq).mono hWb.size)⟩

end St
end Go.Proofs.YtkjoljcgbjodlaaDoor
