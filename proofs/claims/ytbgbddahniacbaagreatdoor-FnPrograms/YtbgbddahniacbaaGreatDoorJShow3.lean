/- The contracts of the two sides' showing of a step. -/
import Derived.Test.YtbgbddahniacbaaGreatDoorJShow2
namespace Go.Proofs.YtbgbddahniacbaaGreatDoor
namespace St
open Go.ChangeShapes Go.WideShapes Go.ChangeAt Go.RowKit

theorem tell_len {op a b : Int} (a0 : -9223372036854775808 ≤ a) (a1 : a ≤ 9223372036854775807) (b0 : -9223372036854775808 ≤ b) (b1 : b ≤ 9223372036854775807) : (Tx.tellI op a b).length ≤ 60 := by
  have la := Lib.itoa_length_le a a0 a1
  have lb := Lib.itoa_length_le b b0 b1
  unfold Tx.tellI
  repeat' split
  · simp
  · omega
  · simp only [List.length_append, List.length_cons]; omega

set_option maxHeartbeats 800000 in
theorem impl1 (a b : Int) (a0 : -9223372036854775808 ≤ a) (a1 : a ≤ 9223372036854775807) (b0 : -9223372036854775808 ≤ b) (b1 : b ≤ 9223372036854775807) (h : Tx.okI 1 a b = true) (B : Nat) (w : World) (hB : B ≤ w.heap.size) (hT : Tab B w) :
    Calls Tryz.prog 54 #[.agg #[.int .i64 1, .int .i64 a, .int .i64 b]] w fun e w' => e = .returned (.string ⟨(Tx.showI 1 a b).toArray⟩) ∧ Below w.heap.size w w' := by
  have lt : (Tx.tellI 1 a b).length ≤ 60 := tell_len a0 a1 b0 b1
  have HT : Hid (Tab B (w.alloc (.cells #[.int .i64 1, .int .i64 a, .int .i64 b] 73))) := hT.on ((Below.refl _ _).alloc hB _)
  have HB : Hid (B ≤ w.heap.size) := hB
  clear hT hB
  go_enter Tryz.func54, Tryz.ntmps54
  go_wp2_with fail
  refine (implOk 1 a b _).mono ?_
  rw [h]
  rintro e w1 ⟨rfl, hb1⟩
  have hw1 : Below w.heap.size w w1 := below_over (by go_grown) hb1
  have hc := box3 hb1
  have c0 := hc.1
  have c1 := hc.2.1
  have c2 := hc.2.2
  have HT1 : Hid (Tab B w1) := HT.out.on (hb1.mono (by have := HB.out; simp; omega))
  clear hc hb1
  go_wp2_with fail
  have k0 := cell_regrown c0
  have k1 := cell_regrown c1
  have k2 := cell_regrown c2
  have cT : ∀ d os, Calls Tryz.prog 74 #[.agg #[.int .i64 1, .int .i64 a, .int .i64 b]] (Sort.grow (redrawn w1 d) os) fun e w'' => e = .returned (.string ⟨(Tx.tellI 1 a b).toArray⟩) ∧ ∃ p : Regrown, w'' = Sort.grow (redrawn w1 p.d) p.os := fun d os =>
    Calls.regrown_of (told1 a b a0 a1 b0 b1 B _ (Nat.le_trans HB.out (Nat.le_trans hw1.size (below_regrown w1 d os).size)) (HT1.out.on ((below_regrown w1 d os).mono (Nat.le_trans HB.out hw1.size))))
  have n1 : ¬ 9223372036854775807 < 1 + (Tx.tellI 1 a b).length := by omega
  have hwr : IntKind.i64.wrap 0 = 0 := by decide
  have hsl : ∀ W, (Instr.slice 9 (.string ⟨#[97, 98, 99, 100, 101, 102, 103, 104, 105, 106, 107, 108, 109, 110, 111, 112, 113, 114, 115, 116]⟩) (some (.int .i64 0)) (some (.int .i64 1)) none).run Tryz.prog W = .ok (.string ⟨#[97]⟩) W := fun _ => by kernel_rfl
  refine wp_region_quiet_below (by kernel_rfl) (by kernel_rfl) ?_
  repeat (quiet_step ((go_at_call 74; exact cT _ _)))
  refine wpQuiet_nil ?_
  intro _ hw'
  obtain ⟨⟨dq, osq⟩, hw''⟩ := hw'
  subst hw''
  go_wp2
  go_ret
  exact ⟨retS (str_eq (by simp [Tx.showI])), hw1.trans ((below_regrown w1 dq osq).mono hw1.size)⟩

set_option maxHeartbeats 800000 in
theorem impl2 (a b : Int) (a0 : -9223372036854775808 ≤ a) (a1 : a ≤ 9223372036854775807) (b0 : -9223372036854775808 ≤ b) (b1 : b ≤ 9223372036854775807) (h : Tx.okI 2 a b = true) (B : Nat) (w : World) (hB : B ≤ w.heap.size) (hT : Tab B w) :
    Calls Tryz.prog 54 #[.agg #[.int .i64 2, .int .i64 a, .int .i64 b]] w fun e w' => e = .returned (.string ⟨(Tx.showI 2 a b).toArray⟩) ∧ Below w.heap.size w w' := by
  have lt : (Tx.tellI 2 a b).length ≤ 60 := tell_len a0 a1 b0 b1
  have HT : Hid (Tab B (w.alloc (.cells #[.int .i64 2, .int .i64 a, .int .i64 b] 73))) := hT.on ((Below.refl _ _).alloc hB _)
  have HB : Hid (B ≤ w.heap.size) := hB
  clear hT hB
  go_enter Tryz.func54, Tryz.ntmps54
  go_wp2_with fail
  refine (implOk 2 a b _).mono ?_
  rw [h]
  rintro e w1 ⟨rfl, hb1⟩
  have hw1 : Below w.heap.size w w1 := below_over (by go_grown) hb1
  have hc := box3 hb1
  have c0 := hc.1
  have c1 := hc.2.1
  have c2 := hc.2.2
  have HT1 : Hid (Tab B w1) := HT.out.on (hb1.mono (by have := HB.out; simp; omega))
  clear hc hb1
  go_wp2_with fail
  have k0 := cell_regrown c0
  have k1 := cell_regrown c1
  have k2 := cell_regrown c2
  have cT : ∀ d os, Calls Tryz.prog 74 #[.agg #[.int .i64 2, .int .i64 a, .int .i64 b]] (Sort.grow (redrawn w1 d) os) fun e w'' => e = .returned (.string ⟨(Tx.tellI 2 a b).toArray⟩) ∧ ∃ p : Regrown, w'' = Sort.grow (redrawn w1 p.d) p.os := fun d os =>
    Calls.regrown_of (told2 a b a0 a1 b0 b1 B _ (Nat.le_trans HB.out (Nat.le_trans hw1.size (below_regrown w1 d os).size)) (HT1.out.on ((below_regrown w1 d os).mono (Nat.le_trans HB.out hw1.size))))
  have n1 : ¬ 9223372036854775807 < 1 + (Tx.tellI 2 a b).length := by omega
  have hwr : IntKind.i64.wrap 1 = 1 := by decide
  have hsl : ∀ W, (Instr.slice 9 (.string ⟨#[97, 98, 99, 100, 101, 102, 103, 104, 105, 106, 107, 108, 109, 110, 111, 112, 113, 114, 115, 116]⟩) (some (.int .i64 1)) (some (.int .i64 2)) none).run Tryz.prog W = .ok (.string ⟨#[98]⟩) W := fun _ => by kernel_rfl
  refine wp_region_quiet_below (by kernel_rfl) (by kernel_rfl) ?_
  repeat (quiet_step ((go_at_call 74; exact cT _ _)))
  refine wpQuiet_nil ?_
  intro _ hw'
  obtain ⟨⟨dq, osq⟩, hw''⟩ := hw'
  subst hw''
  go_wp2
  go_ret
  exact ⟨retS (str_eq (by simp [Tx.showI])), hw1.trans ((below_regrown w1 dq osq).mono hw1.size)⟩

set_option maxHeartbeats 800000 in
theorem impl3 (a b : Int) (a0 : -9223372036854775808 ≤ a) (a1 : a ≤ 9223372036854775807) (b0 : -9223372036854775808 ≤ b) (b1 : b ≤ 9223372036854775807) (h : Tx.okI 3 a b = true) (B : Nat) (w : World) (hB : B ≤ w.heap.size) (hT : Tab B w) :
    Calls Tryz.prog 54 #[.agg #[.int .i64 3, .int .i64 a, .int .i64 b]] w fun e w' => e = .returned (.string ⟨(Tx.showI 3 a b).toArray⟩) ∧ Below w.heap.size w w' := by
  have lt : (Tx.tellI 3 a b).length ≤ 60 := tell_len a0 a1 b0 b1
  have HT : Hid (Tab B (w.alloc (.cells #[.int .i64 3, .int .i64 a, .int .i64 b] 73))) := hT.on ((Below.refl _ _).alloc hB _)
  have HB : Hid (B ≤ w.heap.size) := hB
  clear hT hB
  go_enter Tryz.func54, Tryz.ntmps54
  go_wp2_with fail
  refine (implOk 3 a b _).mono ?_
  rw [h]
  rintro e w1 ⟨rfl, hb1⟩
  have hw1 : Below w.heap.size w w1 := below_over (by go_grown) hb1
  have hc := box3 hb1
  have c0 := hc.1
  have c1 := hc.2.1
  have c2 := hc.2.2
  have HT1 : Hid (Tab B w1) := HT.out.on (hb1.mono (by have := HB.out; simp; omega))
  clear hc hb1
  go_wp2_with fail
  have k0 := cell_regrown c0
  have k1 := cell_regrown c1
  have k2 := cell_regrown c2
  have cT : ∀ d os, Calls Tryz.prog 74 #[.agg #[.int .i64 3, .int .i64 a, .int .i64 b]] (Sort.grow (redrawn w1 d) os) fun e w'' => e = .returned (.string ⟨(Tx.tellI 3 a b).toArray⟩) ∧ ∃ p : Regrown, w'' = Sort.grow (redrawn w1 p.d) p.os := fun d os =>
    Calls.regrown_of (told3 a b a0 a1 b0 b1 B _ (Nat.le_trans HB.out (Nat.le_trans hw1.size (below_regrown w1 d os).size)) (HT1.out.on ((below_regrown w1 d os).mono (Nat.le_trans HB.out hw1.size))))
  have n1 : ¬ 9223372036854775807 < 1 + (Tx.tellI 3 a b).length := by omega
  have hwr : IntKind.i64.wrap 2 = 2 := by decide
  have hsl : ∀ W, (Instr.slice 9 (.string ⟨#[97, 98, 99, 100, 101, 102, 103, 104, 105, 106, 107, 108, 109, 110, 111, 112, 113, 114, 115, 116]⟩) (some (.int .i64 2)) (some (.int .i64 3)) none).run Tryz.prog W = .ok (.string ⟨#[99]⟩) W := fun _ => by kernel_rfl
  refine wp_region_quiet_below (by kernel_rfl) (by kernel_rfl) ?_
  repeat (quiet_step ((go_at_call 74; exact cT _ _)))
  refine wpQuiet_nil ?_
  intro _ hw'
  obtain ⟨⟨dq, osq⟩, hw''⟩ := hw'
  subst hw''
  go_wp2
  go_ret
  exact ⟨retS (str_eq (by simp [Tx.showI])), hw1.trans ((below_regrown w1 dq osq).mono hw1.size)⟩

set_option maxHeartbeats 800000 in
theorem impl4 (a b : Int) (a0 : -9223372036854775808 ≤ a) (a1 : a ≤ 9223372036854775807) (b0 : -9223372036854775808 ≤ b) (b1 : b ≤ 9223372036854775807) (h : Tx.okI 4 a b = true) (B : Nat) (w : World) (hB : B ≤ w.heap.size) (hT : Tab B w) :
    Calls Tryz.prog 54 #[.agg #[.int .i64 4, .int .i64 a, .int .i64 b]] w fun e w' => e = .returned (.string ⟨(Tx.showI 4 a b).toArray⟩) ∧ Below w.heap.size w w' := by
  have lt : (Tx.tellI 4 a b).length ≤ 60 := tell_len a0 a1 b0 b1
  have HT : Hid (Tab B (w.alloc (.cells #[.int .i64 4, .int .i64 a, .int .i64 b] 73))) := hT.on ((Below.refl _ _).alloc hB _)
  have HB : Hid (B ≤ w.heap.size) := hB
  clear hT hB
  go_enter Tryz.func54, Tryz.ntmps54
  go_wp2_with fail
  refine (implOk 4 a b _).mono ?_
  rw [h]
  rintro e w1 ⟨rfl, hb1⟩
  have hw1 : Below w.heap.size w w1 := below_over (by go_grown) hb1
  have hc := box3 hb1
  have c0 := hc.1
  have c1 := hc.2.1
  have c2 := hc.2.2
  have HT1 : Hid (Tab B w1) := HT.out.on (hb1.mono (by have := HB.out; simp; omega))
  clear hc hb1
  go_wp2_with fail
  have k0 := cell_regrown c0
  have k1 := cell_regrown c1
  have k2 := cell_regrown c2
  have cT : ∀ d os, Calls Tryz.prog 74 #[.agg #[.int .i64 4, .int .i64 a, .int .i64 b]] (Sort.grow (redrawn w1 d) os) fun e w'' => e = .returned (.string ⟨(Tx.tellI 4 a b).toArray⟩) ∧ ∃ p : Regrown, w'' = Sort.grow (redrawn w1 p.d) p.os := fun d os =>
    Calls.regrown_of (told4 a b a0 a1 b0 b1 B _ (Nat.le_trans HB.out (Nat.le_trans hw1.size (below_regrown w1 d os).size)) (HT1.out.on ((below_regrown w1 d os).mono (Nat.le_trans HB.out hw1.size))))
  have n1 : ¬ 9223372036854775807 < 1 + (Tx.tellI 4 a b).length := by omega
  have hwr : IntKind.i64.wrap 3 = 3 := by decide
  have hsl : ∀ W, (Instr.slice 9 (.string ⟨#[97, 98, 99, 100, 101, 102, 103, 104, 105, 106, 107, 108, 109, 110, 111, 112, 113, 114, 115, 116]⟩) (some (.int .i64 3)) (some (.int .i64 4)) none).run Tryz.prog W = .ok (.string ⟨#[100]⟩) W := fun _ => by kernel_rfl
  refine wp_region_quiet_below (by kernel_rfl) (by kernel_rfl) ?_
  repeat (quiet_step ((go_at_call 74; exact cT _ _)))
  refine wpQuiet_nil ?_
  intro _ hw'
  obtain ⟨⟨dq, osq⟩, hw''⟩ := hw'
  subst hw''
  go_wp2
  go_ret
  exact ⟨retS (str_eq (by simp [Tx.showI])), hw1.trans ((below_regrown w1 dq osq).mono hw1.size)⟩

set_option maxHeartbeats 800000 in
theorem impl5 (a b : Int) (a0 : -9223372036854775808 ≤ a) (a1 : a ≤ 9223372036854775807) (b0 : -9223372036854775808 ≤ b) (b1 : b ≤ 9223372036854775807) (h : Tx.okI 5 a b = true) (B : Nat) (w : World) (hB : B ≤ w.heap.size) (hT : Tab B w) :
    Calls Tryz.prog 54 #[.agg #[.int .i64 5, .int .i64 a, .int .i64 b]] w fun e w' => e = .returned (.string ⟨(Tx.showI 5 a b).toArray⟩) ∧ Below w.heap.size w w' := by
  have lt : (Tx.tellI 5 a b).length ≤ 60 := tell_len a0 a1 b0 b1
  have HT : Hid (Tab B (w.alloc (.cells #[.int .i64 5, .int .i64 a, .int .i64 b] 73))) := hT.on ((Below.refl _ _).alloc hB _)
  have HB : Hid (B ≤ w.heap.size) := hB
  clear hT hB
  go_enter Tryz.func54, Tryz.ntmps54
  go_wp2_with fail
  refine (implOk 5 a b _).mono ?_
  rw [h]
  rintro e w1 ⟨rfl, hb1⟩
  have hw1 : Below w.heap.size w w1 := below_over (by go_grown) hb1
  have hc := box3 hb1
  have c0 := hc.1
  have c1 := hc.2.1
  have c2 := hc.2.2
  have HT1 : Hid (Tab B w1) := HT.out.on (hb1.mono (by have := HB.out; simp; omega))
  clear hc hb1
  go_wp2_with fail
  have k0 := cell_regrown c0
  have k1 := cell_regrown c1
  have k2 := cell_regrown c2
  have cT : ∀ d os, Calls Tryz.prog 74 #[.agg #[.int .i64 5, .int .i64 a, .int .i64 b]] (Sort.grow (redrawn w1 d) os) fun e w'' => e = .returned (.string ⟨(Tx.tellI 5 a b).toArray⟩) ∧ ∃ p : Regrown, w'' = Sort.grow (redrawn w1 p.d) p.os := fun d os =>
    Calls.regrown_of (told5 a b a0 a1 b0 b1 B _ (Nat.le_trans HB.out (Nat.le_trans hw1.size (below_regrown w1 d os).size)) (HT1.out.on ((below_regrown w1 d os).mono (Nat.le_trans HB.out hw1.size))))
  have n1 : ¬ 9223372036854775807 < 1 + (Tx.tellI 5 a b).length := by omega
  have hwr : IntKind.i64.wrap 4 = 4 := by decide
  have hsl : ∀ W, (Instr.slice 9 (.string ⟨#[97, 98, 99, 100, 101, 102, 103, 104, 105, 106, 107, 108, 109, 110, 111, 112, 113, 114, 115, 116]⟩) (some (.int .i64 4)) (some (.int .i64 5)) none).run Tryz.prog W = .ok (.string ⟨#[101]⟩) W := fun _ => by kernel_rfl
  refine wp_region_quiet_below (by kernel_rfl) (by kernel_rfl) ?_
  repeat (quiet_step ((go_at_call 74; exact cT _ _)))
  refine wpQuiet_nil ?_
  intro _ hw'
  obtain ⟨⟨dq, osq⟩, hw''⟩ := hw'
  subst hw''
  go_wp2
  go_ret
  exact ⟨retS (str_eq (by simp [Tx.showI])), hw1.trans ((below_regrown w1 dq osq).mono hw1.size)⟩

set_option maxHeartbeats 800000 in
theorem impl6 (a b : Int) (a0 : -9223372036854775808 ≤ a) (a1 : a ≤ 9223372036854775807) (b0 : -9223372036854775808 ≤ b) (b1 : b ≤ 9223372036854775807) (h : Tx.okI 6 a b = true) (B : Nat) (w : World) (hB : B ≤ w.heap.size) (hT : Tab B w) :
    Calls Tryz.prog 54 #[.agg #[.int .i64 6, .int .i64 a, .int .i64 b]] w fun e w' => e = .returned (.string ⟨(Tx.showI 6 a b).toArray⟩) ∧ Below w.heap.size w w' := by
  have lt : (Tx.tellI 6 a b).length ≤ 60 := tell_len a0 a1 b0 b1
  have HT : Hid (Tab B (w.alloc (.cells #[.int .i64 6, .int .i64 a, .int .i64 b] 73))) := hT.on ((Below.refl _ _).alloc hB _)
  have HB : Hid (B ≤ w.heap.size) := hB
  clear hT hB
  go_enter Tryz.func54, Tryz.ntmps54
  go_wp2_with fail
  refine (implOk 6 a b _).mono ?_
  rw [h]
  rintro e w1 ⟨rfl, hb1⟩
  have hw1 : Below w.heap.size w w1 := below_over (by go_grown) hb1
  have hc := box3 hb1
  have c0 := hc.1
  have c1 := hc.2.1
  have c2 := hc.2.2
  have HT1 : Hid (Tab B w1) := HT.out.on (hb1.mono (by have := HB.out; simp; omega))
  clear hc hb1
  go_wp2_with fail
  have k0 := cell_regrown c0
  have k1 := cell_regrown c1
  have k2 := cell_regrown c2
  have cT : ∀ d os, Calls Tryz.prog 74 #[.agg #[.int .i64 6, .int .i64 a, .int .i64 b]] (Sort.grow (redrawn w1 d) os) fun e w'' => e = .returned (.string ⟨(Tx.tellI 6 a b).toArray⟩) ∧ ∃ p : Regrown, w'' = Sort.grow (redrawn w1 p.d) p.os := fun d os =>
    Calls.regrown_of (told6 a b a0 a1 b0 b1 B _ (Nat.le_trans HB.out (Nat.le_trans hw1.size (below_regrown w1 d os).size)) (HT1.out.on ((below_regrown w1 d os).mono (Nat.le_trans HB.out hw1.size))))
  have n1 : ¬ 9223372036854775807 < 1 + (Tx.tellI 6 a b).length := by omega
  have hwr : IntKind.i64.wrap 5 = 5 := by decide
  have hsl : ∀ W, (Instr.slice 9 (.string ⟨#[97, 98, 99, 100, 101, 102, 103, 104, 105, 106, 107, 108, 109, 110, 111, 112, 113, 114, 115, 116]⟩) (some (.int .i64 5)) (some (.int .i64 6)) none).run Tryz.prog W = .ok (.string ⟨#[102]⟩) W := fun _ => by kernel_rfl
  refine wp_region_quiet_below (by kernel_rfl) (by kernel_rfl) ?_
  repeat (quiet_step ((go_at_call 74; exact cT _ _)))
  refine wpQuiet_nil ?_
  intro _ hw'
  obtain ⟨⟨dq, osq⟩, hw''⟩ := hw'
  subst hw''
  go_wp2
  go_ret
  exact ⟨retS (str_eq (by simp [Tx.showI])), hw1.trans ((below_regrown w1 dq osq).mono hw1.size)⟩

set_option maxHeartbeats 800000 in
theorem impl7 (a b : Int) (a0 : -9223372036854775808 ≤ a) (a1 : a ≤ 9223372036854775807) (b0 : -9223372036854775808 ≤ b) (b1 : b ≤ 9223372036854775807) (h : Tx.okI 7 a b = true) (B : Nat) (w : World) (hB : B ≤ w.heap.size) (hT : Tab B w) :
    Calls Tryz.prog 54 #[.agg #[.int .i64 7, .int .i64 a, .int .i64 b]] w fun e w' => e = .returned (.string ⟨(Tx.showI 7 a b).toArray⟩) ∧ Below w.heap.size w w' := by
  have lt : (Tx.tellI 7 a b).length ≤ 60 := tell_len a0 a1 b0 b1
  have HT : Hid (Tab B (w.alloc (.cells #[.int .i64 7, .int .i64 a, .int .i64 b] 73))) := hT.on ((Below.refl _ _).alloc hB _)
  have HB : Hid (B ≤ w.heap.size) := hB
  clear hT hB
  go_enter Tryz.func54, Tryz.ntmps54
  go_wp2_with fail
  refine (implOk 7 a b _).mono ?_
  rw [h]
  rintro e w1 ⟨rfl, hb1⟩
  have hw1 : Below w.heap.size w w1 := below_over (by go_grown) hb1
  have hc := box3 hb1
  have c0 := hc.1
  have c1 := hc.2.1
  have c2 := hc.2.2
  have HT1 : Hid (Tab B w1) := HT.out.on (hb1.mono (by have := HB.out; simp; omega))
  clear hc hb1
  go_wp2_with fail
  have k0 := cell_regrown c0
  have k1 := cell_regrown c1
  have k2 := cell_regrown c2
  have cT : ∀ d os, Calls Tryz.prog 74 #[.agg #[.int .i64 7, .int .i64 a, .int .i64 b]] (Sort.grow (redrawn w1 d) os) fun e w'' => e = .returned (.string ⟨(Tx.tellI 7 a b).toArray⟩) ∧ ∃ p : Regrown, w'' = Sort.grow (redrawn w1 p.d) p.os := fun d os =>
    Calls.regrown_of (told7 a b a0 a1 b0 b1 B _ (Nat.le_trans HB.out (Nat.le_trans hw1.size (below_regrown w1 d os).size)) (HT1.out.on ((below_regrown w1 d os).mono (Nat.le_trans HB.out hw1.size))))
  have n1 : ¬ 9223372036854775807 < 1 + (Tx.tellI 7 a b).length := by omega
  have hwr : IntKind.i64.wrap 6 = 6 := by decide
  have hsl : ∀ W, (Instr.slice 9 (.string ⟨#[97, 98, 99, 100, 101, 102, 103, 104, 105, 106, 107, 108, 109, 110, 111, 112, 113, 114, 115, 116]⟩) (some (.int .i64 6)) (some (.int .i64 7)) none).run Tryz.prog W = .ok (.string ⟨#[103]⟩) W := fun _ => by kernel_rfl
  refine wp_region_quiet_below (by kernel_rfl) (by kernel_rfl) ?_
  repeat (quiet_step ((go_at_call 74; exact cT _ _)))
  refine wpQuiet_nil ?_
  intro _ hw'
  obtain ⟨⟨dq, osq⟩, hw''⟩ := hw'
  subst hw''
  go_wp2
  go_ret
  exact ⟨retS (str_eq (by simp [Tx.showI])), hw1.trans ((below_regrown w1 dq osq).mono hw1.size)⟩

set_option maxHeartbeats 800000 in
theorem impl8 (a b : Int) (a0 : -9223372036854775808 ≤ a) (a1 : a ≤ 9223372036854775807) (b0 : -9223372036854775808 ≤ b) (b1 : b ≤ 9223372036854775807) (h : Tx.okI 8 a b = true) (B : Nat) (w : World) (hB : B ≤ w.heap.size) (hT : Tab B w) :
    Calls Tryz.prog 54 #[.agg #[.int .i64 8, .int .i64 a, .int .i64 b]] w fun e w' => e = .returned (.string ⟨(Tx.showI 8 a b).toArray⟩) ∧ Below w.heap.size w w' := by
  have lt : (Tx.tellI 8 a b).length ≤ 60 := tell_len a0 a1 b0 b1
  have HT : Hid (Tab B (w.alloc (.cells #[.int .i64 8, .int .i64 a, .int .i64 b] 73))) := hT.on ((Below.refl _ _).alloc hB _)
  have HB : Hid (B ≤ w.heap.size) := hB
  clear hT hB
  go_enter Tryz.func54, Tryz.ntmps54
  go_wp2_with fail
  refine (implOk 8 a b _).mono ?_
  rw [h]
  rintro e w1 ⟨rfl, hb1⟩
  have hw1 : Below w.heap.size w w1 := below_over (by go_grown) hb1
  have hc := box3 hb1
  have c0 := hc.1
  have c1 := hc.2.1
  have c2 := hc.2.2
  have HT1 : Hid (Tab B w1) := HT.out.on (hb1.mono (by have := HB.out; simp; omega))
  clear hc hb1
  go_wp2_with fail
  have k0 := cell_regrown c0
  have k1 := cell_regrown c1
  have k2 := cell_regrown c2
  have cT : ∀ d os, Calls Tryz.prog 74 #[.agg #[.int .i64 8, .int .i64 a, .int .i64 b]] (Sort.grow (redrawn w1 d) os) fun e w'' => e = .returned (.string ⟨(Tx.tellI 8 a b).toArray⟩) ∧ ∃ p : Regrown, w'' = Sort.grow (redrawn w1 p.d) p.os := fun d os =>
    Calls.regrown_of (told8 a b a0 a1 b0 b1 B _ (Nat.le_trans HB.out (Nat.le_trans hw1.size (below_regrown w1 d os).size)) (HT1.out.on ((below_regrown w1 d os).mono (Nat.le_trans HB.out hw1.size))))
  have n1 : ¬ 9223372036854775807 < 1 + (Tx.tellI 8 a b).length := by omega
  have hwr : IntKind.i64.wrap 7 = 7 := by decide
  have hsl : ∀ W, (Instr.slice 9 (.string ⟨#[97, 98, 99, 100, 101, 102, 103, 104, 105, 106, 107, 108, 109, 110, 111, 112, 113, 114, 115, 116]⟩) (some (.int .i64 7)) (some (.int .i64 8)) none).run Tryz.prog W = .ok (.string ⟨#[104]⟩) W := fun _ => by kernel_rfl
  refine wp_region_quiet_below (by kernel_rfl) (by kernel_rfl) ?_
  repeat (quiet_step ((go_at_call 74; exact cT _ _)))
  refine wpQuiet_nil ?_
  intro _ hw'
  obtain ⟨⟨dq, osq⟩, hw''⟩ := hw'
  subst hw''
  go_wp2
  go_ret
  exact ⟨retS (str_eq (by simp [Tx.showI])), hw1.trans ((below_regrown w1 dq osq).mono hw1.size)⟩

set_option maxHeartbeats 800000 in
theorem impl9 (a b : Int) (a0 : -9223372036854775808 ≤ a) (a1 : a ≤ 9223372036854775807) (b0 : -9223372036854775808 ≤ b) (b1 : b ≤ 9223372036854775807) (h : Tx.okI 9 a b = true) (B : Nat) (w : World) (hB : B ≤ w.heap.size) (hT : Tab B w) :
    Calls Tryz.prog 54 #[.agg #[.int .i64 9, .int .i64 a, .int .i64 b]] w fun e w' => e = .returned (.string ⟨(Tx.showI 9 a b).toArray⟩) ∧ Below w.heap.size w w' := by
  have lt : (Tx.tellI 9 a b).length ≤ 60 := tell_len a0 a1 b0 b1
  have HT : Hid (Tab B (w.alloc (.cells #[.int .i64 9, .int .i64 a, .int .i64 b] 73))) := hT.on ((Below.refl _ _).alloc hB _)
  have HB : Hid (B ≤ w.heap.size) := hB
  clear hT hB
  go_enter Tryz.func54, Tryz.ntmps54
  go_wp2_with fail
  refine (implOk 9 a b _).mono ?_
  rw [h]
  rintro e w1 ⟨rfl, hb1⟩
  have hw1 : Below w.heap.size w w1 := below_over (by go_grown) hb1
  have hc := box3 hb1
  have c0 := hc.1
  have c1 := hc.2.1
  have c2 := hc.2.2
  have HT1 : Hid (Tab B w1) := HT.out.on (hb1.mono (by have := HB.out; simp; omega))
  clear hc hb1
  go_wp2_with fail
  have k0 := cell_regrown c0
  have k1 := cell_regrown c1
  have k2 := cell_regrown c2
  have cT : ∀ d os, Calls Tryz.prog 74 #[.agg #[.int .i64 9, .int .i64 a, .int .i64 b]] (Sort.grow (redrawn w1 d) os) fun e w'' => e = .returned (.string ⟨(Tx.tellI 9 a b).toArray⟩) ∧ ∃ p : Regrown, w'' = Sort.grow (redrawn w1 p.d) p.os := fun d os =>
    Calls.regrown_of (told9 a b a0 a1 b0 b1 B _ (Nat.le_trans HB.out (Nat.le_trans hw1.size (below_regrown w1 d os).size)) (HT1.out.on ((below_regrown w1 d os).mono (Nat.le_trans HB.out hw1.size))))
  have n1 : ¬ 9223372036854775807 < 1 + (Tx.tellI 9 a b).length := by omega
  have hwr : IntKind.i64.wrap 8 = 8 := by decide
  have hsl : ∀ W, (Instr.slice 9 (.string ⟨#[97, 98, 99, 100, 101, 102, 103, 104, 105, 106, 107, 108, 109, 110, 111, 112, 113, 114, 115, 116]⟩) (some (.int .i64 8)) (some (.int .i64 9)) none).run Tryz.prog W = .ok (.string ⟨#[105]⟩) W := fun _ => by kernel_rfl
  refine wp_region_quiet_below (by kernel_rfl) (by kernel_rfl) ?_
  repeat (quiet_step ((go_at_call 74; exact cT _ _)))
  refine wpQuiet_nil ?_
  intro _ hw'
  obtain ⟨⟨dq, osq⟩, hw''⟩ := hw'
  subst hw''
  go_wp2
  go_ret
  exact ⟨retS (str_eq (by simp [Tx.showI])), hw1.trans ((below_regrown w1 dq osq).mono hw1.size)⟩

set_option maxHeartbeats 800000 in
theorem impl10 (a b : Int) (a0 : -9223372036854775808 ≤ a) (a1 : a ≤ 9223372036854775807) (b0 : -9223372036854775808 ≤ b) (b1 : b ≤ 9223372036854775807) (h : Tx.okI 10 a b = true) (B : Nat) (w : World) (hB : B ≤ w.heap.size) (hT : Tab B w) :
    Calls Tryz.prog 54 #[.agg #[.int .i64 10, .int .i64 a, .int .i64 b]] w fun e w' => e = .returned (.string ⟨(Tx.showI 10 a b).toArray⟩) ∧ Below w.heap.size w w' := by
  have lt : (Tx.tellI 10 a b).length ≤ 60 := tell_len a0 a1 b0 b1
  have HT : Hid (Tab B (w.alloc (.cells #[.int .i64 10, .int .i64 a, .int .i64 b] 73))) := hT.on ((Below.refl _ _).alloc hB _)
  have HB : Hid (B ≤ w.heap.size) := hB
  clear hT hB
  go_enter Tryz.func54, Tryz.ntmps54
  go_wp2_with fail
  refine (implOk 10 a b _).mono ?_
  rw [h]
  rintro e w1 ⟨rfl, hb1⟩
  have hw1 : Below w.heap.size w w1 := below_over (by go_grown) hb1
  have hc := box3 hb1
  have c0 := hc.1
  have c1 := hc.2.1
  have c2 := hc.2.2
  have HT1 : Hid (Tab B w1) := HT.out.on (hb1.mono (by have := HB.out; simp; omega))
  clear hc hb1
  go_wp2_with fail
  have k0 := cell_regrown c0
  have k1 := cell_regrown c1
  have k2 := cell_regrown c2
  have cT : ∀ d os, Calls Tryz.prog 74 #[.agg #[.int .i64 10, .int .i64 a, .int .i64 b]] (Sort.grow (redrawn w1 d) os) fun e w'' => e = .returned (.string ⟨(Tx.tellI 10 a b).toArray⟩) ∧ ∃ p : Regrown, w'' = Sort.grow (redrawn w1 p.d) p.os := fun d os =>
    Calls.regrown_of (told10 a b a0 a1 b0 b1 B _ (Nat.le_trans HB.out (Nat.le_trans hw1.size (below_regrown w1 d os).size)) (HT1.out.on ((below_regrown w1 d os).mono (Nat.le_trans HB.out hw1.size))))
  have n1 : ¬ 9223372036854775807 < 1 + (Tx.tellI 10 a b).length := by omega
  have hwr : IntKind.i64.wrap 9 = 9 := by decide
  have hsl : ∀ W, (Instr.slice 9 (.string ⟨#[97, 98, 99, 100, 101, 102, 103, 104, 105, 106, 107, 108, 109, 110, 111, 112, 113, 114, 115, 116]⟩) (some (.int .i64 9)) (some (.int .i64 10)) none).run Tryz.prog W = .ok (.string ⟨#[106]⟩) W := fun _ => by kernel_rfl
  refine wp_region_quiet_below (by kernel_rfl) (by kernel_rfl) ?_
  repeat (quiet_step ((go_at_call 74; exact cT _ _)))
  refine wpQuiet_nil ?_
  intro _ hw'
  obtain ⟨⟨dq, osq⟩, hw''⟩ := hw'
  subst hw''
  go_wp2
  go_ret
  exact ⟨retS (str_eq (by simp [Tx.showI])), hw1.trans ((below_regrown w1 dq osq).mono hw1.size)⟩

set_option maxHeartbeats 800000 in
theorem impl11 (a b : Int) (a0 : -9223372036854775808 ≤ a) (a1 : a ≤ 9223372036854775807) (b0 : -9223372036854775808 ≤ b) (b1 : b ≤ 9223372036854775807) (h : Tx.okI 11 a b = true) (B : Nat) (w : World) (hB : B ≤ w.heap.size) (hT : Tab B w) :
    Calls Tryz.prog 54 #[.agg #[.int .i64 11, .int .i64 a, .int .i64 b]] w fun e w' => e = .returned (.string ⟨(Tx.showI 11 a b).toArray⟩) ∧ Below w.heap.size w w' := by
  have lt : (Tx.tellI 11 a b).length ≤ 60 := tell_len a0 a1 b0 b1
  have HT : Hid (Tab B (w.alloc (.cells #[.int .i64 11, .int .i64 a, .int .i64 b] 73))) := hT.on ((Below.refl _ _).alloc hB _)
  have HB : Hid (B ≤ w.heap.size) := hB
  clear hT hB
  go_enter Tryz.func54, Tryz.ntmps54
  go_wp2_with fail
  refine (implOk 11 a b _).mono ?_
  rw [h]
  rintro e w1 ⟨rfl, hb1⟩
  have hw1 : Below w.heap.size w w1 := below_over (by go_grown) hb1
  have hc := box3 hb1
  have c0 := hc.1
  have c1 := hc.2.1
  have c2 := hc.2.2
  have HT1 : Hid (Tab B w1) := HT.out.on (hb1.mono (by have := HB.out; simp; omega))
  clear hc hb1
  go_wp2_with fail
  have k0 := cell_regrown c0
  have k1 := cell_regrown c1
  have k2 := cell_regrown c2
  have cT : ∀ d os, Calls Tryz.prog 74 #[.agg #[.int .i64 11, .int .i64 a, .int .i64 b]] (Sort.grow (redrawn w1 d) os) fun e w'' => e = .returned (.string ⟨(Tx.tellI 11 a b).toArray⟩) ∧ ∃ p : Regrown, w'' = Sort.grow (redrawn w1 p.d) p.os := fun d os =>
    Calls.regrown_of (told11 a b a0 a1 b0 b1 B _ (Nat.le_trans HB.out (Nat.le_trans hw1.size (below_regrown w1 d os).size)) (HT1.out.on ((below_regrown w1 d os).mono (Nat.le_trans HB.out hw1.size))))
  have n1 : ¬ 9223372036854775807 < 1 + (Tx.tellI 11 a b).length := by omega
  have hwr : IntKind.i64.wrap 10 = 10 := by decide
  have hsl : ∀ W, (Instr.slice 9 (.string ⟨#[97, 98, 99, 100, 101, 102, 103, 104, 105, 106, 107, 108, 109, 110, 111, 112, 113, 114, 115, 116]⟩) (some (.int .i64 10)) (some (.int .i64 11)) none).run Tryz.prog W = .ok (.string ⟨#[107]⟩) W := fun _ => by kernel_rfl
  refine wp_region_quiet_below (by kernel_rfl) (by kernel_rfl) ?_
  repeat (quiet_step ((go_at_call 74; exact cT _ _)))
  refine wpQuiet_nil ?_
  intro _ hw'
  obtain ⟨⟨dq, osq⟩, hw''⟩ := hw'
  subst hw''
  go_wp2
  go_ret
  exact ⟨retS (str_eq (by simp [Tx.showI])), hw1.trans ((below_regrown w1 dq osq).mono hw1.size)⟩

set_option maxHeartbeats 800000 in
theorem impl12 (a b : Int) (a0 : -9223372036854775808 ≤ a) (a1 : a ≤ 9223372036854775807) (b0 : -9223372036854775808 ≤ b) (b1 : b ≤ 9223372036854775807) (h : Tx.okI 12 a b = true) (B : Nat) (w : World) (hB : B ≤ w.heap.size) (hT : Tab B w) :
    Calls Tryz.prog 54 #[.agg #[.int .i64 12, .int .i64 a, .int .i64 b]] w fun e w' => e = .returned (.string ⟨(Tx.showI 12 a b).toArray⟩) ∧ Below w.heap.size w w' := by
  have lt : (Tx.tellI 12 a b).length ≤ 60 := tell_len a0 a1 b0 b1
  have HT : Hid (Tab B (w.alloc (.cells #[.int .i64 12, .int .i64 a, .int .i64 b] 73))) := hT.on ((Below.refl _ _).alloc hB _)
  have HB : Hid (B ≤ w.heap.size) := hB
  clear hT hB
  go_enter Tryz.func54, Tryz.ntmps54
  go_wp2_with fail
  refine (implOk 12 a b _).mono ?_
  rw [h]
  rintro e w1 ⟨rfl, hb1⟩
  have hw1 : Below w.heap.size w w1 := below_over (by go_grown) hb1
  have hc := box3 hb1
  have c0 := hc.1
  have c1 := hc.2.1
  have c2 := hc.2.2
  have HT1 : Hid (Tab B w1) := HT.out.on (hb1.mono (by have := HB.out; simp; omega))
  clear hc hb1
  go_wp2_with fail
  have k0 := cell_regrown c0
  have k1 := cell_regrown c1
  have k2 := cell_regrown c2
  have cT : ∀ d os, Calls Tryz.prog 74 #[.agg #[.int .i64 12, .int .i64 a, .int .i64 b]] (Sort.grow (redrawn w1 d) os) fun e w'' => e = .returned (.string ⟨(Tx.tellI 12 a b).toArray⟩) ∧ ∃ p : Regrown, w'' = Sort.grow (redrawn w1 p.d) p.os := fun d os =>
    Calls.regrown_of (told12 a b a0 a1 b0 b1 B _ (Nat.le_trans HB.out (Nat.le_trans hw1.size (below_regrown w1 d os).size)) (HT1.out.on ((below_regrown w1 d os).mono (Nat.le_trans HB.out hw1.size))))
  have n1 : ¬ 9223372036854775807 < 1 + (Tx.tellI 12 a b).length := by omega
  have hwr : IntKind.i64.wrap 11 = 11 := by decide
  have hsl : ∀ W, (Instr.slice 9 (.string ⟨#[97, 98, 99, 100, 101, 102, 103, 104, 105, 106, 107, 108, 109, 110, 111, 112, 113, 114, 115, 116]⟩) (some (.int .i64 11)) (some (.int .i64 12)) none).run Tryz.prog W = .ok (.string ⟨#[108]⟩) W := fun _ => by kernel_rfl
  refine wp_region_quiet_below (by kernel_rfl) (by kernel_rfl) ?_
  repeat (quiet_step ((go_at_call 74; exact cT _ _)))
  refine wpQuiet_nil ?_
  intro _ hw'
  obtain ⟨⟨dq, osq⟩, hw''⟩ := hw'
  subst hw''
  go_wp2
  go_ret
  exact ⟨retS (str_eq (by simp [Tx.showI])), hw1.trans ((below_regrown w1 dq osq).mono hw1.size)⟩

set_option maxHeartbeats 800000 in
theorem impl13 (a b : Int) (a0 : -9223372036854775808 ≤ a) (a1 : a ≤ 9223372036854775807) (b0 : -9223372036854775808 ≤ b) (b1 : b ≤ 9223372036854775807) (h : Tx.okI 13 a b = true) (B : Nat) (w : World) (hB : B ≤ w.heap.size) (hT : Tab B w) :
    Calls Tryz.prog 54 #[.agg #[.int .i64 13, .int .i64 a, .int .i64 b]] w fun e w' => e = .returned (.string ⟨(Tx.showI 13 a b).toArray⟩) ∧ Below w.heap.size w w' := by
  have lt : (Tx.tellI 13 a b).length ≤ 60 := tell_len a0 a1 b0 b1
  have HT : Hid (Tab B (w.alloc (.cells #[.int .i64 13, .int .i64 a, .int .i64 b] 73))) := hT.on ((Below.refl _ _).alloc hB _)
  have HB : Hid (B ≤ w.heap.size) := hB
  clear hT hB
  go_enter Tryz.func54, Tryz.ntmps54
  go_wp2_with fail
  refine (implOk 13 a b _).mono ?_
  rw [h]
  rintro e w1 ⟨rfl, hb1⟩
  have hw1 : Below w.heap.size w w1 := below_over (by go_grown) hb1
  have hc := box3 hb1
  have c0 := hc.1
  have c1 := hc.2.1
  have c2 := hc.2.2
  have HT1 : Hid (Tab B w1) := HT.out.on (hb1.mono (by have := HB.out; simp; omega))
  clear hc hb1
  go_wp2_with fail
  have k0 := cell_regrown c0
  have k1 := cell_regrown c1
  have k2 := cell_regrown c2
  have cT : ∀ d os, Calls Tryz.prog 74 #[.agg #[.int .i64 13, .int .i64 a, .int .i64 b]] (Sort.grow (redrawn w1 d) os) fun e w'' => e = .returned (.string ⟨(Tx.tellI 13 a b).toArray⟩) ∧ ∃ p : Regrown, w'' = Sort.grow (redrawn w1 p.d) p.os := fun d os =>
    Calls.regrown_of (told13 a b a0 a1 b0 b1 B _ (Nat.le_trans HB.out (Nat.le_trans hw1.size (below_regrown w1 d os).size)) (HT1.out.on ((below_regrown w1 d os).mono (Nat.le_trans HB.out hw1.size))))
  have n1 : ¬ 9223372036854775807 < 1 + (Tx.tellI 13 a b).length := by omega
  have hwr : IntKind.i64.wrap 12 = 12 := by decide
  have hsl : ∀ W, (Instr.slice 9 (.string ⟨#[97, 98, 99, 100, 101, 102, 103, 104, 105, 106, 107, 108, 109, 110, 111, 112, 113, 114, 115, 116]⟩) (some (.int .i64 12)) (some (.int .i64 13)) none).run Tryz.prog W = .ok (.string ⟨#[109]⟩) W := fun _ => by kernel_rfl
  refine wp_region_quiet_below (by kernel_rfl) (by kernel_rfl) ?_
  repeat (quiet_step ((go_at_call 74; exact cT _ _)))
  refine wpQuiet_nil ?_
  intro _ hw'
  obtain ⟨⟨dq, osq⟩, hw''⟩ := hw'
  subst hw''
  go_wp2
  go_ret
  exact ⟨retS (str_eq (by simp [Tx.showI])), hw1.trans ((below_regrown w1 dq osq).mono hw1.size)⟩

set_option maxHeartbeats 800000 in
theorem impl14 (a b : Int) (a0 : -9223372036854775808 ≤ a) (a1 : a ≤ 9223372036854775807) (b0 : -9223372036854775808 ≤ b) (b1 : b ≤ 9223372036854775807) (h : Tx.okI 14 a b = true) (B : Nat) (w : World) (hB : B ≤ w.heap.size) (hT : Tab B w) :
    Calls Tryz.prog 54 #[.agg #[.int .i64 14, .int .i64 a, .int .i64 b]] w fun e w' => e = .returned (.string ⟨(Tx.showI 14 a b).toArray⟩) ∧ Below w.heap.size w w' := by
  have lt : (Tx.tellI 14 a b).length ≤ 60 := tell_len a0 a1 b0 b1
  have HT : Hid (Tab B (w.alloc (.cells #[.int .i64 14, .int .i64 a, .int .i64 b] 73))) := hT.on ((Below.refl _ _).alloc hB _)
  have HB : Hid (B ≤ w.heap.size) := hB
  clear hT hB
  go_enter Tryz.func54, Tryz.ntmps54
  go_wp2_with fail
  refine (implOk 14 a b _).mono ?_
  rw [h]
  rintro e w1 ⟨rfl, hb1⟩
  have hw1 : Below w.heap.size w w1 := below_over (by go_grown) hb1
  have hc := box3 hb1
  have c0 := hc.1
  have c1 := hc.2.1
  have c2 := hc.2.2
  have HT1 : Hid (Tab B w1) := HT.out.on (hb1.mono (by have := HB.out; simp; omega))
  clear hc hb1
  go_wp2_with fail
  have k0 := cell_regrown c0
  have k1 := cell_regrown c1
  have k2 := cell_regrown c2
  have cT : ∀ d os, Calls Tryz.prog 74 #[.agg #[.int .i64 14, .int .i64 a, .int .i64 b]] (Sort.grow (redrawn w1 d) os) fun e w'' => e = .returned (.string ⟨(Tx.tellI 14 a b).toArray⟩) ∧ ∃ p : Regrown, w'' = Sort.grow (redrawn w1 p.d) p.os := fun d os =>
    Calls.regrown_of (told14 a b a0 a1 b0 b1 B _ (Nat.le_trans HB.out (Nat.le_trans hw1.size (below_regrown w1 d os).size)) (HT1.out.on ((below_regrown w1 d os).mono (Nat.le_trans HB.out hw1.size))))
  have n1 : ¬ 9223372036854775807 < 1 + (Tx.tellI 14 a b).length := by omega
  have hwr : IntKind.i64.wrap 13 = 13 := by decide
  have hsl : ∀ W, (Instr.slice 9 (.string ⟨#[97, 98, 99, 100, 101, 102, 103, 104, 105, 106, 107, 108, 109, 110, 111, 112, 113, 114, 115, 116]⟩) (some (.int .i64 13)) (some (.int .i64 14)) none).run Tryz.prog W = .ok (.string ⟨#[110]⟩) W := fun _ => by kernel_rfl
  refine wp_region_quiet_below (by kernel_rfl) (by kernel_rfl) ?_
  repeat (quiet_step ((go_at_call 74; exact cT _ _)))
  refine wpQuiet_nil ?_
  intro _ hw'
  obtain ⟨⟨dq, osq⟩, hw''⟩ := hw'
  subst hw''
  go_wp2
  go_ret
  exact ⟨retS (str_eq (by simp [Tx.showI])), hw1.trans ((below_regrown w1 dq osq).mono hw1.size)⟩

set_option maxHeartbeats 800000 in
theorem impl15 (a b : Int) (a0 : -9223372036854775808 ≤ a) (a1 : a ≤ 9223372036854775807) (b0 : -9223372036854775808 ≤ b) (b1 : b ≤ 9223372036854775807) (h : Tx.okI 15 a b = true) (B : Nat) (w : World) (hB : B ≤ w.heap.size) (hT : Tab B w) :
    Calls Tryz.prog 54 #[.agg #[.int .i64 15, .int .i64 a, .int .i64 b]] w fun e w' => e = .returned (.string ⟨(Tx.showI 15 a b).toArray⟩) ∧ Below w.heap.size w w' := by
  have lt : (Tx.tellI 15 a b).length ≤ 60 := tell_len a0 a1 b0 b1
  have HT : Hid (Tab B (w.alloc (.cells #[.int .i64 15, .int .i64 a, .int .i64 b] 73))) := hT.on ((Below.refl _ _).alloc hB _)
  have HB : Hid (B ≤ w.heap.size) := hB
  clear hT hB
  go_enter Tryz.func54, Tryz.ntmps54
  go_wp2_with fail
  refine (implOk 15 a b _).mono ?_
  rw [h]
  rintro e w1 ⟨rfl, hb1⟩
  have hw1 : Below w.heap.size w w1 := below_over (by go_grown) hb1
  have hc := box3 hb1
  have c0 := hc.1
  have c1 := hc.2.1
  have c2 := hc.2.2
  have HT1 : Hid (Tab B w1) := HT.out.on (hb1.mono (by have := HB.out; simp; omega))
  clear hc hb1
  go_wp2_with fail
  have k0 := cell_regrown c0
  have k1 := cell_regrown c1
  have k2 := cell_regrown c2
  have cT : ∀ d os, Calls Tryz.prog 74 #[.agg #[.int .i64 15, .int .i64 a, .int .i64 b]] (Sort.grow (redrawn w1 d) os) fun e w'' => e = .returned (.string ⟨(Tx.tellI 15 a b).toArray⟩) ∧ ∃ p : Regrown, w'' = Sort.grow (redrawn w1 p.d) p.os := fun d os =>
    Calls.regrown_of (told15 a b a0 a1 b0 b1 B _ (Nat.le_trans HB.out (Nat.le_trans hw1.size (below_regrown w1 d os).size)) (HT1.out.on ((below_regrown w1 d os).mono (Nat.le_trans HB.out hw1.size))))
  have n1 : ¬ 9223372036854775807 < 1 + (Tx.tellI 15 a b).length := by omega
  have hwr : IntKind.i64.wrap 14 = 14 := by decide
  have hsl : ∀ W, (Instr.slice 9 (.string ⟨#[97, 98, 99, 100, 101, 102, 103, 104, 105, 106, 107, 108, 109, 110, 111, 112, 113, 114, 115, 116]⟩) (some (.int .i64 14)) (some (.int .i64 15)) none).run Tryz.prog W = .ok (.string ⟨#[111]⟩) W := fun _ => by kernel_rfl
  refine wp_region_quiet_below (by kernel_rfl) (by kernel_rfl) ?_
  repeat (quiet_step ((go_at_call 74; exact cT _ _)))
  refine wpQuiet_nil ?_
  intro _ hw'
  obtain ⟨⟨dq, osq⟩, hw''⟩ := hw'
  subst hw''
  go_wp2
  go_ret
  exact ⟨retS (str_eq (by simp [Tx.showI])), hw1.trans ((below_regrown w1 dq osq).mono hw1.size)⟩

set_option maxHeartbeats 800000 in
theorem impl16 (a b : Int) (a0 : -9223372036854775808 ≤ a) (a1 : a ≤ 9223372036854775807) (b0 : -9223372036854775808 ≤ b) (b1 : b ≤ 9223372036854775807) (h : Tx.okI 16 a b = true) (B : Nat) (w : World) (hB : B ≤ w.heap.size) (hT : Tab B w) :
    Calls Tryz.prog 54 #[.agg #[.int .i64 16, .int .i64 a, .int .i64 b]] w fun e w' => e = .returned (.string ⟨(Tx.showI 16 a b).toArray⟩) ∧ Below w.heap.size w w' := by
  have lt : (Tx.tellI 16 a b).length ≤ 60 := tell_len a0 a1 b0 b1
  have HT : Hid (Tab B (w.alloc (.cells #[.int .i64 16, .int .i64 a, .int .i64 b] 73))) := hT.on ((Below.refl _ _).alloc hB _)
  have HB : Hid (B ≤ w.heap.size) := hB
  clear hT hB
  go_enter Tryz.func54, Tryz.ntmps54
  go_wp2_with fail
  refine (implOk 16 a b _).mono ?_
  rw [h]
  rintro e w1 ⟨rfl, hb1⟩
  have hw1 : Below w.heap.size w w1 := below_over (by go_grown) hb1
  have hc := box3 hb1
  have c0 := hc.1
  have c1 := hc.2.1
  have c2 := hc.2.2
  have HT1 : Hid (Tab B w1) := HT.out.on (hb1.mono (by have := HB.out; simp; omega))
  clear hc hb1
  go_wp2_with fail
  have k0 := cell_regrown c0
  have k1 := cell_regrown c1
  have k2 := cell_regrown c2
  have cT : ∀ d os, Calls Tryz.prog 74 #[.agg #[.int .i64 16, .int .i64 a, .int .i64 b]] (Sort.grow (redrawn w1 d) os) fun e w'' => e = .returned (.string ⟨(Tx.tellI 16 a b).toArray⟩) ∧ ∃ p : Regrown, w'' = Sort.grow (redrawn w1 p.d) p.os := fun d os =>
    Calls.regrown_of (told16 a b a0 a1 b0 b1 B _ (Nat.le_trans HB.out (Nat.le_trans hw1.size (below_regrown w1 d os).size)) (HT1.out.on ((below_regrown w1 d os).mono (Nat.le_trans HB.out hw1.size))))
  have n1 : ¬ 9223372036854775807 < 1 + (Tx.tellI 16 a b).length := by omega
  have hwr : IntKind.i64.wrap 15 = 15 := by decide
  have hsl : ∀ W, (Instr.slice 9 (.string ⟨#[97, 98, 99, 100, 101, 102, 103, 104, 105, 106, 107, 108, 109, 110, 111, 112, 113, 114, 115, 116]⟩) (some (.int .i64 15)) (some (.int .i64 16)) none).run Tryz.prog W = .ok (.string ⟨#[112]⟩) W := fun _ => by kernel_rfl
  refine wp_region_quiet_below (by kernel_rfl) (by kernel_rfl) ?_
  repeat (quiet_step ((go_at_call 74; exact cT _ _)))
  refine wpQuiet_nil ?_
  intro _ hw'
  obtain ⟨⟨dq, osq⟩, hw''⟩ := hw'
  subst hw''
  go_wp2
  go_ret
  exact ⟨retS (str_eq (by simp [Tx.showI])), hw1.trans ((below_regrown w1 dq osq).mono hw1.size)⟩

set_option maxHeartbeats 800000 in
theorem impl17 (a b : Int) (a0 : -9223372036854775808 ≤ a) (a1 : a ≤ 9223372036854775807) (b0 : -9223372036854775808 ≤ b) (b1 : b ≤ 9223372036854775807) (h : Tx.okI 17 a b = true) (B : Nat) (w : World) (hB : B ≤ w.heap.size) (hT : Tab B w) :
    Calls Tryz.prog 54 #[.agg #[.int .i64 17, .int .i64 a, .int .i64 b]] w fun e w' => e = .returned (.string ⟨(Tx.showI 17 a b).toArray⟩) ∧ Below w.heap.size w w' := by
  have lt : (Tx.tellI 17 a b).length ≤ 60 := tell_len a0 a1 b0 b1
  have HT : Hid (Tab B (w.alloc (.cells #[.int .i64 17, .int .i64 a, .int .i64 b] 73))) := hT.on ((Below.refl _ _).alloc hB _)
  have HB : Hid (B ≤ w.heap.size) := hB
  clear hT hB
  go_enter Tryz.func54, Tryz.ntmps54
  go_wp2_with fail
  refine (implOk 17 a b _).mono ?_
  rw [h]
  rintro e w1 ⟨rfl, hb1⟩
  have hw1 : Below w.heap.size w w1 := below_over (by go_grown) hb1
  have hc := box3 hb1
  have c0 := hc.1
  have c1 := hc.2.1
  have c2 := hc.2.2
  have HT1 : Hid (Tab B w1) := HT.out.on (hb1.mono (by have := HB.out; simp; omega))
  clear hc hb1
  go_wp2_with fail
  have k0 := cell_regrown c0
  have k1 := cell_regrown c1
  have k2 := cell_regrown c2
  have cT : ∀ d os, Calls Tryz.prog 74 #[.agg #[.int .i64 17, .int .i64 a, .int .i64 b]] (Sort.grow (redrawn w1 d) os) fun e w'' => e = .returned (.string ⟨(Tx.tellI 17 a b).toArray⟩) ∧ ∃ p : Regrown, w'' = Sort.grow (redrawn w1 p.d) p.os := fun d os =>
    Calls.regrown_of (told17 a b a0 a1 b0 b1 B _ (Nat.le_trans HB.out (Nat.le_trans hw1.size (below_regrown w1 d os).size)) (HT1.out.on ((below_regrown w1 d os).mono (Nat.le_trans HB.out hw1.size))))
  have n1 : ¬ 9223372036854775807 < 1 + (Tx.tellI 17 a b).length := by omega
  have hwr : IntKind.i64.wrap 16 = 16 := by decide
  have hsl : ∀ W, (Instr.slice 9 (.string ⟨#[97, 98, 99, 100, 101, 102, 103, 104, 105, 106, 107, 108, 109, 110, 111, 112, 113, 114, 115, 116]⟩) (some (.int .i64 16)) (some (.int .i64 17)) none).run Tryz.prog W = .ok (.string ⟨#[113]⟩) W := fun _ => by kernel_rfl
  refine wp_region_quiet_below (by kernel_rfl) (by kernel_rfl) ?_
  repeat (quiet_step ((go_at_call 74; exact cT _ _)))
  refine wpQuiet_nil ?_
  intro _ hw'
  obtain ⟨⟨dq, osq⟩, hw''⟩ := hw'
  subst hw''
  go_wp2
  go_ret
  exact ⟨retS (str_eq (by simp [Tx.showI])), hw1.trans ((below_regrown w1 dq osq).mono hw1.size)⟩

set_option maxHeartbeats 800000 in
theorem impl18 (a b : Int) (a0 : -9223372036854775808 ≤ a) (a1 : a ≤ 9223372036854775807) (b0 : -9223372036854775808 ≤ b) (b1 : b ≤ 9223372036854775807) (h : Tx.okI 18 a b = true) (B : Nat) (w : World) (hB : B ≤ w.heap.size) (hT : Tab B w) :
    Calls Tryz.prog 54 #[.agg #[.int .i64 18, .int .i64 a, .int .i64 b]] w fun e w' => e = .returned (.string ⟨(Tx.showI 18 a b).toArray⟩) ∧ Below w.heap.size w w' := by
  have lt : (Tx.tellI 18 a b).length ≤ 60 := tell_len a0 a1 b0 b1
  have HT : Hid (Tab B (w.alloc (.cells #[.int .i64 18, .int .i64 a, .int .i64 b] 73))) := hT.on ((Below.refl _ _).alloc hB _)
  have HB : Hid (B ≤ w.heap.size) := hB
  clear hT hB
  go_enter Tryz.func54, Tryz.ntmps54
  go_wp2_with fail
  refine (implOk 18 a b _).mono ?_
  rw [h]
  rintro e w1 ⟨rfl, hb1⟩
  have hw1 : Below w.heap.size w w1 := below_over (by go_grown) hb1
  have hc := box3 hb1
  have c0 := hc.1
  have c1 := hc.2.1
  have c2 := hc.2.2
  have HT1 : Hid (Tab B w1) := HT.out.on (hb1.mono (by have := HB.out; simp; omega))
  clear hc hb1
  go_wp2_with fail
  have k0 := cell_regrown c0
  have k1 := cell_regrown c1
  have k2 := cell_regrown c2
  have cT : ∀ d os, Calls Tryz.prog 74 #[.agg #[.int .i64 18, .int .i64 a, .int .i64 b]] (Sort.grow (redrawn w1 d) os) fun e w'' => e = .returned (.string ⟨(Tx.tellI 18 a b).toArray⟩) ∧ ∃ p : Regrown, w'' = Sort.grow (redrawn w1 p.d) p.os := fun d os =>
    Calls.regrown_of (told18 a b a0 a1 b0 b1 B _ (Nat.le_trans HB.out (Nat.le_trans hw1.size (below_regrown w1 d os).size)) (HT1.out.on ((below_regrown w1 d os).mono (Nat.le_trans HB.out hw1.size))))
  have n1 : ¬ 9223372036854775807 < 1 + (Tx.tellI 18 a b).length := by omega
  have hwr : IntKind.i64.wrap 17 = 17 := by decide
  have hsl : ∀ W, (Instr.slice 9 (.string ⟨#[97, 98, 99, 100, 101, 102, 103, 104, 105, 106, 107, 108, 109, 110, 111, 112, 113, 114, 115, 116]⟩) (some (.int .i64 17)) (some (.int .i64 18)) none).run Tryz.prog W = .ok (.string ⟨#[114]⟩) W := fun _ => by kernel_rfl
  refine wp_region_quiet_below (by kernel_rfl) (by kernel_rfl) ?_
  repeat (quiet_step ((go_at_call 74; exact cT _ _)))
  refine wpQuiet_nil ?_
  intro _ hw'
  obtain ⟨⟨dq, osq⟩, hw''⟩ := hw'
  subst hw''
  go_wp2
  go_ret
  exact ⟨retS (str_eq (by simp [Tx.showI])), hw1.trans ((below_regrown w1 dq osq).mono hw1.size)⟩

set_option maxHeartbeats 800000 in
theorem impl19 (a b : Int) (a0 : -9223372036854775808 ≤ a) (a1 : a ≤ 9223372036854775807) (b0 : -9223372036854775808 ≤ b) (b1 : b ≤ 9223372036854775807) (h : Tx.okI 19 a b = true) (B : Nat) (w : World) (hB : B ≤ w.heap.size) (hT : Tab B w) :
    Calls Tryz.prog 54 #[.agg #[.int .i64 19, .int .i64 a, .int .i64 b]] w fun e w' => e = .returned (.string ⟨(Tx.showI 19 a b).toArray⟩) ∧ Below w.heap.size w w' := by
  have lt : (Tx.tellI 19 a b).length ≤ 60 := tell_len a0 a1 b0 b1
  have HT : Hid (Tab B (w.alloc (.cells #[.int .i64 19, .int .i64 a, .int .i64 b] 73))) := hT.on ((Below.refl _ _).alloc hB _)
  have HB : Hid (B ≤ w.heap.size) := hB
  clear hT hB
  go_enter Tryz.func54, Tryz.ntmps54
  go_wp2_with fail
  refine (implOk 19 a b _).mono ?_
  rw [h]
  rintro e w1 ⟨rfl, hb1⟩
  have hw1 : Below w.heap.size w w1 := below_over (by go_grown) hb1
  have hc := box3 hb1
  have c0 := hc.1
  have c1 := hc.2.1
  have c2 := hc.2.2
  have HT1 : Hid (Tab B w1) := HT.out.on (hb1.mono (by have := HB.out; simp; omega))
  clear hc hb1
  go_wp2_with fail
  have k0 := cell_regrown c0
  have k1 := cell_regrown c1
  have k2 := cell_regrown c2
  have cT : ∀ d os, Calls Tryz.prog 74 #[.agg #[.int .i64 19, .int .i64 a, .int .i64 b]] (Sort.grow (redrawn w1 d) os) fun e w'' => e = .returned (.string ⟨(Tx.tellI 19 a b).toArray⟩) ∧ ∃ p : Regrown, w'' = Sort.grow (redrawn w1 p.d) p.os := fun d os =>
    Calls.regrown_of (told19 a b a0 a1 b0 b1 B _ (Nat.le_trans HB.out (Nat.le_trans hw1.size (below_regrown w1 d os).size)) (HT1.out.on ((below_regrown w1 d os).mono (Nat.le_trans HB.out hw1.size))))
  have n1 : ¬ 9223372036854775807 < 1 + (Tx.tellI 19 a b).length := by omega
  have hwr : IntKind.i64.wrap 18 = 18 := by decide
  have hsl : ∀ W, (Instr.slice 9 (.string ⟨#[97, 98, 99, 100, 101, 102, 103, 104, 105, 106, 107, 108, 109, 110, 111, 112, 113, 114, 115, 116]⟩) (some (.int .i64 18)) (some (.int .i64 19)) none).run Tryz.prog W = .ok (.string ⟨#[115]⟩) W := fun _ => by kernel_rfl
  refine wp_region_quiet_below (by kernel_rfl) (by kernel_rfl) ?_
  repeat (quiet_step ((go_at_call 74; exact cT _ _)))
  refine wpQuiet_nil ?_
  intro _ hw'
  obtain ⟨⟨dq, osq⟩, hw''⟩ := hw'
  subst hw''
  go_wp2
  go_ret
  exact ⟨retS (str_eq (by simp [Tx.showI])), hw1.trans ((below_regrown w1 dq osq).mono hw1.size)⟩

set_option maxHeartbeats 800000 in
theorem impl20 (a b : Int) (a0 : -9223372036854775808 ≤ a) (a1 : a ≤ 9223372036854775807) (b0 : -9223372036854775808 ≤ b) (b1 : b ≤ 9223372036854775807) (h : Tx.okI 20 a b = true) (B : Nat) (w : World) (hB : B ≤ w.heap.size) (hT : Tab B w) :
    Calls Tryz.prog 54 #[.agg #[.int .i64 20, .int .i64 a, .int .i64 b]] w fun e w' => e = .returned (.string ⟨(Tx.showI 20 a b).toArray⟩) ∧ Below w.heap.size w w' := by
  have lt : (Tx.tellI 20 a b).length ≤ 60 := tell_len a0 a1 b0 b1
  have HT : Hid (Tab B (w.alloc (.cells #[.int .i64 20, .int .i64 a, .int .i64 b] 73))) := hT.on ((Below.refl _ _).alloc hB _)
  have HB : Hid (B ≤ w.heap.size) := hB
  clear hT hB
  go_enter Tryz.func54, Tryz.ntmps54
  go_wp2_with fail
  refine (implOk 20 a b _).mono ?_
  rw [h]
  rintro e w1 ⟨rfl, hb1⟩
  have hw1 : Below w.heap.size w w1 := below_over (by go_grown) hb1
  have hc := box3 hb1
  have c0 := hc.1
  have c1 := hc.2.1
  have c2 := hc.2.2
  have HT1 : Hid (Tab B w1) := HT.out.on (hb1.mono (by have := HB.out; simp; omega))
  clear hc hb1
  go_wp2_with fail
  have k0 := cell_regrown c0
  have k1 := cell_regrown c1
  have k2 := cell_regrown c2
  have cT : ∀ d os, Calls Tryz.prog 74 #[.agg #[.int .i64 20, .int .i64 a, .int .i64 b]] (Sort.grow (redrawn w1 d) os) fun e w'' => e = .returned (.string ⟨(Tx.tellI 20 a b).toArray⟩) ∧ ∃ p : Regrown, w'' = Sort.grow (redrawn w1 p.d) p.os := fun d os =>
    Calls.regrown_of (told20 a b a0 a1 b0 b1 B _ (Nat.le_trans HB.out (Nat.le_trans hw1.size (below_regrown w1 d os).size)) (HT1.out.on ((below_regrown w1 d os).mono (Nat.le_trans HB.out hw1.size))))
  have n1 : ¬ 9223372036854775807 < 1 + (Tx.tellI 20 a b).length := by omega
  have hwr : IntKind.i64.wrap 19 = 19 := by decide
  have hsl : ∀ W, (Instr.slice 9 (.string ⟨#[97, 98, 99, 100, 101, 102, 103, 104, 105, 106, 107, 108, 109, 110, 111, 112, 113, 114, 115, 116]⟩) (some (.int .i64 19)) (some (.int .i64 20)) none).run Tryz.prog W = .ok (.string ⟨#[116]⟩) W := fun _ => by kernel_rfl
  refine wp_region_quiet_below (by kernel_rfl) (by kernel_rfl) ?_
  repeat (quiet_step ((go_at_call 74; exact cT _ _)))
  refine wpQuiet_nil ?_
  intro _ hw'
  obtain ⟨⟨dq, osq⟩, hw''⟩ := hw'
  subst hw''
  go_wp2
  go_ret
  exact ⟨retS (str_eq (by simp [Tx.showI])), hw1.trans ((below_regrown w1 dq osq).mono hw1.size)⟩

end St
end Go.Proofs.YtbgbddahniacbaaGreatDoor
