/- The contracts of the two sides' showing of a step. -/
import Derived.Test.YtkjoljcgbjodlaaDoorShow1
import Derived.Test.YtkjoljcgbjodlaaDoorShelf
import Derived.Lib.AppendIntMem
namespace Go.Proofs.YtkjoljcgbjodlaaDoor
namespace St
open Go.ChangeShapes Go.WideShapes Go.ChangeAt Go.RowKit

/-- The table of powers lies in w, and in every world that has grown out of it. -/
def Tab (B : Nat) (w : World) : Prop := Lib.TabBelow Tryd.prog B w "internal/strconv.uint64pow10" .u64 Lib.pow10Tab
theorem Tab.on {B : Nat} {w w1 : World} (h : Tab B w) (hb : Below B w w1) : Tab B w1 := Lib.TabBelow.on h hb

theorem box3 {w w1 : World} {x y z : Value} {t : TypeId} (hb : Below (w.alloc (.cells #[x, y, z] t)).heap.size (w.alloc (.cells #[x, y, z] t)) w1) :
    w1.cell? ⟨w.heap.size, 0, none⟩ = some x ∧ w1.cell? ⟨w.heap.size, 1, none⟩ = some y ∧ w1.cell? ⟨w.heap.size, 2, none⟩ = some z :=
  ⟨(hb.cell (by simp)).trans (by simp), (hb.cell (by simp)).trans (by simp), (hb.cell (by simp)).trans (by simp)⟩

theorem number_at (n : Int) (h0 : -9223372036854775808 ≤ n) (h1 : n ≤ 9223372036854775807) (B : Nat) (w : World) (hT : Tab B w) :
    Calls Tryd.prog 33 #[.int .i64 n] w fun e w' => e = .returned (.string ⟨(Lib.itoa n).toArray⟩) ∧ Below w.heap.size w w' := by
  have ht : Lib.TabIs Tryd.prog w "internal/strconv.uint64pow10" .u64 Lib.pow10Tab := hT.here
  have HT : Hid (Lib.TabIs Tryd.prog w "internal/strconv.uint64pow10" .u64 Lib.pow10Tab) := ht
  clear ht hT
  go_enter Tryd.func33, Tryd.ntmps33
  go_wp2_with (go_at_call 55; refine (Tryd.strconv_FormatInt_10 n h0 h1 _ HT.out).mono ?_; rintro e w' ⟨rfl, k, os, rfl⟩)
  go_ret
  refine ⟨rfl, ?_⟩
  exact Lib.below_grow _ _ (Nat.le_refl _) _ _

set_option maxHeartbeats 800000 in
theorem told1 (a b : Int) (a0 : -9223372036854775808 ≤ a) (a1 : a ≤ 9223372036854775807) (b0 : -9223372036854775808 ≤ b) (b1 : b ≤ 9223372036854775807) (B : Nat) (w : World) (hB : B ≤ w.heap.size) (hT : Tab B w) :
    Calls Tryd.prog 72 #[.agg #[.int .i64 1, .int .i64 a, .int .i64 b]] w fun e w' => e = .returned (.string ⟨(Tx.tellI 1 a b).toArray⟩) ∧ Below w.heap.size w w' := by
  have la := Lib.itoa_length_le a a0 a1
  have lb := Lib.itoa_length_le b b0 b1
  have HT : Hid (Tab B (w.alloc (.cells #[.int .i64 1, .int .i64 a, .int .i64 b] 82))) := hT.on ((Below.refl _ _).alloc hB _)
  have HB : Hid (B ≤ w.heap.size) := hB
  clear hT hB
  go_enter Tryd.func72, Tryd.ntmps72
  go_wp2_with (go_at_call 33; refine (number_at a a0 a1 B _ HT.out).mono ?_; rintro e w1 ⟨rfl, hb1⟩)
  go_ret
  exact ⟨retS (str_eq (by simp [Tx.tellI, Tx.cnt])), below_over (by go_grown) hb1⟩

set_option maxHeartbeats 800000 in
theorem told2 (a b : Int) (a0 : -9223372036854775808 ≤ a) (a1 : a ≤ 9223372036854775807) (b0 : -9223372036854775808 ≤ b) (b1 : b ≤ 9223372036854775807) (B : Nat) (w : World) (hB : B ≤ w.heap.size) (hT : Tab B w) :
    Calls Tryd.prog 72 #[.agg #[.int .i64 2, .int .i64 a, .int .i64 b]] w fun e w' => e = .returned (.string ⟨(Tx.tellI 2 a b).toArray⟩) ∧ Below w.heap.size w w' := by
  have la := Lib.itoa_length_le a a0 a1
  have lb := Lib.itoa_length_le b b0 b1
  have HT : Hid (Tab B (w.alloc (.cells #[.int .i64 2, .int .i64 a, .int .i64 b] 82))) := hT.on ((Below.refl _ _).alloc hB _)
  have HB : Hid (B ≤ w.heap.size) := hB
  clear hT hB
  go_enter Tryd.func72, Tryd.ntmps72
  go_wp2_with (go_at_call 33; refine (number_at a a0 a1 B _ HT.out).mono ?_; rintro e w1 ⟨rfl, hb1⟩)
  go_ret
  exact ⟨retS (str_eq (by simp [Tx.tellI, Tx.cnt])), below_over (by go_grown) hb1⟩

set_option maxHeartbeats 800000 in
theorem told3 (a b : Int) (a0 : -9223372036854775808 ≤ a) (a1 : a ≤ 9223372036854775807) (b0 : -9223372036854775808 ≤ b) (b1 : b ≤ 9223372036854775807) (B : Nat) (w : World) (hB : B ≤ w.heap.size) (hT : Tab B w) :
    Calls Tryd.prog 72 #[.agg #[.int .i64 3, .int .i64 a, .int .i64 b]] w fun e w' => e = .returned (.string ⟨(Tx.tellI 3 a b).toArray⟩) ∧ Below w.heap.size w w' := by
  have la := Lib.itoa_length_le a a0 a1
  have lb := Lib.itoa_length_le b b0 b1
  have HT : Hid (Tab B (w.alloc (.cells #[.int .i64 3, .int .i64 a, .int .i64 b] 82))) := hT.on ((Below.refl _ _).alloc hB _)
  have HB : Hid (B ≤ w.heap.size) := hB
  clear hT hB
  go_enter Tryd.func72, Tryd.ntmps72
  go_wp2_with (go_at_call 33; refine (number_at a a0 a1 B _ HT.out).mono ?_; rintro e w1 ⟨rfl, hb1⟩)
  go_ret
  exact ⟨retS (str_eq (by simp [Tx.tellI, Tx.cnt])), below_over (by go_grown) hb1⟩

set_option maxHeartbeats 800000 in
theorem told4 (a b : Int) (a0 : -9223372036854775808 ≤ a) (a1 : a ≤ 9223372036854775807) (b0 : -9223372036854775808 ≤ b) (b1 : b ≤ 9223372036854775807) (B : Nat) (w : World) (hB : B ≤ w.heap.size) (hT : Tab B w) :
    Calls Tryd.prog 72 #[.agg #[.int .i64 4, .int .i64 a, .int .i64 b]] w fun e w' => e = .returned (.string ⟨(Tx.tellI 4 a b).toArray⟩) ∧ Below w.heap.size w w' := by
  have la := Lib.itoa_length_le a a0 a1
  have lb := Lib.itoa_length_le b b0 b1
  have HT : Hid (Tab B (w.alloc (.cells #[.int .i64 4, .int .i64 a, .int .i64 b] 82))) := hT.on ((Below.refl _ _).alloc hB _)
  have HB : Hid (B ≤ w.heap.size) := hB
  clear hT hB
  go_enter Tryd.func72, Tryd.ntmps72
  go_wp2
  go_ret
  exact ⟨rfl, by go_grown⟩

set_option maxHeartbeats 800000 in
theorem told5 (a b : Int) (a0 : -9223372036854775808 ≤ a) (a1 : a ≤ 9223372036854775807) (b0 : -9223372036854775808 ≤ b) (b1 : b ≤ 9223372036854775807) (B : Nat) (w : World) (hB : B ≤ w.heap.size) (hT : Tab B w) :
    Calls Tryd.prog 72 #[.agg #[.int .i64 5, .int .i64 a, .int .i64 b]] w fun e w' => e = .returned (.string ⟨(Tx.tellI 5 a b).toArray⟩) ∧ Below w.heap.size w w' := by
  have la := Lib.itoa_length_le a a0 a1
  have lb := Lib.itoa_length_le b b0 b1
  have HT : Hid (Tab B (w.alloc (.cells #[.int .i64 5, .int .i64 a, .int .i64 b] 82))) := hT.on ((Below.refl _ _).alloc hB _)
  have HB : Hid (B ≤ w.heap.size) := hB
  clear hT hB
  go_enter Tryd.func72, Tryd.ntmps72
  go_wp2
  go_ret
  exact ⟨rfl, by go_grown⟩

set_option maxHeartbeats 800000 in
theorem told6 (a b : Int) (a0 : -9223372036854775808 ≤ a) (a1 : a ≤ 9223372036854775807) (b0 : -9223372036854775808 ≤ b) (b1 : b ≤ 9223372036854775807) (B : Nat) (w : World) (hB : B ≤ w.heap.size) (hT : Tab B w) :
    Calls Tryd.prog 72 #[.agg #[.int .i64 6, .int .i64 a, .int .i64 b]] w fun e w' => e = .returned (.string ⟨(Tx.tellI 6 a b).toArray⟩) ∧ Below w.heap.size w w' := by
  have la := Lib.itoa_length_le a a0 a1
  have lb := Lib.itoa_length_le b b0 b1
  have HT : Hid (Tab B (w.alloc (.cells #[.int .i64 6, .int .i64 a, .int .i64 b] 82))) := hT.on ((Below.refl _ _).alloc hB _)
  have HB : Hid (B ≤ w.heap.size) := hB
  clear hT hB
  go_enter Tryd.func72, Tryd.ntmps72
  go_wp2
  go_ret
  exact ⟨rfl, by go_grown⟩

set_option maxHeartbeats 800000 in
theorem told7 (a b : Int) (a0 : -9223372036854775808 ≤ a) (a1 : a ≤ 9223372036854775807) (b0 : -9223372036854775808 ≤ b) (b1 : b ≤ 9223372036854775807) (B : Nat) (w : World) (hB : B ≤ w.heap.size) (hT : Tab B w) :
    Calls Tryd.prog 72 #[.agg #[.int .i64 7, .int .i64 a, .int .i64 b]] w fun e w' => e = .returned (.string ⟨(Tx.tellI 7 a b).toArray⟩) ∧ Below w.heap.size w w' := by
  have la := Lib.itoa_length_le a a0 a1
  have lb := Lib.itoa_length_le b b0 b1
  have HT : Hid (Tab B (w.alloc (.cells #[.int .i64 7, .int .i64 a, .int .i64 b] 82))) := hT.on ((Below.refl _ _).alloc hB _)
  have HB : Hid (B ≤ w.heap.size) := hB
  clear hT hB
  go_enter Tryd.func72, Tryd.ntmps72
  go_wp2
  go_ret
  exact ⟨rfl, by go_grown⟩

set_option maxHeartbeats 800000 in
theorem told8 (a b : Int) (a0 : -9223372036854775808 ≤ a) (a1 : a ≤ 9223372036854775807) (b0 : -9223372036854775808 ≤ b) (b1 : b ≤ 9223372036854775807) (B : Nat) (w : World) (hB : B ≤ w.heap.size) (hT : Tab B w) :
    Calls Tryd.prog 72 #[.agg #[.int .i64 8, .int .i64 a, .int .i64 b]] w fun e w' => e = .returned (.string ⟨(Tx.tellI 8 a b).toArray⟩) ∧ Below w.heap.size w w' := by
  have la := Lib.itoa_length_le a a0 a1
  have lb := Lib.itoa_length_le b b0 b1
  have HT : Hid (Tab B (w.alloc (.cells #[.int .i64 8, .int .i64 a, .int .i64 b] 82))) := hT.on ((Below.refl _ _).alloc hB _)
  have HB : Hid (B ≤ w.heap.size) := hB
  clear hT hB
  go_enter Tryd.func72, Tryd.ntmps72
  go_wp2
  go_ret
  exact ⟨rfl, by go_grown⟩

set_option maxHeartbeats 800000 in
theorem told9 (a b : Int) (a0 : -9223372036854775808 ≤ a) (a1 : a ≤ 9223372036854775807) (b0 : -9223372036854775808 ≤ b) (b1 : b ≤ 9223372036854775807) (B : Nat) (w : World) (hB : B ≤ w.heap.size) (hT : Tab B w) :
    Calls Tryd.prog 72 #[.agg #[.int .i64 9, .int .i64 a, .int .i64 b]] w fun e w' => e = .returned (.string ⟨(Tx.tellI 9 a b).toArray⟩) ∧ Below w.heap.size w w' := by
  have la := Lib.itoa_length_le a a0 a1
  have lb := Lib.itoa_length_le b b0 b1
  have HT : Hid (Tab B (w.alloc (.cells #[.int .i64 9, .int .i64 a, .int .i64 b] 82))) := hT.on ((Below.refl _ _).alloc hB _)
  have HB : Hid (B ≤ w.heap.size) := hB
  clear hT hB
  go_enter Tryd.func72, Tryd.ntmps72
  go_wp2
  go_ret
  exact ⟨rfl, by go_grown⟩

set_option maxHeartbeats 800000 in
theorem told10 (a b : Int) (a0 : -9223372036854775808 ≤ a) (a1 : a ≤ 9223372036854775807) (b0 : -9223372036854775808 ≤ b) (b1 : b ≤ 9223372036854775807) (B : Nat) (w : World) (hB : B ≤ w.heap.size) (hT : Tab B w) :
    Calls Tryd.prog 72 #[.agg #[.int .i64 10, .int .i64 a, .int .i64 b]] w fun e w' => e = .returned (.string ⟨(Tx.tellI 10 a b).toArray⟩) ∧ Below w.heap.size w w' := by
  have la := Lib.itoa_length_le a a0 a1
  have lb := Lib.itoa_length_le b b0 b1
  have HT : Hid (Tab B (w.alloc (.cells #[.int .i64 10, .int .i64 a, .int .i64 b] 82))) := hT.on ((Below.refl _ _).alloc hB _)
  have HB : Hid (B ≤ w.heap.size) := hB
  clear hT hB
  go_enter Tryd.func72, Tryd.ntmps72
  go_wp2
  go_ret
  exact ⟨rfl, by go_grown⟩

set_option maxHeartbeats 800000 in
theorem told11 (a b : Int) (a0 : -9223372036854775808 ≤ a) (a1 : a ≤ 9223372036854775807) (b0 : -9223372036854775808 ≤ b) (b1 : b ≤ 9223372036854775807) (B : Nat) (w : World) (hB : B ≤ w.heap.size) (hT : Tab B w) :
    Calls Tryd.prog 72 #[.agg #[.int .i64 11, .int .i64 a, .int .i64 b]] w fun e w' => e = .returned (.string ⟨(Tx.tellI 11 a b).toArray⟩) ∧ Below w.heap.size w w' := by
  have la := Lib.itoa_length_le a a0 a1
  have lb := Lib.itoa_length_le b b0 b1
  have HT : Hid (Tab B (w.alloc (.cells #[.int .i64 11, .int .i64 a, .int .i64 b] 82))) := hT.on ((Below.refl _ _).alloc hB _)
  have HB : Hid (B ≤ w.heap.size) := hB
  clear hT hB
  go_enter Tryd.func72, Tryd.ntmps72
  go_wp2_with (go_at_call 33; refine (number_at a a0 a1 B _ HT.out).mono ?_; rintro e w1 ⟨rfl, hb1⟩)
  go_ret
  exact ⟨retS (str_eq (by simp [Tx.tellI, Tx.cnt])), below_over (by go_grown) hb1⟩

set_option maxHeartbeats 800000 in
theorem told12 (a b : Int) (a0 : -9223372036854775808 ≤ a) (a1 : a ≤ 9223372036854775807) (b0 : -9223372036854775808 ≤ b) (b1 : b ≤ 9223372036854775807) (B : Nat) (w : World) (hB : B ≤ w.heap.size) (hT : Tab B w) :
    Calls Tryd.prog 72 #[.agg #[.int .i64 12, .int .i64 a, .int .i64 b]] w fun e w' => e = .returned (.string ⟨(Tx.tellI 12 a b).toArray⟩) ∧ Below w.heap.size w w' := by
  have la := Lib.itoa_length_le a a0 a1
  have lb := Lib.itoa_length_le b b0 b1
  have HT : Hid (Tab B (w.alloc (.cells #[.int .i64 12, .int .i64 a, .int .i64 b] 82))) := hT.on ((Below.refl _ _).alloc hB _)
  have HB : Hid (B ≤ w.heap.size) := hB
  clear hT hB
  go_enter Tryd.func72, Tryd.ntmps72
  go_wp2_with (go_at_call 33; refine (number_at a a0 a1 B _ HT.out).mono ?_; rintro e w1 ⟨rfl, hb1⟩)
  go_ret
  exact ⟨retS (str_eq (by simp [Tx.tellI, Tx.cnt])), below_over (by go_grown) hb1⟩

set_option maxHeartbeats 800000 in
theorem told13 (a b : Int) (a0 : -9223372036854775808 ≤ a) (a1 : a ≤ 9223372036854775807) (b0 : -9223372036854775808 ≤ b) (b1 : b ≤ 9223372036854775807) (B : Nat) (w : World) (hB : B ≤ w.heap.size) (hT : Tab B w) :
    Calls Tryd.prog 72 #[.agg #[.int .i64 13, .int .i64 a, .int .i64 b]] w fun e w' => e = .returned (.string ⟨(Tx.tellI 13 a b).toArray⟩) ∧ Below w.heap.size w w' := by
  have la := Lib.itoa_length_le a a0 a1
  have lb := Lib.itoa_length_le b b0 b1
  have HT : Hid (Tab B (w.alloc (.cells #[.int .i64 13, .int .i64 a, .int .i64 b] 82))) := hT.on ((Below.refl _ _).alloc hB _)
  have HB : Hid (B ≤ w.heap.size) := hB
  clear hT hB
  go_enter Tryd.func72, Tryd.ntmps72
  go_wp2
  go_ret
  exact ⟨rfl, by go_grown⟩

set_option maxHeartbeats 800000 in
theorem told14 (a b : Int) (a0 : -9223372036854775808 ≤ a) (a1 : a ≤ 9223372036854775807) (b0 : -9223372036854775808 ≤ b) (b1 : b ≤ 9223372036854775807) (B : Nat) (w : World) (hB : B ≤ w.heap.size) (hT : Tab B w) :
    Calls Tryd.prog 72 #[.agg #[.int .i64 14, .int .i64 a, .int .i64 b]] w fun e w' => e = .returned (.string ⟨(Tx.tellI 14 a b).toArray⟩) ∧ Below w.heap.size w w' := by
  have la := Lib.itoa_length_le a a0 a1
  have lb := Lib.itoa_length_le b b0 b1
  have HT : Hid (Tab B (w.alloc (.cells #[.int .i64 14, .int .i64 a, .int .i64 b] 82))) := hT.on ((Below.refl _ _).alloc hB _)
  have HB : Hid (B ≤ w.heap.size) := hB
  clear hT hB
  go_enter Tryd.func72, Tryd.ntmps72
  go_wp2_with (go_at_call 33; refine (number_at a a0 a1 B _ HT.out).mono ?_; rintro e w1 ⟨rfl, hb1⟩)
  go_ret
  exact ⟨retS (str_eq (by simp [Tx.tellI, Tx.cnt])), below_over (by go_grown) hb1⟩

set_option maxHeartbeats 800000 in
theorem told15 (a b : Int) (a0 : -9223372036854775808 ≤ a) (a1 : a ≤ 9223372036854775807) (b0 : -9223372036854775808 ≤ b) (b1 : b ≤ 9223372036854775807) (B : Nat) (w : World) (hB : B ≤ w.heap.size) (hT : Tab B w) :
    Calls Tryd.prog 72 #[.agg #[.int .i64 15, .int .i64 a, .int .i64 b]] w fun e w' => e = .returned (.string ⟨(Tx.tellI 15 a b).toArray⟩) ∧ Below w.heap.size w w' := by
  have la := Lib.itoa_length_le a a0 a1
  have lb := Lib.itoa_length_le b b0 b1
  have HT : Hid (Tab B (w.alloc (.cells #[.int .i64 15, .int .i64 a, .int .i64 b] 82))) := hT.on ((Below.refl _ _).alloc hB _)
  have HB : Hid (B ≤ w.heap.size) := hB
  clear hT hB
  go_enter Tryd.func72, Tryd.ntmps72
  go_wp2_with fail
  refine (number_at b b0 b1 B _ HT.out).mono ?_
  rintro e w1 ⟨rfl, hb1⟩
  have hc := (box3 hb1).2.1
  have HT1 : Hid (Tab B w1) := HT.out.on (hb1.mono (by have := HB.out; simp; omega))
  go_wp2_with (go_at_call 33; refine (number_at a a0 a1 B _ HT1.out).mono ?_; rintro e w2 ⟨rfl, hb2⟩)
  go_ret
  exact ⟨retS (str_eq (by simp [Tx.tellI, Tx.cnt])), below_over (below_over (by go_grown) hb1) hb2⟩

set_option maxHeartbeats 800000 in
theorem told16 (a b : Int) (a0 : -9223372036854775808 ≤ a) (a1 : a ≤ 9223372036854775807) (b0 : -9223372036854775808 ≤ b) (b1 : b ≤ 9223372036854775807) (B : Nat) (w : World) (hB : B ≤ w.heap.size) (hT : Tab B w) :
    Calls Tryd.prog 72 #[.agg #[.int .i64 16, .int .i64 a, .int .i64 b]] w fun e w' => e = .returned (.string ⟨(Tx.tellI 16 a b).toArray⟩) ∧ Below w.heap.size w w' := by
  have la := Lib.itoa_length_le a a0 a1
  have lb := Lib.itoa_length_le b b0 b1
  have HT : Hid (Tab B (w.alloc (.cells #[.int .i64 16, .int .i64 a, .int .i64 b] 82))) := hT.on ((Below.refl _ _).alloc hB _)
  have HB : Hid (B ≤ w.heap.size) := hB
  clear hT hB
  go_enter Tryd.func72, Tryd.ntmps72
  go_wp2_with fail
  refine (number_at b b0 b1 B _ HT.out).mono ?_
  rintro e w1 ⟨rfl, hb1⟩
  have hc := (box3 hb1).2.1
  have HT1 : Hid (Tab B w1) := HT.out.on (hb1.mono (by have := HB.out; simp; omega))
  go_wp2_with (go_at_call 33; refine (number_at a a0 a1 B _ HT1.out).mono ?_; rintro e w2 ⟨rfl, hb2⟩)
  go_ret
  exact ⟨retS (str_eq (by simp [Tx.tellI, Tx.cnt])), below_over (below_over (by go_grown) hb1) hb2⟩

set_option maxHeartbeats 800000 in
theorem told17 (a b : Int) (a0 : -9223372036854775808 ≤ a) (a1 : a ≤ 9223372036854775807) (b0 : -9223372036854775808 ≤ b) (b1 : b ≤ 9223372036854775807) (B : Nat) (w : World) (hB : B ≤ w.heap.size) (hT : Tab B w) :
    Calls Tryd.prog 72 #[.agg #[.int .i64 17, .int .i64 a, .int .i64 b]] w fun e w' => e = .returned (.string ⟨(Tx.tellI 17 a b).toArray⟩) ∧ Below w.heap.size w w' := by
  have la := Lib.itoa_length_le a a0 a1
  have lb := Lib.itoa_length_le b b0 b1
  have HT : Hid (Tab B (w.alloc (.cells #[.int .i64 17, .int .i64 a, .int .i64 b] 82))) := hT.on ((Below.refl _ _).alloc hB _)
  have HB : Hid (B ≤ w.heap.size) := hB
  clear hT hB
  go_enter Tryd.func72, Tryd.ntmps72
  go_wp2_with fail
  refine (number_at b b0 b1 B _ HT.out).mono ?_
  rintro e w1 ⟨rfl, hb1⟩
  have hc := (box3 hb1).2.1
  have HT1 : Hid (Tab B w1) := HT.out.on (hb1.mono (by have := HB.out; simp; omega))
  go_wp2_with (go_at_call 33; refine (number_at a a0 a1 B _ HT1.out).mono ?_; rintro e w2 ⟨rfl, hb2⟩)
  go_ret
  exact ⟨retS (str_eq (by simp [Tx.tellI, Tx.cnt])), below_over (below_over (by go_grown) hb1) hb2⟩

set_option maxHeartbeats 800000 in
theorem told18 (a b : Int) (a0 : -9223372036854775808 ≤ a) (a1 : a ≤ 9223372036854775807) (b0 : -9223372036854775808 ≤ b) (b1 : b ≤ 9223372036854775807) (B : Nat) (w : World) (hB : B ≤ w.heap.size) (hT : Tab B w) :
    Calls Tryd.prog 72 #[.agg #[.int .i64 18, .int .i64 a, .int .i64 b]] w fun e w' => e = .returned (.string ⟨(Tx.tellI 18 a b).toArray⟩) ∧ Below w.heap.size w w' := by
  have la := Lib.itoa_length_le a a0 a1
  have lb := Lib.itoa_length_le b b0 b1
  have HT : Hid (Tab B (w.alloc (.cells #[.int .i64 18, .int .i64 a, .int .i64 b] 82))) := hT.on ((Below.refl _ _).alloc hB _)
  have HB : Hid (B ≤ w.heap.size) := hB
  clear hT hB
  go_enter Tryd.func72, Tryd.ntmps72
  go_wp2
  go_ret
  exact ⟨rfl, by go_grown⟩

set_option maxHeartbeats 800000 in
theorem told19 (a b : Int) (a0 : -9223372036854775808 ≤ a) (a1 : a ≤ 9223372036854775807) (b0 : -9223372036854775808 ≤ b) (b1 : b ≤ 9223372036854775807) (B : Nat) (w : World) (hB : B ≤ w.heap.size) (hT : Tab B w) :
    Calls Tryd.prog 72 #[.agg #[.int .i64 19, .int .i64 a, .int .i64 b]] w fun e w' => e = .returned (.string ⟨(Tx.tellI 19 a b).toArray⟩) ∧ Below w.heap.size w w' := by
  have la := Lib.itoa_length_le a a0 a1
  have lb := Lib.itoa_length_le b b0 b1
  have HT : Hid (Tab B (w.alloc (.cells #[.int .i64 19, .int .i64 a, .int .i64 b] 82))) := hT.on ((Below.refl _ _).alloc hB _)
  have HB : Hid (B ≤ w.heap.size) := hB
  clear hT hB
  go_enter Tryd.func72, Tryd.ntmps72
  go_wp2
  go_ret
  exact ⟨rfl, by go_grown⟩

set_option maxHeartbeats 800000 in
theorem told20 (a b : Int) (a0 : -9223372036854775808 ≤ a) (a1 : a ≤ 9223372036854775807) (b0 : -9223372036854775808 ≤ b) (b1 : b ≤ 9223372036854775807) (B : Nat) (w : World) (hB : B ≤ w.heap.size) (hT : Tab B w) :
    Calls Tryd.prog 72 #[.agg #[.int .i64 20, .int .i64 a, .int .i64 b]] w fun e w' => e = .returned (.string ⟨(Tx.tellI 20 a b).toArray⟩) ∧ Below w.heap.size w w' := by
  have la := Lib.itoa_length_le a a0 a1
  have lb := Lib.itoa_length_le b b0 b1
  have HT : Hid (Tab B (w.alloc (.cells #[.int .i64 20, .int .i64 a, .int .i64 b] 82))) := hT.on ((Below.refl _ _).alloc hB _)
  have HB : Hid (B ≤ w.heap.size) := hB
  clear hT hB
  go_enter Tryd.func72, Tryd.ntmps72
  go_wp2
  go_ret
  exact ⟨rfl, by go_grown⟩

end St
end Go.Proofs.YtkjoljcgbjodlaaDoor
