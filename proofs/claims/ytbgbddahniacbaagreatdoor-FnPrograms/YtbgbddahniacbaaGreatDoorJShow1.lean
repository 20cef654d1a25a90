/- The contract of the other side's showing of a right step. -/
import Derived.Test.YtbgbddahniacbaaGreatDoorJInt0
import Derived.Test.YtbgbddahniacbaaGreatDoorJBox0
import Derived.Deep.RegionWith
import Derived.Lib.QuietBelow
import Derived.BigQuiet
namespace Go.Proofs.YtbgbddahniacbaaGreatDoor
namespace St
open Go.ChangeShapes Go.WideShapes Go.ChangeAt Go.RowKit

theorem int_keep (n : Int) (h0 : -9223372036854775808 ≤ n) (h1 : n ≤ 9223372036854775807) (w : World) (p : Addr) (v : Value) (hp : w.cell? p = some v) :
    Calls Tryz.prog 55 #[.int .i64 n] w fun e w' => e = .returned (.string ⟨(Lib.itoa n).toArray⟩) ∧ Below w.heap.size w w' ∧ w'.cell? p = some v := by
  refine (int_at n h0 h1 w).mono ?_
  rintro e w' ⟨he, hb⟩
  have hlt : p.block < w.heap.size := by
    refine Nat.lt_of_not_le fun hn => ?_
    have hnone : w.heap[p.block]? = none := Array.getElem?_eq_none hn
    simp [World.cell?, hnone] at hp
  exact ⟨he, hb, (hb.cell hlt).trans hp⟩
theorem retS {s t : ByteArray} (h : s = t) : Ending.returned (.string s) = .returned (.string t) := by rw [h]
theorem conv_at (w : World) (o : Obj) (k : Nat) (t : TypeId) (h0 : 1 ≤ k) (h1 : k ≤ 20) :
    (convert 22 9 (.slice (some ⟨w.heap.size + 1, 0, none⟩) 1 1)).run Tryz.prog ((w.alloc o).alloc (.cells #[.int .u8 (((⟨#[97, 98, 99, 100, 101, 102, 103, 104, 105, 106, 107, 108, 109, 110, 111, 112, 113, 114, 115, 116]⟩ : ByteArray)[k - 1]'(by simp [ByteArray.size]; omega)).toNat : Int)] t)) = .ok (.string ⟨#[UInt8.ofNat (96 + k)]⟩) ((w.alloc o).alloc (.cells #[.int .u8 (((⟨#[97, 98, 99, 100, 101, 102, 103, 104, 105, 106, 107, 108, 109, 110, 111, 112, 113, 114, 115, 116]⟩ : ByteArray)[k - 1]'(by simp [ByteArray.size]; omega)).toNat : Int)] t)) := by
  have e : ((((⟨#[97, 98, 99, 100, 101, 102, 103, 104, 105, 106, 107, 108, 109, 110, 111, 112, 113, 114, 115, 116]⟩ : ByteArray)[k - 1]'(by simp [ByteArray.size]; omega)).toNat : Nat) : Int) = ((96 + k : Nat) : Int) := by
    have hk : ∀ j : Fin 20, ((⟨#[97, 98, 99, 100, 101, 102, 103, 104, 105, 106, 107, 108, 109, 110, 111, 112, 113, 114, 115, 116]⟩ : ByteArray)[j.val]'(by simp [ByteArray.size])).toNat = 97 + j.val := by decide +kernel
    have := hk ⟨k - 1, by omega⟩
    simp only at this
    omega
  have hs : (w.alloc o).heap.size = w.heap.size + 1 := by simp
  have := conv_one (w.alloc o) ((96 + k : Nat) : Int) t (by omega) (by omega)
  rw [hs] at this
  rw [e]
  exact this

set_option maxRecDepth 100000 in
theorem tell1 (a b : Int) (a0 : -9223372036854775808 ≤ a) (a1 : a ≤ 9223372036854775807) (b0 : -9223372036854775808 ≤ b) (b1 : b ≤ 9223372036854775807) (w : World) :
    Calls Tryz.prog 56 #[.agg #[.int .i64 1, .int .i64 a, .int .i64 b]] w fun e w' => e = .returned (.string ⟨(Tx.showI 1 a b).toArray⟩) ∧ Below w.heap.size w w' := by
  have hcv : ∀ t, (convert 22 9 (.slice (some ⟨w.heap.size + 1, 0, none⟩) 1 1)).run Tryz.prog ((w.alloc (.cells #[.int .i64 1, .int .i64 a, .int .i64 b] 73)).alloc (.cells #[.int .u8 (((⟨#[97, 98, 99, 100, 101, 102, 103, 104, 105, 106, 107, 108, 109, 110, 111, 112, 113, 114, 115, 116]⟩ : ByteArray)[0]'(by decide)).toNat : Int)] t)) = .ok (.string ⟨#[97]⟩) ((w.alloc (.cells #[.int .i64 1, .int .i64 a, .int .i64 b] 73)).alloc (.cells #[.int .u8 (((⟨#[97, 98, 99, 100, 101, 102, 103, 104, 105, 106, 107, 108, 109, 110, 111, 112, 113, 114, 115, 116]⟩ : ByteArray)[0]'(by decide)).toNat : Int)] t)) := fun t => conv_at w (.cells #[.int .i64 1, .int .i64 a, .int .i64 b] 73) 1 t (by omega) (by omega)
  have la := Lib.itoa_length_le a a0 a1
  have lb := Lib.itoa_length_le b b0 b1
  go_enter Tryz.func56, Tryz.ntmps56
  go_wp2_with (first
    | (go_at_call 75; refine (count_at _ 1 rfl _).mono ?_; rintro e w' ⟨rfl, rfl⟩)
    | (go_at_call 55; refine (int_at _ a0 a1 _).mono ?_; rintro e w' ⟨rfl, hb1⟩))
  all_goals go_ret
  exact ⟨retS (str_eq (by simp [Tx.showI, Tx.tellI, Tx.cnt])), below_over (by go_grown) hb1⟩

set_option maxRecDepth 100000 in
theorem tell2 (a b : Int) (a0 : -9223372036854775808 ≤ a) (a1 : a ≤ 9223372036854775807) (b0 : -9223372036854775808 ≤ b) (b1 : b ≤ 9223372036854775807) (w : World) :
    Calls Tryz.prog 56 #[.agg #[.int .i64 2, .int .i64 a, .int .i64 b]] w fun e w' => e = .returned (.string ⟨(Tx.showI 2 a b).toArray⟩) ∧ Below w.heap.size w w' := by
  have hcv : ∀ t, (convert 22 9 (.slice (some ⟨w.heap.size + 1, 0, none⟩) 1 1)).run Tryz.prog ((w.alloc (.cells #[.int .i64 2, .int .i64 a, .int .i64 b] 73)).alloc (.cells #[.int .u8 (((⟨#[97, 98, 99, 100, 101, 102, 103, 104, 105, 106, 107, 108, 109, 110, 111, 112, 113, 114, 115, 116]⟩ : ByteArray)[1]'(by decide)).toNat : Int)] t)) = .ok (.string ⟨#[98]⟩) ((w.alloc (.cells #[.int .i64 2, .int .i64 a, .int .i64 b] 73)).alloc (.cells #[.int .u8 (((⟨#[97, 98, 99, 100, 101, 102, 103, 104, 105, 106, 107, 108, 109, 110, 111, 112, 113, 114, 115, 116]⟩ : ByteArray)[1]'(by decide)).toNat : Int)] t)) := fun t => conv_at w (.cells #[.int .i64 2, .int .i64 a, .int .i64 b] 73) 2 t (by omega) (by omega)
  have la := Lib.itoa_length_le a a0 a1
  have lb := Lib.itoa_length_le b b0 b1
  go_enter Tryz.func56, Tryz.ntmps56
  go_wp2_with (first
    | (go_at_call 75; refine (count_at _ 1 rfl _).mono ?_; rintro e w' ⟨rfl, rfl⟩)
    | (go_at_call 55; refine (int_at _ a0 a1 _).mono ?_; rintro e w' ⟨rfl, hb1⟩))
  all_goals go_ret
  exact ⟨retS (str_eq (by simp [Tx.showI, Tx.tellI, Tx.cnt])), below_over (by go_grown) hb1⟩

set_option maxRecDepth 100000 in
theorem tell3 (a b : Int) (a0 : -9223372036854775808 ≤ a) (a1 : a ≤ 9223372036854775807) (b0 : -9223372036854775808 ≤ b) (b1 : b ≤ 9223372036854775807) (w : World) :
    Calls Tryz.prog 56 #[.agg #[.int .i64 3, .int .i64 a, .int .i64 b]] w fun e w' => e = .returned (.string ⟨(Tx.showI 3 a b).toArray⟩) ∧ Below w.heap.size w w' := by
  have hcv : ∀ t, (convert 22 9 (.slice (some ⟨w.heap.size + 1, 0, none⟩) 1 1)).run Tryz.prog ((w.alloc (.cells #[.int .i64 3, .int .i64 a, .int .i64 b] 73)).alloc (.cells #[.int .u8 (((⟨#[97, 98, 99, 100, 101, 102, 103, 104, 105, 106, 107, 108, 109, 110, 111, 112, 113, 114, 115, 116]⟩ : ByteArray)[2]'(by decide)).toNat : Int)] t)) = .ok (.string ⟨#[99]⟩) ((w.alloc (.cells #[.int .i64 3, .int .i64 a, .int .i64 b] 73)).alloc (.cells #[.int .u8 (((⟨#[97, 98, 99, 100, 101, 102, 103, 104, 105, 106, 107, 108, 109, 110, 111, 112, 113, 114, 115, 116]⟩ : ByteArray)[2]'(by decide)).toNat : Int)] t)) := fun t => conv_at w (.cells #[.int .i64 3, .int .i64 a, .int .i64 b] 73) 3 t (by omega) (by omega)
  have la := Lib.itoa_length_le a a0 a1
  have lb := Lib.itoa_length_le b b0 b1
  go_enter Tryz.func56, Tryz.ntmps56
  go_wp2_with (first
    | (go_at_call 75; refine (count_at _ 1 rfl _).mono ?_; rintro e w' ⟨rfl, rfl⟩)
    | (go_at_call 55; refine (int_at _ a0 a1 _).mono ?_; rintro e w' ⟨rfl, hb1⟩))
  all_goals go_ret
  exact ⟨retS (str_eq (by simp [Tx.showI, Tx.tellI, Tx.cnt])), below_over (by go_grown) hb1⟩

set_option maxRecDepth 100000 in
theorem tell4 (a b : Int) (a0 : -9223372036854775808 ≤ a) (a1 : a ≤ 9223372036854775807) (b0 : -9223372036854775808 ≤ b) (b1 : b ≤ 9223372036854775807) (w : World) :
    Calls Tryz.prog 56 #[.agg #[.int .i64 4, .int .i64 a, .int .i64 b]] w fun e w' => e = .returned (.string ⟨(Tx.showI 4 a b).toArray⟩) ∧ Below w.heap.size w w' := by
  have hcv : ∀ t, (convert 22 9 (.slice (some ⟨w.heap.size + 1, 0, none⟩) 1 1)).run Tryz.prog ((w.alloc (.cells #[.int .i64 4, .int .i64 a, .int .i64 b] 73)).alloc (.cells #[.int .u8 (((⟨#[97, 98, 99, 100, 101, 102, 103, 104, 105, 106, 107, 108, 109, 110, 111, 112, 113, 114, 115, 116]⟩ : ByteArray)[3]'(by decide)).toNat : Int)] t)) = .ok (.string ⟨#[100]⟩) ((w.alloc (.cells #[.int .i64 4, .int .i64 a, .int .i64 b] 73)).alloc (.cells #[.int .u8 (((⟨#[97, 98, 99, 100, 101, 102, 103, 104, 105, 106, 107, 108, 109, 110, 111, 112, 113, 114, 115, 116]⟩ : ByteArray)[3]'(by decide)).toNat : Int)] t)) := fun t => conv_at w (.cells #[.int .i64 4, .int .i64 a, .int .i64 b] 73) 4 t (by omega) (by omega)
  have la := Lib.itoa_length_le a a0 a1
  have lb := Lib.itoa_length_le b b0 b1
  go_enter Tryz.func56, Tryz.ntmps56
  go_wp2_with (first
    | (go_at_call 75; refine (count_at _ 0 rfl _).mono ?_; rintro e w' ⟨rfl, rfl⟩)
    | (go_at_call 55; refine (int_at _ a0 a1 _).mono ?_; rintro e w' ⟨rfl, hb1⟩))
  all_goals go_ret
  exact ⟨retS (str_eq rfl), by go_grown⟩

set_option maxRecDepth 100000 in
theorem tell5 (a b : Int) (a0 : -9223372036854775808 ≤ a) (a1 : a ≤ 9223372036854775807) (b0 : -9223372036854775808 ≤ b) (b1 : b ≤ 9223372036854775807) (w : World) :
    Calls Tryz.prog 56 #[.agg #[.int .i64 5, .int .i64 a, .int .i64 b]] w fun e w' => e = .returned (.string ⟨(Tx.showI 5 a b).toArray⟩) ∧ Below w.heap.size w w' := by
  have hcv : ∀ t, (convert 22 9 (.slice (some ⟨w.heap.size + 1, 0, none⟩) 1 1)).run Tryz.prog ((w.alloc (.cells #[.int .i64 5, .int .i64 a, .int .i64 b] 73)).alloc (.cells #[.int .u8 (((⟨#[97, 98, 99, 100, 101, 102, 103, 104, 105, 106, 107, 108, 109, 110, 111, 112, 113, 114, 115, 116]⟩ : ByteArray)[4]'(by decide)).toNat : Int)] t)) = .ok (.string ⟨#[101]⟩) ((w.alloc (.cells #[.int .i64 5, .int .i64 a, .int .i64 b] 73)).alloc (.cells #[.int .u8 (((⟨#[97, 98, 99, 100, 101, 102, 103, 104, 105, 106, 107, 108, 109, 110, 111, 112, 113, 114, 115, 116]⟩ : ByteArray)[4]'(by decide)).toNat : Int)] t)) := fun t => conv_at w (.cells #[.int .i64 5, .int .i64 a, .int .i64 b] 73) 5 t (by omega) (by omega)
  have la := Lib.itoa_length_le a a0 a1
  have lb := Lib.itoa_length_le b b0 b1
  go_enter Tryz.func56, Tryz.ntmps56
  go_wp2_with (first
    | (go_at_call 75; refine (count_at _ 0 rfl _).mono ?_; rintro e w' ⟨rfl, rfl⟩)
    | (go_at_call 55; refine (int_at _ a0 a1 _).mono ?_; rintro e w' ⟨rfl, hb1⟩))
  all_goals go_ret
  exact ⟨retS (str_eq rfl), by go_grown⟩

set_option maxRecDepth 100000 in
theorem tell6 (a b : Int) (a0 : -9223372036854775808 ≤ a) (a1 : a ≤ 9223372036854775807) (b0 : -9223372036854775808 ≤ b) (b1 : b ≤ 9223372036854775807) (w : World) :
    Calls Tryz.prog 56 #[.agg #[.int .i64 6, .int .i64 a, .int .i64 b]] w fun e w' => e = .returned (.string ⟨(Tx.showI 6 a b).toArray⟩) ∧ Below w.heap.size w w' := by
  have hcv : ∀ t, (convert 22 9 (.slice (some ⟨w.heap.size + 1, 0, none⟩) 1 1)).run Tryz.prog ((w.alloc (.cells #[.int .i64 6, .int .i64 a, .int .i64 b] 73)).alloc (.cells #[.int .u8 (((⟨#[97, 98, 99, 100, 101, 102, 103, 104, 105, 106, 107, 108, 109, 110, 111, 112, 113, 114, 115, 116]⟩ : ByteArray)[5]'(by decide)).toNat : Int)] t)) = .ok (.string ⟨#[102]⟩) ((w.alloc (.cells #[.int .i64 6, .int .i64 a, .int .i64 b] 73)).alloc (.cells #[.int .u8 (((⟨#[97, 98, 99, 100, 101, 102, 103, 104, 105, 106, 107, 108, 109, 110, 111, 112, 113, 114, 115, 116]⟩ : ByteArray)[5]'(by decide)).toNat : Int)] t)) := fun t => conv_at w (.cells #[.int .i64 6, .int .i64 a, .int .i64 b] 73) 6 t (by omega) (by omega)
  have la := Lib.itoa_length_le a a0 a1
  have lb := Lib.itoa_length_le b b0 b1
  go_enter Tryz.func56, Tryz.ntmps56
  go_wp2_with (first
    | (go_at_call 75; refine (count_at _ 0 rfl _).mono ?_; rintro e w' ⟨rfl, rfl⟩)
    | (go_at_call 55; refine (int_at _ a0 a1 _).mono ?_; rintro e w' ⟨rfl, hb1⟩))
  all_goals go_ret
  exact ⟨retS (str_eq rfl), by go_grown⟩

set_option maxRecDepth 100000 in
theorem tell7 (a b : Int) (a0 : -9223372036854775808 ≤ a) (a1 : a ≤ 9223372036854775807) (b0 : -9223372036854775808 ≤ b) (b1 : b ≤ 9223372036854775807) (w : World) :
    Calls Tryz.prog 56 #[.agg #[.int .i64 7, .int .i64 a, .int .i64 b]] w fun e w' => e = .returned (.string ⟨(Tx.showI 7 a b).toArray⟩) ∧ Below w.heap.size w w' := by
  have hcv : ∀ t, (convert 22 9 (.slice (some ⟨w.heap.size + 1, 0, none⟩) 1 1)).run Tryz.prog ((w.alloc (.cells #[.int .i64 7, .int .i64 a, .int .i64 b] 73)).alloc (.cells #[.int .u8 (((⟨#[97, 98, 99, 100, 101, 102, 103, 104, 105, 106, 107, 108, 109, 110, 111, 112, 113, 114, 115, 116]⟩ : ByteArray)[6]'(by decide)).toNat : Int)] t)) = .ok (.string ⟨#[103]⟩) ((w.alloc (.cells #[.int .i64 7, .int .i64 a, .int .i64 b] 73)).alloc (.cells #[.int .u8 (((⟨#[97, 98, 99, 100, 101, 102, 103, 104, 105, 106, 107, 108, 109, 110, 111, 112, 113, 114, 115, 116]⟩ : ByteArray)[6]'(by decide)).toNat : Int)] t)) := fun t => conv_at w (.cells #[.int .i64 7, .int .i64 a, .int .i64 b] 73) 7 t (by omega) (by omega)
  have la := Lib.itoa_length_le a a0 a1
  have lb := Lib.itoa_length_le b b0 b1
  go_enter Tryz.func56, Tryz.ntmps56
  go_wp2_with (first
    | (go_at_call 75; refine (count_at _ 0 rfl _).mono ?_; rintro e w' ⟨rfl, rfl⟩)
    | (go_at_call 55; refine (int_at _ a0 a1 _).mono ?_; rintro e w' ⟨rfl, hb1⟩))
  all_goals go_ret
  exact ⟨retS (str_eq rfl), by go_grown⟩

set_option maxRecDepth 100000 in
theorem tell8 (a b : Int) (a0 : -9223372036854775808 ≤ a) (a1 : a ≤ 9223372036854775807) (b0 : -9223372036854775808 ≤ b) (b1 : b ≤ 9223372036854775807) (w : World) :
    Calls Tryz.prog 56 #[.agg #[.int .i64 8, .int .i64 a, .int .i64 b]] w fun e w' => e = .returned (.string ⟨(Tx.showI 8 a b).toArray⟩) ∧ Below w.heap.size w w' := by
  have hcv : ∀ t, (convert 22 9 (.slice (some ⟨w.heap.size + 1, 0, none⟩) 1 1)).run Tryz.prog ((w.alloc (.cells #[.int .i64 8, .int .i64 a, .int .i64 b] 73)).alloc (.cells #[.int .u8 (((⟨#[97, 98, 99, 100, 101, 102, 103, 104, 105, 106, 107, 108, 109, 110, 111, 112, 113, 114, 115, 116]⟩ : ByteArray)[7]'(by decide)).toNat : Int)] t)) = .ok (.string ⟨#[104]⟩) ((w.alloc (.cells #[.int .i64 8, .int .i64 a, .int .i64 b] 73)).alloc (.cells #[.int .u8 (((⟨#[97, 98, 99, 100, 101, 102, 103, 104, 105, 106, 107, 108, 109, 110, 111, 112, 113, 114, 115, 116]⟩ : ByteArray)[7]'(by decide)).toNat : Int)] t)) := fun t => conv_at w (.cells #[.int .i64 8, .int .i64 a, .int .i64 b] 73) 8 t (by omega) (by omega)
  have la := Lib.itoa_length_le a a0 a1
  have lb := Lib.itoa_length_le b b0 b1
  go_enter Tryz.func56, Tryz.ntmps56
  go_wp2_with (first
    | (go_at_call 75; refine (count_at _ 0 rfl _).mono ?_; rintro e w' ⟨rfl, rfl⟩)
    | (go_at_call 55; refine (int_at _ a0 a1 _).mono ?_; rintro e w' ⟨rfl, hb1⟩))
  all_goals go_ret
  exact ⟨retS (str_eq rfl), by go_grown⟩

set_option maxRecDepth 100000 in
theorem tell9 (a b : Int) (a0 : -9223372036854775808 ≤ a) (a1 : a ≤ 9223372036854775807) (b0 : -9223372036854775808 ≤ b) (b1 : b ≤ 9223372036854775807) (w : World) :
    Calls Tryz.prog 56 #[.agg #[.int .i64 9, .int .i64 a, .int .i64 b]] w fun e w' => e = .returned (.string ⟨(Tx.showI 9 a b).toArray⟩) ∧ Below w.heap.size w w' := by
  have hcv : ∀ t, (convert 22 9 (.slice (some ⟨w.heap.size + 1, 0, none⟩) 1 1)).run Tryz.prog ((w.alloc (.cells #[.int .i64 9, .int .i64 a, .int .i64 b] 73)).alloc (.cells #[.int .u8 (((⟨#[97, 98, 99, 100, 101, 102, 103, 104, 105, 106, 107, 108, 109, 110, 111, 112, 113, 114, 115, 116]⟩ : ByteArray)[8]'(by decide)).toNat : Int)] t)) = .ok (.string ⟨#[105]⟩) ((w.alloc (.cells #[.int .i64 9, .int .i64 a, .int .i64 b] 73)).alloc (.cells #[.int .u8 (((⟨#[97, 98, 99, 100, 101, 102, 103, 104, 105, 106, 107, 108, 109, 110, 111, 112, 113, 114, 115, 116]⟩ : ByteArray)[8]'(by decide)).toNat : Int)] t)) := fun t => conv_at w (.cells #[.int .i64 9, .int .i64 a, .int .i64 b] 73) 9 t (by omega) (by omega)
  have la := Lib.itoa_length_le a a0 a1
  have lb := Lib.itoa_length_le b b0 b1
  go_enter Tryz.func56, Tryz.ntmps56
  go_wp2_with (first
    | (go_at_call 75; refine (count_at _ 0 rfl _).mono ?_; rintro e w' ⟨rfl, rfl⟩)
    | (go_at_call 55; refine (int_at _ a0 a1 _).mono ?_; rintro e w' ⟨rfl, hb1⟩))
  all_goals go_ret
  exact ⟨retS (str_eq rfl), by go_grown⟩

set_option maxRecDepth 100000 in
theorem tell10 (a b : Int) (a0 : -9223372036854775808 ≤ a) (a1 : a ≤ 9223372036854775807) (b0 : -9223372036854775808 ≤ b) (b1 : b ≤ 9223372036854775807) (w : World) :
    Calls Tryz.prog 56 #[.agg #[.int .i64 10, .int .i64 a, .int .i64 b]] w fun e w' => e = .returned (.string ⟨(Tx.showI 10 a b).toArray⟩) ∧ Below w.heap.size w w' := by
  have hcv : ∀ t, (convert 22 9 (.slice (some ⟨w.heap.size + 1, 0, none⟩) 1 1)).run Tryz.prog ((w.alloc (.cells #[.int .i64 10, .int .i64 a, .int .i64 b] 73)).alloc (.cells #[.int .u8 (((⟨#[97, 98, 99, 100, 101, 102, 103, 104, 105, 106, 107, 108, 109, 110, 111, 112, 113, 114, 115, 116]⟩ : ByteArray)[9]'(by decide)).toNat : Int)] t)) = .ok (.string ⟨#[106]⟩) ((w.alloc (.cells #[.int .i64 10, .int .i64 a, .int .i64 b] 73)).alloc (.cells #[.int .u8 (((⟨#[97, 98, 99, 100, 101, 102, 103, 104, 105, 106, 107, 108, 109, 110, 111, 112, 113, 114, 115, 116]⟩ : ByteArray)[9]'(by decide)).toNat : Int)] t)) := fun t => conv_at w (.cells #[.int .i64 10, .int .i64 a, .int .i64 b] 73) 10 t (by omega) (by omega)
  have la := Lib.itoa_length_le a a0 a1
  have lb := Lib.itoa_length_le b b0 b1
  go_enter Tryz.func56, Tryz.ntmps56
  go_wp2_with (first
    | (go_at_call 75; refine (count_at _ 0 rfl _).mono ?_; rintro e w' ⟨rfl, rfl⟩)
    | (go_at_call 55; refine (int_at _ a0 a1 _).mono ?_; rintro e w' ⟨rfl, hb1⟩))
  all_goals go_ret
  exact ⟨retS (str_eq rfl), by go_grown⟩

set_option maxRecDepth 100000 in
theorem tell11 (a b : Int) (a0 : -9223372036854775808 ≤ a) (a1 : a ≤ 9223372036854775807) (b0 : -9223372036854775808 ≤ b) (b1 : b ≤ 9223372036854775807) (w : World) :
    Calls Tryz.prog 56 #[.agg #[.int .i64 11, .int .i64 a, .int .i64 b]] w fun e w' => e = .returned (.string ⟨(Tx.showI 11 a b).toArray⟩) ∧ Below w.heap.size w w' := by
  have hcv : ∀ t, (convert 22 9 (.slice (some ⟨w.heap.size + 1, 0, none⟩) 1 1)).run Tryz.prog ((w.alloc (.cells #[.int .i64 11, .int .i64 a, .int .i64 b] 73)).alloc (.cells #[.int .u8 (((⟨#[97, 98, 99, 100, 101, 102, 103, 104, 105, 106, 107, 108, 109, 110, 111, 112, 113, 114, 115, 116]⟩ : ByteArray)[10]'(by decide)).toNat : Int)] t)) = .ok (.string ⟨#[107]⟩) ((w.alloc (.cells #[.int .i64 11, .int .i64 a, .int .i64 b] 73)).alloc (.cells #[.int .u8 (((⟨#[97, 98, 99, 100, 101, 102, 103, 104, 105, 106, 107, 108, 109, 110, 111, 112, 113, 114, 115, 116]⟩ : ByteArray)[10]'(by decide)).toNat : Int)] t)) := fun t => conv_at w (.cells #[.int .i64 11, .int .i64 a, .int .i64 b] 73) 11 t (by omega) (by omega)
  have la := Lib.itoa_length_le a a0 a1
  have lb := Lib.itoa_length_le b b0 b1
  go_enter Tryz.func56, Tryz.ntmps56
  go_wp2_with (first
    | (go_at_call 75; refine (count_at _ 1 rfl _).mono ?_; rintro e w' ⟨rfl, rfl⟩)
    | (go_at_call 55; refine (int_at _ a0 a1 _).mono ?_; rintro e w' ⟨rfl, hb1⟩))
  all_goals go_ret
  exact ⟨retS (str_eq (by simp [Tx.showI, Tx.tellI, Tx.cnt])), below_over (by go_grown) hb1⟩

set_option maxRecDepth 100000 in
theorem tell12 (a b : Int) (a0 : -9223372036854775808 ≤ a) (a1 : a ≤ 9223372036854775807) (b0 : -9223372036854775808 ≤ b) (b1 : b ≤ 9223372036854775807) (w : World) :
    Calls Tryz.prog 56 #[.agg #[.int .i64 12, .int .i64 a, .int .i64 b]] w fun e w' => e = .returned (.string ⟨(Tx.showI 12 a b).toArray⟩) ∧ Below w.heap.size w w' := by
  have hcv : ∀ t, (convert 22 9 (.slice (some ⟨w.heap.size + 1, 0, none⟩) 1 1)).run Tryz.prog ((w.alloc (.cells #[.int .i64 12, .int .i64 a, .int .i64 b] 73)).alloc (.cells #[.int .u8 (((⟨#[97, 98, 99, 100, 101, 102, 103, 104, 105, 106, 107, 108, 109, 110, 111, 112, 113, 114, 115, 116]⟩ : ByteArray)[11]'(by decide)).toNat : Int)] t)) = .ok (.string ⟨#[108]⟩) ((w.alloc (.cells #[.int .i64 12, .int .i64 a, .int .i64 b] 73)).alloc (.cells #[.int .u8 (((⟨#[97, 98, 99, 100, 101, 102, 103, 104, 105, 106, 107, 108, 109, 110, 111, 112, 113, 114, 115, 116]⟩ : ByteArray)[11]'(by decide)).toNat : Int)] t)) := fun t => conv_at w (.cells #[.int .i64 12, .int .i64 a, .int .i64 b] 73) 12 t (by omega) (by omega)
  have la := Lib.itoa_length_le a a0 a1
  have lb := Lib.itoa_length_le b b0 b1
  go_enter Tryz.func56, Tryz.ntmps56
  go_wp2_with (first
    | (go_at_call 75; refine (count_at _ 1 rfl _).mono ?_; rintro e w' ⟨rfl, rfl⟩)
    | (go_at_call 55; refine (int_at _ a0 a1 _).mono ?_; rintro e w' ⟨rfl, hb1⟩))
  all_goals go_ret
  exact ⟨retS (str_eq (by simp [Tx.showI, Tx.tellI, Tx.cnt])), below_over (by go_grown) hb1⟩

set_option maxRecDepth 100000 in
theorem tell13 (a b : Int) (a0 : -9223372036854775808 ≤ a) (a1 : a ≤ 9223372036854775807) (b0 : -9223372036854775808 ≤ b) (b1 : b ≤ 9223372036854775807) (w : World) :
    Calls Tryz.prog 56 #[.agg #[.int .i64 13, .int .i64 a, .int .i64 b]] w fun e w' => e = .returned (.string ⟨(Tx.showI 13 a b).toArray⟩) ∧ Below w.heap.size w w' := by
  have hcv : ∀ t, (convert 22 9 (.slice (some ⟨w.heap.size + 1, 0, none⟩) 1 1)).run Tryz.prog ((w.alloc (.cells #[.int .i64 13, .int .i64 a, .int .i64 b] 73)).alloc (.cells #[.int .u8 (((⟨#[97, 98, 99, 100, 101, 102, 103, 104, 105, 106, 107, 108, 109, 110, 111, 112, 113, 114, 115, 116]⟩ : ByteArray)[12]'(by decide)).toNat : Int)] t)) = .ok (.string ⟨#[109]⟩) ((w.alloc (.cells #[.int .i64 13, .int .i64 a, .int .i64 b] 73)).alloc (.cells #[.int .u8 (((⟨#[97, 98, 99, 100, 101, 102, 103, 104, 105, 106, 107, 108, 109, 110, 111, 112, 113, 114, 115, 116]⟩ : ByteArray)[12]'(by decide)).toNat : Int)] t)) := fun t => conv_at w (.cells #[.int .i64 13, .int .i64 a, .int .i64 b] 73) 13 t (by omega) (by omega)
  have la := Lib.itoa_length_le a a0 a1
  have lb := Lib.itoa_length_le b b0 b1
  go_enter Tryz.func56, Tryz.ntmps56
  go_wp2_with (first
    | (go_at_call 75; refine (count_at _ 0 rfl _).mono ?_; rintro e w' ⟨rfl, rfl⟩)
    | (go_at_call 55; refine (int_at _ a0 a1 _).mono ?_; rintro e w' ⟨rfl, hb1⟩))
  all_goals go_ret
  exact ⟨retS (str_eq rfl), by go_grown⟩

set_option maxRecDepth 100000 in
theorem tell14 (a b : Int) (a0 : -9223372036854775808 ≤ a) (a1 : a ≤ 9223372036854775807) (b0 : -9223372036854775808 ≤ b) (b1 : b ≤ 9223372036854775807) (w : World) :
    Calls Tryz.prog 56 #[.agg #[.int .i64 14, .int .i64 a, .int .i64 b]] w fun e w' => e = .returned (.string ⟨(Tx.showI 14 a b).toArray⟩) ∧ Below w.heap.size w w' := by
  have hcv : ∀ t, (convert 22 9 (.slice (some ⟨w.heap.size + 1, 0, none⟩) 1 1)).run Tryz.prog ((w.alloc (.cells #[.int .i64 14, .int .i64 a, .int .i64 b] 73)).alloc (.cells #[.int .u8 (((⟨#[97, 98, 99, 100, 101, 102, 103, 104, 105, 106, 107, 108, 109, 110, 111, 112, 113, 114, 115, 116]⟩ : ByteArray)[13]'(by decide)).toNat : Int)] t)) = .ok (.string ⟨#[110]⟩) ((w.alloc (.cells #[.int .i64 14, .int .i64 a, .int .i64 b] 73)).alloc (.cells #[.int .u8 (((⟨#[97, 98, 99, 100, 101, 102, 103, 104, 105, 106, 107, 108, 109, 110, 111, 112, 113, 114, 115, 116]⟩ : ByteArray)[13]'(by decide)).toNat : Int)] t)) := fun t => conv_at w (.cells #[.int .i64 14, .int .i64 a, .int .i64 b] 73) 14 t (by omega) (by omega)
  have la := Lib.itoa_length_le a a0 a1
  have lb := Lib.itoa_length_le b b0 b1
  go_enter Tryz.func56, Tryz.ntmps56
  go_wp2_with (first
    | (go_at_call 75; refine (count_at _ 1 rfl _).mono ?_; rintro e w' ⟨rfl, rfl⟩)
    | (go_at_call 55; refine (int_at _ a0 a1 _).mono ?_; rintro e w' ⟨rfl, hb1⟩))
  all_goals go_ret
  exact ⟨retS (str_eq (by simp [Tx.showI, Tx.tellI, Tx.cnt])), below_over (by go_grown) hb1⟩

set_option maxRecDepth 100000 in
theorem tell18 (a b : Int) (a0 : -9223372036854775808 ≤ a) (a1 : a ≤ 9223372036854775807) (b0 : -9223372036854775808 ≤ b) (b1 : b ≤ 9223372036854775807) (w : World) :
    Calls Tryz.prog 56 #[.agg #[.int .i64 18, .int .i64 a, .int .i64 b]] w fun e w' => e = .returned (.string ⟨(Tx.showI 18 a b).toArray⟩) ∧ Below w.heap.size w w' := by
  have hcv : ∀ t, (convert 22 9 (.slice (some ⟨w.heap.size + 1, 0, none⟩) 1 1)).run Tryz.prog ((w.alloc (.cells #[.int .i64 18, .int .i64 a, .int .i64 b] 73)).alloc (.cells #[.int .u8 (((⟨#[97, 98, 99, 100, 101, 102, 103, 104, 105, 106, 107, 108, 109, 110, 111, 112, 113, 114, 115, 116]⟩ : ByteArray)[17]'(by decide)).toNat : Int)] t)) = .ok (.string ⟨#[114]⟩) ((w.alloc (.cells #[.int .i64 18, .int .i64 a, .int .i64 b] 73)).alloc (.cells #[.int .u8 (((⟨#[97, 98, 99, 100, 101, 102, 103, 104, 105, 106, 107, 108, 109, 110, 111, 112, 113, 114, 115, 116]⟩ : ByteArray)[17]'(by decide)).toNat : Int)] t)) := fun t => conv_at w (.cells #[.int .i64 18, .int .i64 a, .int .i64 b] 73) 18 t (by omega) (by omega)
  have la := Lib.itoa_length_le a a0 a1
  have lb := Lib.itoa_length_le b b0 b1
  go_enter Tryz.func56, Tryz.ntmps56
  go_wp2_with (first
    | (go_at_call 75; refine (count_at _ 0 rfl _).mono ?_; rintro e w' ⟨rfl, rfl⟩)
    | (go_at_call 55; refine (int_at _ a0 a1 _).mono ?_; rintro e w' ⟨rfl, hb1⟩))
  all_goals go_ret
  exact ⟨retS (str_eq rfl), by go_grown⟩

set_option maxRecDepth 100000 in
theorem tell19 (a b : Int) (a0 : -9223372036854775808 ≤ a) (a1 : a ≤ 9223372036854775807) (b0 : -9223372036854775808 ≤ b) (b1 : b ≤ 9223372036854775807) (w : World) :
    Calls Tryz.prog 56 #[.agg #[.int .i64 19, .int .i64 a, .int .i64 b]] w fun e w' => e = .returned (.string ⟨(Tx.showI 19 a b).toArray⟩) ∧ Below w.heap.size w w' := by
  have hcv : ∀ t, (convert 22 9 (.slice (some ⟨w.heap.size + 1, 0, none⟩) 1 1)).run Tryz.prog ((w.alloc (.cells #[.int .i64 19, .int .i64 a, .int .i64 b] 73)).alloc (.cells #[.int .u8 (((⟨#[97, 98, 99, 100, 101, 102, 103, 104, 105, 106, 107, 108, 109, 110, 111, 112, 113, 114, 115, 116]⟩ : ByteArray)[18]'(by decide)).toNat : Int)] t)) = .ok (.string ⟨#[115]⟩) ((w.alloc (.cells #[.int .i64 19, .int .i64 a, .int .i64 b] 73)).alloc (.cells #[.int .u8 (((⟨#[97, 98, 99, 100, 101, 102, 103, 104, 105, 106, 107, 108, 109, 110, 111, 112, 113, 114, 115, 116]⟩ : ByteArray)[18]'(by decide)).toNat : Int)] t)) := fun t => conv_at w (.cells #[.int .i64 19, .int .i64 a, .int .i64 b] 73) 19 t (by omega) (by omega)
  have la := Lib.itoa_length_le a a0 a1
  have lb := Lib.itoa_length_le b b0 b1
  go_enter Tryz.func56, Tryz.ntmps56
  go_wp2_with (first
    | (go_at_call 75; refine (count_at _ 0 rfl _).mono ?_; rintro e w' ⟨rfl, rfl⟩)
    | (go_at_call 55; refine (int_at _ a0 a1 _).mono ?_; rintro e w' ⟨rfl, hb1⟩))
  all_goals go_ret
  exact ⟨retS (str_eq rfl), by go_grown⟩

set_option maxRecDepth 100000 in
theorem tell20 (a b : Int) (a0 : -9223372036854775808 ≤ a) (a1 : a ≤ 9223372036854775807) (b0 : -9223372036854775808 ≤ b) (b1 : b ≤ 9223372036854775807) (w : World) :
    Calls Tryz.prog 56 #[.agg #[.int .i64 20, .int .i64 a, .int .i64 b]] w fun e w' => e = .returned (.string ⟨(Tx.showI 20 a b).toArray⟩) ∧ Below w.heap.size w w' := by
  have hcv : ∀ t, (convert 22 9 (.slice (some ⟨w.heap.size + 1, 0, none⟩) 1 1)).run Tryz.prog ((w.alloc (.cells #[.int .i64 20, .int .i64 a, .int .i64 b] 73)).alloc (.cells #[.int .u8 (((⟨#[97, 98, 99, 100, 101, 102, 103, 104, 105, 106, 107, 108, 109, 110, 111, 112, 113, 114, 115, 116]⟩ : ByteArray)[19]'(by decide)).toNat : Int)] t)) = .ok (.string ⟨#[116]⟩) ((w.alloc (.cells #[.int .i64 20, .int .i64 a, .int .i64 b] 73)).alloc (.cells #[.int .u8 (((⟨#[97, 98, 99, 100, 101, 102, 103, 104, 105, 106, 107, 108, 109, 110, 111, 112, 113, 114, 115, 116]⟩ : ByteArray)[19]'(by decide)).toNat : Int)] t)) := fun t => conv_at w (.cells #[.int .i64 20, .int .i64 a, .int .i64 b] 73) 20 t (by omega) (by omega)
  have la := Lib.itoa_length_le a a0 a1
  have lb := Lib.itoa_length_le b b0 b1
  go_enter Tryz.func56, Tryz.ntmps56
  go_wp2_with (first
    | (go_at_call 75; refine (count_at _ 0 rfl _).mono ?_; rintro e w' ⟨rfl, rfl⟩)
    | (go_at_call 55; refine (int_at _ a0 a1 _).mono ?_; rintro e w' ⟨rfl, hb1⟩))
  all_goals go_ret
  exact ⟨retS (str_eq rfl), by go_grown⟩

end St
end Go.Proofs.YtbgbddahniacbaaGreatDoor

/- The contract of the other side's showing of a right step. -/
namespace Go.Proofs.YtbgbddahniacbaaGreatDoor
namespace St
open Go.ChangeShapes Go.WideShapes Go.ChangeAt Go.RowKit

set_option maxHeartbeats 800000 in
set_option maxRecDepth 100000 in
theorem tell15 (a b : Int) (a0 : -9223372036854775808 ≤ a) (a1 : a ≤ 9223372036854775807) (b0 : -9223372036854775808 ≤ b) (b1 : b ≤ 9223372036854775807) (w : World) :
    Calls Tryz.prog 56 #[.agg #[.int .i64 15, .int .i64 a, .int .i64 b]] w fun e w' => e = .returned (.string ⟨(Tx.showI 15 a b).toArray⟩) ∧ Below w.heap.size w w' := by
  have hcv : ∀ t, (convert 22 9 (.slice (some ⟨w.heap.size + 1, 0, none⟩) 1 1)).run Tryz.prog ((w.alloc (.cells #[.int .i64 15, .int .i64 a, .int .i64 b] 73)).alloc (.cells #[.int .u8 (((⟨#[97, 98, 99, 100, 101, 102, 103, 104, 105, 106, 107, 108, 109, 110, 111, 112, 113, 114, 115, 116]⟩ : ByteArray)[14]'(by decide)).toNat : Int)] t)) = .ok (.string ⟨#[111]⟩) ((w.alloc (.cells #[.int .i64 15, .int .i64 a, .int .i64 b] 73)).alloc (.cells #[.int .u8 (((⟨#[97, 98, 99, 100, 101, 102, 103, 104, 105, 106, 107, 108, 109, 110, 111, 112, 113, 114, 115, 116]⟩ : ByteArray)[14]'(by decide)).toNat : Int)] t)) := fun t => conv_at w (.cells #[.int .i64 15, .int .i64 a, .int .i64 b] 73) 15 t (by omega) (by omega)
  have la := Lib.itoa_length_le a a0 a1
  have lb := Lib.itoa_length_le b b0 b1
  go_enter Tryz.func56, Tryz.ntmps56
  go_wp2_with (go_at_call 75; refine (count_at _ 2 rfl _).mono ?_; rintro e w' ⟨rfl, rfl⟩)
  clear hcv
  generalize hz : (((⟨#[97, 98, 99, 100, 101, 102, 103, 104, 105, 106, 107, 108, 109, 110, 111, 112, 113, 114, 115, 116]⟩ : ByteArray)[14]'(by decide)).toNat : Int) = z
  clear hz
  obtain ⟨W, hW⟩ : ∃ W : World, W = (w.alloc (.cells #[.int .i64 15, .int .i64 a, .int .i64 b] 73)).alloc (.cells #[.int .u8 z] 5) := ⟨_, rfl⟩
  rw [← hW]
  have c1 : W.cell? ⟨w.heap.size, 1, none⟩ = some (.int .i64 a) := by rw [hW]; simp
  have c2 : W.cell? ⟨w.heap.size, 2, none⟩ = some (.int .i64 b) := by rw [hW]; simp
  have hWb : Below w.heap.size w W := by rw [hW]; go_grown
  clear hW
  have k1 := cell_regrown c1
  have k2 := cell_regrown c2
  have cA : ∀ d os, Calls Tryz.prog 55 #[.int .i64 a] (Sort.grow (redrawn W d) os) fun e w'' => e = .returned (.string ⟨(Lib.itoa a).toArray⟩) ∧ ∃ p : Regrown, w'' = Sort.grow (redrawn W p.d) p.os := fun d os => Calls.regrown_of (int_at a a0 a1 _)
  have cB : ∀ d os, Calls Tryz.prog 55 #[.int .i64 b] (Sort.grow (redrawn W d) os) fun e w'' => e = .returned (.string ⟨(Lib.itoa b).toArray⟩) ∧ ∃ p : Regrown, w'' = Sort.grow (redrawn W p.d) p.os := fun d os => Calls.regrown_of (int_at b b0 b1 _)
  have n1 : ¬ 9223372036854775807 < 1 + (Lib.itoa a).length := by omega
  have n2 : ¬ 9223372036854775807 < 1 + (Lib.itoa a).length + 1 := by omega
  have n3 : ¬ 9223372036854775807 < 1 + (Lib.itoa a).length + 1 + (Lib.itoa b).length := by omega
  refine wp_region_quiet_below (by kernel_rfl) (by kernel_rfl) ?_
  repeat (quiet_step (first | (go_at_call_of 55 (Value.int .i64 a); exact cA _ _) | (go_at_call_of 55 (Value.int .i64 b); exact cB _ _)))
  refine wpQuiet_nil ?_
  intro _ hw'
  obtain ⟨⟨dq, osq⟩, hw''⟩ := hw'
  subst hw''
  go_wp2
  go_ret
  exact ⟨retS (str_eq (by simp [Tx.showI, Tx.tellI, Tx.cnt])), hWb.trans ((below_regrown W dq osq).mono hWb.size)⟩

set_option maxHeartbeats 800000 in
set_option maxRecDepth 100000 in
theorem tell16 (a b : Int) (a0 : -9223372036854775808 ≤ a) (a1 : a ≤ 9223372036854775807) (b0 : -9223372036854775808 ≤ b) (b1 : b ≤ 9223372036854775807) (w : World) :
    Calls Tryz.prog 56 #[.agg #[.int .i64 16, .int .i64 a, .int .i64 b]] w fun e w' => e = .returned (.string ⟨(Tx.showI 16 a b).toArray⟩) ∧ Below w.heap.size w w' := by
  have hcv : ∀ t, (convert 22 9 (.slice (some ⟨w.heap.size + 1, 0, none⟩) 1 1)).run Tryz.prog ((w.alloc (.cells #[.int .i64 16, .int .i64 a, .int .i64 b] 73)).alloc (.cells #[.int .u8 (((⟨#[97, 98, 99, 100, 101, 102, 103, 104, 105, 106, 107, 108, 109, 110, 111, 112, 113, 114, 115, 116]⟩ : ByteArray)[15]'(by decide)).toNat : Int)] t)) = .ok (.string ⟨#[112]⟩) ((w.alloc (.cells #[.int .i64 16, .int .i64 a, .int .i64 b] 73)).alloc (.cells #[.int .u8 (((⟨#[97, 98, 99, 100, 101, 102, 103, 104, 105, 106, 107, 108, 109, 110, 111, 112, 113, 114, 115, 116]⟩ : ByteArray)[15]'(by decide)).toNat : Int)] t)) := fun t => conv_at w (.cells #[.int .i64 16, .int .i64 a, .int .i64 b] 73) 16 t (by omega) (by omega)
  have la := Lib.itoa_length_le a a0 a1
  have lb := Lib.itoa_length_le b b0 b1
  go_enter Tryz.func56, Tryz.ntmps56
  go_wp2_with (go_at_call 75; refine (count_at _ 2 rfl _).mono ?_; rintro e w' ⟨rfl, rfl⟩)
  clear hcv
  generalize hz : (((⟨#[97, 98, 99, 100, 101, 102, 103, 104, 105, 106, 107, 108, 109, 110, 111, 112, 113, 114, 115, 116]⟩ : ByteArray)[15]'(by decide)).toNat : Int) = z
  clear hz
  obtain ⟨W, hW⟩ : ∃ W : World, W = (w.alloc (.cells #[.int .i64 16, .int .i64 a, .int .i64 b] 73)).alloc (.cells #[.int .u8 z] 5) := ⟨_, rfl⟩
  rw [← hW]
  have c1 : W.cell? ⟨w.heap.size, 1, none⟩ = some (.int .i64 a) := by rw [hW]; simp
  have c2 : W.cell? ⟨w.heap.size, 2, none⟩ = some (.int .i64 b) := by rw [hW]; simp
  have hWb : Below w.heap.size w W := by rw [hW]; go_grown
  clear hW
  have k1 := cell_regrown c1
  have k2 := cell_regrown c2
  have cA : ∀ d os, Calls Tryz.prog 55 #[.int .i64 a] (Sort.grow (redrawn W d) os) fun e w'' => e = .returned (.string ⟨(Lib.itoa a).toArray⟩) ∧ ∃ p : Regrown, w'' = Sort.grow (redrawn W p.d) p.os := fun d os => Calls.regrown_of (int_at a a0 a1 _)
  have cB : ∀ d os, Calls Tryz.prog 55 #[.int .i64 b] (Sort.grow (redrawn W d) os) fun e w'' => e = .returned (.string ⟨(Lib.itoa b).toArray⟩) ∧ ∃ p : Regrown, w'' = Sort.grow (redrawn W p.d) p.os := fun d os => Calls.regrown_of (int_at b b0 b1 _)
  have n1 : ¬ 9223372036854775807 < 1 + (Lib.itoa a).length := by omega
  have n2 : ¬ 9223372036854775807 < 1 + (Lib.itoa a).length + 1 := by omega
  have n3 : ¬ 9223372036854775807 < 1 + (Lib.itoa a).length + 1 + (Lib.itoa b).length := by omega
  refine wp_region_quiet_below (by kernel_rfl) (by kernel_rfl) ?_
  repeat (quiet_step (first | (go_at_call_of 55 (Value.int .i64 a); exact cA _ _) | (go_at_call_of 55 (Value.int .i64 b); exact cB _ _)))
  refine wpQuiet_nil ?_
  intro _ hw'
  obtain ⟨⟨dq, osq⟩, hw''⟩ := hw'
  subst hw''
  go_wp2
  go_ret
  exact ⟨retS (str_eq (by simp [Tx.showI, Tx.tellI, Tx.cnt])), hWb.trans ((below_regrown W dq osq).mono hWb.size)⟩

set_option maxHeartbeats 800000 in
set_option maxRecDepth 100000 in
theorem tell17 (a b : Int) (a0 : -9223372036854775808 ≤ a) (a1 : a ≤ 9223372036854775807) (b0 : -9223372036854775808 ≤ b) (b1 : b ≤ 9223372036854775807) (w : World) :
    Calls Tryz.prog 56 #[.agg #[.int .i64 17, .int .i64 a, .int .i64 b]] w fun e w' => e = .returned (.string ⟨(Tx.showI 17 a b).toArray⟩) ∧ Below w.heap.size w w' := by
  have hcv : ∀ t, (convert 22 9 (.slice (some ⟨w.heap.size + 1, 0, none⟩) 1 1)).run Tryz.prog ((w.alloc (.cells #[.int .i64 17, .int .i64 a, .int .i64 b] 73)).alloc (.cells #[.int .u8 (((⟨#[97, 98, 99, 100, 101, 102, 103, 104, 105, 106, 107, 108, 109, 110, 111, 112, 113, 114, 115, 116]⟩ : ByteArray)[16]'(by decide)).toNat : Int)] t)) = .ok (.string ⟨#[113]⟩) ((w.alloc (.cells #[.int .i64 17, .int .i64 a, .int .i64 b] 73)).alloc (.cells #[.int .u8 (((⟨#[97, 98, 99, 100, 101, 102, 103, 104, 105, 106, 107, 108, 109, 110, 111, 112, 113, 114, 115, 116]⟩ : ByteArray)[16]'(by decide)).toNat : Int)] t)) := fun t => conv_at w (.cells #[.int .i64 17, .int .i64 a, .int .i64 b] 73) 17 t (by omega) (by omega)
  have la := Lib.itoa_length_le a a0 a1
  have lb := Lib.itoa_length_le b b0 b1
  go_enter Tryz.func56, Tryz.ntmps56
  go_wp2_with (go_at_call 75; refine (count_at _ 2 rfl _).mono ?_; rintro e w' ⟨rfl, rfl⟩)
  clear hcv
  generalize hz : (((⟨#[97, 98, 99, 100, 101, 102, 103, 104, 105, 106, 107, 108, 109, 110, 111, 112, 113, 114, 115, 116]⟩ : ByteArray)[16]'(by decide)).toNat : Int) = z
  clear hz
  obtain ⟨W, hW⟩ : ∃ W : World, W = (w.alloc (.cells #[.int .i64 17, .int .i64 a, .int .i64 b] 73)).alloc (.cells #[.int .u8 z] 5) := ⟨_, rfl⟩
  rw [← hW]
  have c1 : W.cell? ⟨w.heap.size, 1, none⟩ = some (.int .i64 a) := by rw [hW]; simp
  have c2 : W.cell? ⟨w.heap.size, 2, none⟩ = some (.int .i64 b) := by rw [hW]; simp
  have hWb : Below w.heap.size w W := by rw [hW]; go_grown
  clear hW
  have k1 := cell_regrown c1
  have k2 := cell_regrown c2
  have cA : ∀ d os, Calls Tryz.prog 55 #[.int .i64 a] (Sort.grow (redrawn W d) os) fun e w'' => e = .returned (.string ⟨(Lib.itoa a).toArray⟩) ∧ ∃ p : Regrown, w'' = Sort.grow (redrawn W p.d) p.os := fun d os => Calls.regrown_of (int_at a a0 a1 _)
  have cB : ∀ d os, Calls Tryz.prog 55 #[.int .i64 b] (Sort.grow (redrawn W d) os) fun e w'' => e = .returned (.string ⟨(Lib.itoa b).toArray⟩) ∧ ∃ p : Regrown, w'' = Sort.grow (redrawn W p.d) p.os := fun d os => Calls.regrown_of (int_at b b0 b1 _)
  have n1 : ¬ 9223372036854775807 < 1 + (Lib.itoa a).length := by omega
  have n2 : ¬ 9223372036854775807 < 1 + (Lib.itoa a).length + 1 := by omega
  have n3 : ¬ 9223372036854775807 < 1 + (Lib.itoa a).length + 1 + (Lib.itoa b).length := by omega
  refine wp_region_quiet_below (by kernel_rfl) (by kernel_rfl) ?_
  repeat (quiet_step (first | (go_at_call_of 55 (Value.int .i64 a); exact cA _ _) | (go_at_call_of 55 (Value.int .i64 b); exact cB _ _)))
  refine wpQuiet_nil ?_
  intro _ hw'
  obtain ⟨⟨dq, osq⟩, hw''⟩ := hw'
  subst hw''
  go_wp2
  go_ret
  exact ⟨retS (str_eq (by simp [Tx.showI, Tx.tellI, Tx.cnt])), hWb.trans ((below_regrown W dq osq).mono hWb.size)⟩

end St
end Go.Proofs.YtbgbddahniacbaaGreatDoor
