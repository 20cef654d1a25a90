/- The contracts of the two sides' showing of a step, right or not. -/
import Derived.Test.YtbgbddahniacbaaGreatDoorJShow3
import Derived.Test.YtbgbddahniacbaaGreatDoorJBox0
import Derived.Test.YtbgbddahniacbaaGreatDoorJLaw0
namespace Go.Proofs.YtbgbddahniacbaaGreatDoor
namespace St
open Go.ChangeShapes Go.WideShapes Go.ChangeAt Go.RowKit

theorem tell_at (op a b : Int) (a0 : -9223372036854775808 ≤ a) (a1 : a ≤ 9223372036854775807) (b0 : -9223372036854775808 ≤ b) (b1 : b ≤ 9223372036854775807) (h : Tx.okI op a b = true) (w : World) :
    Calls Tryz.prog 56 #[.agg #[.int .i64 op, .int .i64 a, .int .i64 b]] w fun e w' => e = .returned (.string ⟨(Tx.showI op a b).toArray⟩) ∧ Below w.heap.size w w' := by
  rcases op_cases op with rfl | rfl | rfl | rfl | rfl | rfl | rfl | rfl | rfl | rfl | rfl | rfl | rfl | rfl | rfl | rfl | rfl | rfl | rfl | rfl | ho
  · exact tell1 a b a0 a1 b0 b1 w
  · exact tell2 a b a0 a1 b0 b1 w
  · exact tell3 a b a0 a1 b0 b1 w
  · exact tell4 a b a0 a1 b0 b1 w
  · exact tell5 a b a0 a1 b0 b1 w
  · exact tell6 a b a0 a1 b0 b1 w
  · exact tell7 a b a0 a1 b0 b1 w
  · exact tell8 a b a0 a1 b0 b1 w
  · exact tell9 a b a0 a1 b0 b1 w
  · exact tell10 a b a0 a1 b0 b1 w
  · exact tell11 a b a0 a1 b0 b1 w
  · exact tell12 a b a0 a1 b0 b1 w
  · exact tell13 a b a0 a1 b0 b1 w
  · exact tell14 a b a0 a1 b0 b1 w
  · exact tell15 a b a0 a1 b0 b1 w
  · exact tell16 a b a0 a1 b0 b1 w
  · exact tell17 a b a0 a1 b0 b1 w
  · exact tell18 a b a0 a1 b0 b1 w
  · exact tell19 a b a0 a1 b0 b1 w
  · exact tell20 a b a0 a1 b0 b1 w
  · have := Tx.ok_op h; omega

set_option maxHeartbeats 800000 in
theorem implShow (op a b : Int) (a0 : -9223372036854775808 ≤ a) (a1 : a ≤ 9223372036854775807) (b0 : -9223372036854775808 ≤ b) (b1 : b ≤ 9223372036854775807) (B : Nat) (w : World) (hB : B ≤ w.heap.size) (hT : Tab B w) :
    Calls Tryz.prog 54 #[.agg #[.int .i64 op, .int .i64 a, .int .i64 b]] w fun e w' => e = .returned (.string ⟨(Tx.shownI op a b).toArray⟩) ∧ Below w.heap.size w w' := by
  cases h : Tx.okI op a b
  · have e : Tx.shownI op a b = [] := by simp [Tx.shownI, h]
    rw [e]
    clear e hT hB
    go_enter Tryz.func54, Tryz.ntmps54
    go_wp2_with fail
    refine (implOk op a b _).mono ?_
    rw [h]
    rintro e w1 ⟨rfl, hb1⟩
    go_wp2_with fail
    go_ret
    exact ⟨rfl, below_over (by go_grown) hb1⟩
  · have e : Tx.shownI op a b = Tx.showI op a b := by simp [Tx.shownI, h]
    rw [e]
    clear e
    rcases op_cases op with rfl | rfl | rfl | rfl | rfl | rfl | rfl | rfl | rfl | rfl | rfl | rfl | rfl | rfl | rfl | rfl | rfl | rfl | rfl | rfl | ho
    · exact impl1 a b a0 a1 b0 b1 h B w hB hT
    · exact impl2 a b a0 a1 b0 b1 h B w hB hT
    · exact impl3 a b a0 a1 b0 b1 h B w hB hT
    · exact impl4 a b a0 a1 b0 b1 h B w hB hT
    · exact impl5 a b a0 a1 b0 b1 h B w hB hT
    · exact impl6 a b a0 a1 b0 b1 h B w hB hT
    · exact impl7 a b a0 a1 b0 b1 h B w hB hT
    · exact impl8 a b a0 a1 b0 b1 h B w hB hT
    · exact impl9 a b a0 a1 b0 b1 h B w hB hT
    · exact impl10 a b a0 a1 b0 b1 h B w hB hT
    · exact impl11 a b a0 a1 b0 b1 h B w hB hT
    · exact impl12 a b a0 a1 b0 b1 h B w hB hT
    · exact impl13 a b a0 a1 b0 b1 h B w hB hT
    · exact impl14 a b a0 a1 b0 b1 h B w hB hT
    · exact impl15 a b a0 a1 b0 b1 h B w hB hT
    · exact impl16 a b a0 a1 b0 b1 h B w hB hT
    · exact impl17 a b a0 a1 b0 b1 h B w hB hT
    · exact impl18 a b a0 a1 b0 b1 h B w hB hT
    · exact impl19 a b a0 a1 b0 b1 h B w hB hT
    · exact impl20 a b a0 a1 b0 b1 h B w hB hT
    · have := Tx.ok_op h; omega
end St
end Go.Proofs.YtbgbddahniacbaaGreatDoor

/- Contracts under the showing of code: rows of steps; whether all are right. -/
namespace Go.Proofs.YtbgbddahniacbaaGreatDoor
namespace St
open Go.ChangeShapes Go.WideShapes Go.ChangeAt Go.RowKit

theorem join_snoc (p : List (List UInt8)) (x : List UInt8) (h : p ≠ []) : Lib.join (p ++ [x]) [32] = Lib.join p [32] ++ 32 :: x := by
  induction p with
  | nil => exact absurd rfl h
  | cons y r ih =>
    cases r with
    | nil => simp [Lib.join, List.intercalate]
    | cons z r =>
      have := ih (by simp)
      have e : ∀ q : List (List UInt8), Lib.join (y :: z :: q) [32] = y ++ 32 :: Lib.join (z :: q) [32] := by
        intro q; simp [Lib.join, List.intercalate]
      rw [List.cons_append, List.cons_append, e, e]
      rw [List.cons_append] at this
      rw [this]; simp
theorem showC_snoc {l : List Tx.Ins} {k : Nat} (hk : k < l.length) (h0 : 0 < k) : Tx.showC (l.take (k + 1)) = Tx.showC (l.take k) ++ 32 :: Tx.showT l[k] := by
  unfold Tx.showC
  rw [List.take_succ_eq_append_getElem hk, List.map_append, List.map_singleton, join_snoc _ _ (by
    intro e
    have := congrArg List.length e
    rw [List.length_map, List.length_take, List.length_nil] at this
    omega)]
theorem showC_one {l : List Tx.Ins} (hk : 0 < l.length) : Tx.showC (l.take 1) = Tx.showT l[0] := by
  unfold Tx.showC
  rw [List.take_succ_eq_append_getElem hk, List.take_zero, List.nil_append, List.map_singleton, Lib.join_one]
theorem showC_len (l : List Tx.Ins) (h : l.all Tx.okT = true) : (Tx.showC l).length ≤ 13 * l.length := by
  cases l with
  | nil => simp [Tx.showC, Lib.join]
  | cons i l =>
    have h1 := Tx.splitC_join (i :: l) h (by simp)
    have h2 := Tx.splitC_total 32 (Tx.showC (i :: l))
    rw [h1] at h2
    have := Tx.sum_le (i :: l) h
    omega

set_option maxHeartbeats 800000 in
theorem showCode_at (g cap : Nat) (l : List Tx.Ins) (hok : Tx.okC l = true) (w : World) (hr : Row w g 0 l) :
    Calls Tryz.prog 37 #[.slice (some ⟨g, 0, none⟩) l.length cap] w fun e w' => e = .returned (.string ⟨(Tx.showC l).toArray⟩) ∧ Below w.heap.size w w' := by
  have HR : Hid (Row w g 0 l) := hr
  have hl : l.length ≤ 40 := by unfold Tx.okC at hok; simp only [Bool.and_eq_true, decide_eq_true_eq] at hok; exact hok.1
  have HA : Hid (l.all Tx.okT = true) := by show l.all Tx.okT = true; unfold Tx.okC at hok; simp only [Bool.and_eq_true] at hok; exact hok.2
  clear hr hok
  go_enter Tryz.func37, Tryz.ntmps37
  go_wp2
  go_loopw [3, 4] (fun v i wr => ∃ (k : Nat) (s : ByteArray), k ≤ l.length ∧ i = .int .i64 k ∧ .string s = v ∧ Hid (s.data.toList = Tx.showC (l.take k)) ∧ Below w.heap.size w wr) (fun _ i _ => l.length - (intOf i).toNat)
  case atStart => exact ⟨0, ⟨#[]⟩, Nat.zero_le _, rfl, rfl, rfl, Below.refl _ _⟩
  case round =>
    obtain ⟨k, s, hk, rfl, rfl, hs, hb⟩ := hrel
    have hsz : s.size ≤ 520 := by
      have h1 := showC_len (l.take k) (by
        rw [List.all_eq_true]
        intro x hx
        exact List.all_eq_true.1 HA.out x (List.mem_of_mem_take hx))
      rw [← hs.out, List.length_take] at h1
      have e : s.data.toList.length = s.size := by simp
      omega
    by_cases hlt : k < l.length
    · obtain ⟨h0, h1, h2⟩ := HR.out.below hb (cell_lt (HR.out k _ (List.getElem?_eq_getElem hlt)).1) k _ (List.getElem?_eq_getElem hlt)
      have hx := List.all_eq_true.1 HA.out _ (List.getElem_mem hlt)
      have HS1 : Hid (0 < k → Tx.showC (l.take (k + 1)) = Tx.showC (l.take k) ++ 32 :: Tx.showT l[k]) := showC_snoc hlt
      have HS0 : Hid (k = 0 → Tx.showC (l.take (k + 1)) = Tx.showT l[k]) := by
        show k = 0 → _
        intro e; subst e; exact showC_one hlt
      generalize l[k] = x at *
      obtain ⟨op, a, b⟩ := x
      have HX : Hid (Tx.okI op a b = true) := hx
      have hal := Tx.show_len hx
      have hab := Tx.ok_a hx
      have hbb := Tx.ok_b hx
      clear hx
      simp only [Nat.zero_add] at h0 h1 h2
      by_cases hk0 : k = 0
      · subst hk0
        simp only [Nat.zero_mul, Nat.zero_add] at h0 h1 h2
        go_wp2_with fail
        refine (tell_at op a b (by omega) (by omega) (by omega) (by omega) HX.out _).mono ?_
        rintro e w1 ⟨rfl, hb1⟩
        have hw1 : Below w.heap.size w w1 := below_over hb hb1
        clear hb1 h0 h1 h2
        go_wp2
        go_roundw
        case rel =>
          refine ⟨1, _, by omega, by go_num, rfl, ?_, hw1⟩
          show _ = _
          rw [HS0.out trivial]
          have e := hs.out
          rw [List.take_zero] at e
          simp [e, Tx.showC, Lib.join, Tx.showT]
        case measure => simp [intOf]; omega
      · have hk1 : (0 : Int) < (k : Int) := by omega
        go_wp2_with fail
        refine (tell_at op a b (by omega) (by omega) (by omega) (by omega) HX.out _).mono ?_
        rintro e w1 ⟨rfl, hb1⟩
        have hw1 : Below w.heap.size w w1 := below_over hb hb1
        clear hb1 h0 h1 h2
        go_wp2
        go_roundw
        case rel =>
          refine ⟨k + 1, _, by omega, by go_num, rfl, ?_, hw1⟩
          show _ = _
          rw [HS1.out (by omega), ← hs.out]
          simp [Tx.showT]
        case measure => simp [intOf]; omega
    · have HN : Hid (s = ⟨(Tx.showC l).toArray⟩) := by
        show s = _
        apply str_eq
        rw [hs.out, List.take_of_length_le (by omega)]
      go_wp2
      go_ret
      exact ⟨retS HN.out, hb⟩

end St
end Go.Proofs.YtbgbddahniacbaaGreatDoor
