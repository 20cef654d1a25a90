/- Numbers with blanks between, as both sides show them; lines. -/
import Derived.Test.YtkjoljcgbjodlaaDoorCode1
import Derived.Test.YtkjoljcgbjodlaaDoorIRow0
namespace Go.Proofs.YtkjoljcgbjodlaaDoor
namespace St
open Go.ChangeShapes Go.WideShapes Go.ChangeAt Go.RowKit

def numsT (l : List Int) : List UInt8 := Lib.join (l.map Lib.itoa) [32]
theorem numsT_snoc {l : List Int} {k : Nat} (hk : k < l.length) (h0 : 0 < k) : numsT (l.take (k + 1)) = numsT (l.take k) ++ 32 :: Lib.itoa l[k] := by
  unfold numsT
  rw [List.take_succ_eq_append_getElem hk, List.map_append, List.map_singleton, join_snoc _ _ (by
    intro e
    have := congrArg List.length e
    rw [List.length_map, List.length_take, List.length_nil] at this
    omega)]
theorem numsT_one {l : List Int} (hk : 0 < l.length) : numsT (l.take 1) = Lib.itoa l[0] := by
  unfold numsT
  rw [List.take_succ_eq_append_getElem hk]
  simp [Lib.join, List.intercalate]
theorem numsT_len : ∀ (k : Nat) (l : List Int), (∀ x ∈ l, -2147483648 ≤ x ∧ x ≤ 2147483647) → k ≤ l.length → (numsT (l.take k)).length ≤ 12 * k := by
  intro k
  induction k with
  | zero => intro l _ _; simp [numsT, Lib.join, List.intercalate]
  | succ k ih =>
    intro l hb hk
    have hx := hb _ (List.getElem_mem (show k < l.length by omega))
    have hi := Tx.itoa_len l[k] hx.1 hx.2
    by_cases h0 : k = 0
    · subst h0
      rw [numsT_one (by omega)]; omega
    · rw [numsT_snoc (by omega) (by omega)]
      have := ih l hb (by omega)
      simp only [List.length_append, List.length_cons]; omega

set_option maxHeartbeats 800000 in
theorem ints_at (g cap : Nat) (l : List Int) (hl : l.length ≤ 1000) (hbd : ∀ x ∈ l, -2147483648 ≤ x ∧ x ≤ 2147483647) (w : World) (hr : IRow w g 0 l) :
    Calls Tryd.prog 17 #[.slice (some ⟨g, 0, none⟩) l.length cap] w fun e w' => e = .returned (.string ⟨(numsT l).toArray⟩) ∧ Below w.heap.size w w' := by
  have HR : Hid (IRow w g 0 l) := hr
  have HA : Hid (∀ x ∈ l, -2147483648 ≤ x ∧ x ≤ 2147483647) := hbd
  clear hr hbd
  go_enter Tryd.func17, Tryd.ntmps17
  go_wp2
  go_loopw [3, 4] (fun v i wr => ∃ (k : Nat) (s : ByteArray), k ≤ l.length ∧ i = .int .i64 k ∧ .string s = v ∧ Hid (s.data.toList = numsT (l.take k)) ∧ Below w.heap.size w wr) (fun _ i _ => l.length - (intOf i).toNat)
  case atStart => exact ⟨0, ⟨#[]⟩, Nat.zero_le _, rfl, rfl, rfl, Below.refl _ _⟩
  case round =>
    obtain ⟨k, s, hk, rfl, rfl, hs, hb⟩ := hrel
    have hsz : s.size ≤ 12000 := by
      have h1 := numsT_len k l HA.out hk
      rw [← hs.out] at h1
      have e : s.data.toList.length = s.size := by simp
      omega
    by_cases hlt : k < l.length
    · have h0 := HR.out.on hb k _ (List.getElem?_eq_getElem hlt)
      have hx := HA.out _ (List.getElem_mem hlt)
      have hal := Tx.itoa_len l[k] hx.1 hx.2
      have HS1 : Hid (0 < k → numsT (l.take (k + 1)) = numsT (l.take k) ++ 32 :: Lib.itoa l[k]) := numsT_snoc hlt
      have HS0 : Hid (k = 0 → numsT (l.take (k + 1)) = Lib.itoa l[k]) := by
        show k = 0 → _
        intro e; subst e; exact numsT_one hlt
      generalize l[k] = x at *
      simp only [Nat.zero_add] at h0
      by_cases hk0 : k = 0
      · subst hk0
        go_wp2_with fail
        refine (int_at x (by omega) (by omega) _).mono ?_
        rintro e w1 ⟨rfl, hb1⟩
        have hw1 : Below w.heap.size w w1 := below_over hb hb1
        clear hb1 h0
        go_wp2
        go_roundw
        case rel =>
          refine ⟨1, _, by omega, by go_num, rfl, ?_, hw1⟩
          show _ = _
          rw [HS0.out trivial]
          have e := hs.out
          rw [List.take_zero] at e
          simp [e, numsT, Lib.join]
        case measure => simp [intOf]; omega
      · have hk1 : (0 : Int) < (k : Int) := by omega
        go_wp2_with fail
        refine (int_at x (by omega) (by omega) _).mono ?_
        rintro e w1 ⟨rfl, hb1⟩
        have hw1 : Below w.heap.size w w1 := below_over hb hb1
        clear hb1 h0
        go_wp2
        go_roundw
        case rel =>
          refine ⟨k + 1, _, by omega, by go_num, rfl, ?_, hw1⟩
          show _ = _
          rw [HS1.out (by omega), ← hs.out]
          simp
        case measure => simp [intOf]; omega
    · have HN : Hid (s = ⟨(numsT l).toArray⟩) := by
        show s = _
        apply str_eq
        rw [hs.out, List.take_of_length_le (by omega)]
      go_wp2
      go_ret
      exact ⟨retS HN.out, hb⟩

/-- Strings in a row. -/
def SRow (w : World) (g o : Nat) (ls : List (List UInt8)) : Prop := ∀ j x, ls[j]? = some x → w.cell? ⟨g, o + j, none⟩ = some (.string ⟨x.toArray⟩)
theorem SRow.on {u v : World} {g o : Nat} {l : List (List UInt8)} (h : SRow u g o l) (hb : Below u.heap.size u v) : SRow v g o l := fun j x hj => (hb.cell (cell_lt (h j x hj))).trans (h j x hj)
def textL (ls : List (List UInt8)) : List UInt8 := ls.flatMap fun x => x ++ [10]
theorem textL_snoc {l : List (List UInt8)} {k : Nat} (hk : k < l.length) : textL (l.take (k + 1)) = textL (l.take k) ++ (l[k] ++ [10]) := by
  unfold textL
  rw [List.take_succ_eq_append_getElem hk, List.flatMap_append]
  simp
theorem textL_len : ∀ (k : Nat) (l : List (List UInt8)), (∀ x ∈ l, x.length ≤ 1000) → k ≤ l.length → (textL (l.take k)).length ≤ 1001 * k := by
  intro k
  induction k with
  | zero => intro l _ _; simp [textL]
  | succ k ih =>
    intro l hb hk
    have hx := hb _ (List.getElem_mem (show k < l.length by omega))
    rw [textL_snoc (by omega)]
    have := ih l hb (by omega)
    simp only [List.length_append, List.length_cons, List.length_nil]; omega

set_option maxHeartbeats 800000 in
theorem lines_at (g cap : Nat) (l : List (List UInt8)) (hl : l.length ≤ 1000) (hbd : ∀ x ∈ l, x.length ≤ 1000) (w : World) (hr : SRow w g 0 l) :
    Calls Tryd.prog 24 #[.slice (some ⟨g, 0, none⟩) l.length cap] w fun e w' => e = .returned (.string ⟨(textL l).toArray⟩) ∧ Below w.heap.size w w' := by
  have HR : Hid (SRow w g 0 l) := hr
  have HA : Hid (∀ x ∈ l, x.length ≤ 1000) := hbd
  clear hr hbd
  go_enter Tryd.func24, Tryd.ntmps24
  go_wp2
  go_loopw [3, 8] (fun v i wr => ∃ (k : Nat) (s : ByteArray), k ≤ l.length ∧ i = .int .i64 k ∧ .string s = v ∧ Hid (s.data.toList = textL (l.take k)) ∧ Below w.heap.size w wr) (fun _ i _ => l.length - (intOf i).toNat)
  case atStart => exact ⟨0, ⟨#[]⟩, Nat.zero_le _, rfl, rfl, rfl, Below.refl _ _⟩
  case round =>
    obtain ⟨k, s, hk, rfl, rfl, hs, hb⟩ := hrel
    have hsz : s.size ≤ 1001000 := by
      have h1 := textL_len k l HA.out hk
      rw [← hs.out] at h1
      have e : s.data.toList.length = s.size := by simp
      omega
    by_cases hlt : k < l.length
    · have h0 := HR.out.on hb k _ (List.getElem?_eq_getElem hlt)
      have hal := HA.out _ (List.getElem_mem hlt)
      have HS1 : Hid (textL (l.take (k + 1)) = textL (l.take k) ++ (l[k] ++ [10])) := textL_snoc hlt
      generalize l[k] = x at *
      simp only [Nat.zero_add] at h0
      go_wp2
      go_roundw
      case rel =>
        refine ⟨k + 1, _, by omega, by go_num, rfl, ?_, hb⟩
        show _ = _
        rw [HS1.out, ← hs.out]
        simp
      case measure => simp [intOf]; omega
    · have HN : Hid (s = ⟨(textL l).toArray⟩) := by
        show s = _
        apply str_eq
        rw [hs.out, List.take_of_length_le (by omega)]
      go_wp2
      go_ret
      exact ⟨retS HN.out, hb⟩
end St
end Go.Proofs.YtkjoljcgbjodlaaDoor
