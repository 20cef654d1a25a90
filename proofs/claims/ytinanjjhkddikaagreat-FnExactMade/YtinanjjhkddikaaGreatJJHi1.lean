/- Contracts of the two sides' tests whether code is right. -/
import Derived.Test.YtinanjjhkddikaaGreatJJLo0
import Derived.Lib.QuietBelow
import Derived.Deep.RegionHeld3
import Derived.BigQuiet
import Derived.Deep.MidRow
import Derived.ChangeKeysEq
import Derived.Deep.WholeRow
import Derived.Deep.LoopGhost
import Derived.Test.YtinanjjhkddikaaGreatJJFl0
import Derived.RangeFuncNested
import Derived.RangeFuncBound
import Derived.RangeFuncCalls
import Derived.RangeFuncLeaves
import Derived.Shelf.Abstract
import Derived.Shelf.RegionOpen
import Derived.WalkKit
import Derived.OwnWalkIn
import Derived.TacticsInMore
import Derived.LoopNIn
import Derived.LoopIn
import Derived.OrdersIn
namespace Go.Proofs.YtinanjjhkddikaaGreat
namespace St
open Go.ChangeShapes Go.WideShapes Go.ChangeAt Go.RowKit

def good (n : Int) (x : Tx.Ins) : Bool := Tx.okT x && (!(Lay.jumpB x.1) || decide (x.2.1 < n))
theorem all_and {α : Type} (p q : α → Bool) (l : List α) : (l.all p && l.all q) = l.all fun x => p x && q x := by
  induction l with
  | nil => rfl
  | cons x l ih => simp only [List.all_cons, ← ih]; cases p x <;> cases q x <;> cases l.all p <;> simp
theorem codeOk_good (l : List Tx.Ins) : Lay.codeOk l = (decide (0 < l.length) && decide (l.length ≤ 40) && l.all (good l.length)) := by
  unfold Lay.codeOk Tx.okC good
  rw [← all_and]
  simp only [Bool.and_assoc]
theorem take_all {α : Type} {p : α → Bool} {l : List α} {k : Nat} (hk : k < l.length) (h : (l.take k).all p = true) (hx : p l[k] = true) : (l.take (k + 1)).all p = true := by
  rw [List.take_succ_eq_append_getElem hk, List.all_append, h]; simp [hx]
theorem all_no {α : Type} {p : α → Bool} {l : List α} {k : Nat} (hk : k < l.length) (hx : p l[k] = false) : l.all p = false := by
  cases hh : l.all p
  · rfl
  · have := List.all_eq_true.1 hh _ (List.getElem_mem hk)
    rw [hx] at this; simp at this
theorem code_no {l : List Tx.Ins} {k : Nat} (hk : k < l.length) (hx : good l.length l[k] = false) : Lay.codeOk l = false := by
  rw [codeOk_good, all_no hk hx]; simp
theorem jump_nonneg {op a b : Int} (h : Tx.okI op a b = true) (hj : Lay.jumpB op = true) : 0 ≤ a := by
  unfold Tx.okI at h
  unfold Lay.jumpB at hj
  have e : ¬ op = 1 := by
    intro e; rw [e] at hj; simp at hj
  rw [if_neg e] at h
  simp only [Bool.and_eq_true, decide_eq_true_eq] at h
  exact h.1.1.1

set_option maxRecDepth 100000 in
set_option maxHeartbeats 1000000 in
theorem implCodeOk (g cap : Nat) (l : List Tx.Ins) (hl : l.length ≤ 1048576) (w : World) (hr : Row w g 0 l) :
    Calls Tryz.prog 88 #[.slice (some ⟨g, 0, none⟩) l.length cap] w fun e w' => e = .returned (.bool (Lay.codeOk l)) ∧ Below w.heap.size w w' := by
  have HR : Hid (Row w g 0 l) := hr
  clear hr
  by_cases h0 : l.length = 0
  · have HN : Hid (Lay.codeOk l = false) := by
      show Lay.codeOk l = false
      rw [codeOk_good, h0]; rfl
    have h0i : (l.length : Int) = 0 := by omega
    go_enter Tryz.func88, Tryz.ntmps88
    go_wp2
    go_ret
    exact ⟨retB HN.out.symm, Below.refl _ _⟩
  · have h0i : ¬ (l.length : Int) = 0 := by omega
    by_cases hbig : (40 : Int) < (l.length : Int)
    · have HN : Hid (Lay.codeOk l = false) := by
        show Lay.codeOk l = false
        rw [codeOk_good]
        have : decide (l.length ≤ 40) = false := by simp; omega
        rw [this]; simp
      go_enter Tryz.func88, Tryz.ntmps88
      go_wp2
      go_ret
      exact ⟨retB HN.out.symm, Below.refl _ _⟩
    · go_enter Tryz.func88, Tryz.ntmps88
      go_wp2
      go_loopw [15] (fun i wr => ∃ k : Nat, k ≤ l.length ∧ i = .int .i64 k ∧ Hid ((l.take k).all (good l.length) = true) ∧ Below w.heap.size w wr) (fun i _ => l.length - (intOf i).toNat)
      case atStart => exact ⟨0, Nat.zero_le _, rfl, rfl, Below.refl _ _⟩
      case round =>
        obtain ⟨k, hk, rfl, hall, hb⟩ := hrel
        by_cases hlt : k < l.length
        · obtain ⟨d0, d1, d2⟩ := HR.out.below hb (cell_lt (HR.out k _ (List.getElem?_eq_getElem hlt)).1) k _ (List.getElem?_eq_getElem hlt)
          have HNO : Hid (good l.length l[k] = false → Lay.codeOk l = false) := code_no hlt
          have HYES : Hid (good l.length l[k] = true → (l.take (k + 1)).all (good l.length) = true) := take_all hlt hall.out
          generalize l[k] = x at *
          obtain ⟨op, a, b⟩ := x
          have hki : (k : Int) < (l.length : Int) := by omega
          simp only [Nat.zero_add] at d0 d1 d2
          go_wp2_with fail
          refine (implOk op a b _).mono ?_
          rintro e w1 ⟨rfl, hb1⟩
          have hw1 : Below w.heap.size w w1 := below_over (hb.alloc hb.size _) hb1
          have BX := boxC hb1
          obtain ⟨c0, c1, c2⟩ := BX
          clear hb1 d0 d1 d2
          cases hok : Tx.okI op a b
          · have HN : Hid (Lay.codeOk l = false) := HNO.out (by simp [good, Tx.okT, hok])
            go_wp2
            go_ret
            exact ⟨retB HN.out.symm, hw1⟩
          · go_wp2_with fail
            refine (isJump op a b _).mono ?_
            rintro e w2 ⟨rfl, hb2⟩
            have hw2 : Below w.heap.size w w2 := below_over hw1 hb2
            have c0' := (hb2.cell (cell_lt c0)).trans c0
            have c1' := (hb2.cell (cell_lt c1)).trans c1
            have c2' := (hb2.cell (cell_lt c2)).trans c2
            clear hb2 c0 c1 c2
            cases hj : Lay.jumpB op
            · have HY : Hid ((l.take (k + 1)).all (good l.length) = true) := HYES.out (by simp [good, Tx.okT, hok, hj])
              go_wp2
              go_roundw
              case rel => exact ⟨k + 1, by omega, by go_num, HY.out, hw2⟩
              case measure => simp [intOf]; omega
            · have hnn := jump_nonneg hok hj
              go_wp2_with fail
              refine (isBelow a l.length _).mono ?_
              rintro e w3 ⟨rfl, rfl⟩
              have hda : decide (0 ≤ a) = true := by simp [hnn]
              rw [hda, Bool.true_and]
              cases hq : decide (a < (l.length : Int))
              · have HN : Hid (Lay.codeOk l = false) := HNO.out (by simp only [good, Tx.okT, hok, hj, hq]; rfl)
                clear hq hda
                go_wp2
                go_ret
                exact ⟨retB HN.out.symm, hw2⟩
              · have HY : Hid ((l.take (k + 1)).all (good l.length) = true) := HYES.out (by simp only [good, Tx.okT, hok, hj, hq]; rfl)
                clear hq hda
                go_wp2
                go_roundw
                case rel => exact ⟨k + 1, by omega, by go_num, HY.out, hw2⟩
                case measure => simp [intOf]; omega
        · have HN : Hid (Lay.codeOk l = true) := by
            show Lay.codeOk l = true
            have e : l.take k = l := List.take_of_length_le (by omega)
            have := hall.out
            rw [e] at this
            rw [codeOk_good, this]
            simp; omega
          go_wp2
          go_ret
          exact ⟨retB HN.out.symm, hb⟩
theorem okC_all {l : List Tx.Ins} (h : Tx.okC l = true) : l.length ≤ 40 ∧ l.all Tx.okT = true := by
  unfold Tx.okC at h
  simpa using h
set_option maxRecDepth 100000 in
set_option maxHeartbeats 1000000 in
theorem specCodeOk (g cap : Nat) (l : List Tx.Ins) (hl : l.length ≤ 1048576) (w : World) (hr : Row w g 0 l) :
    Calls Tryz.prog 67 #[.slice (some ⟨g, 0, none⟩) l.length cap] w fun e w' => e = .returned (.bool (Lay.codeOk l)) ∧ Below w.heap.size w w' := by
  have HR : Hid (Row w g 0 l) := hr
  clear hr
  by_cases h0 : l.length = 0
  · have HN : Hid (Lay.codeOk l = false) := by
      show Lay.codeOk l = false
      rw [codeOk_good, h0]; rfl
    have h0i : (l.length : Int) < 1 := by omega
    go_enter Tryz.func67, Tryz.ntmps67
    go_wp2
    go_ret
    exact ⟨retB HN.out.symm, Below.refl _ _⟩
  · have h0i : ¬ (l.length : Int) < 1 := by omega
    cases hok : Tx.okC l
    · have HN : Hid (Lay.codeOk l = false) := by
        show Lay.codeOk l = false
        unfold Lay.codeOk; rw [hok]; simp
      go_enter Tryz.func67, Tryz.ntmps67
      go_wp2_with fail
      refine (each_at g cap l hl _ HR.out).mono ?_
      rw [hok]
      rintro e w1 ⟨rfl, hb1⟩
      go_wp2
      go_ret
      exact ⟨retB HN.out.symm, hb1⟩
    · have HA : Hid (l.length ≤ 40 ∧ l.all Tx.okT = true) := okC_all hok
      go_enter Tryz.func67, Tryz.ntmps67
      go_wp2_with fail
      refine (each_at g cap l hl _ HR.out).mono ?_
      rw [hok]
      rintro e w1 ⟨rfl, hb1⟩
      go_wp2
      go_loopw [3] (fun i wr => ∃ k : Nat, k ≤ l.length ∧ i = .int .i64 k ∧ Hid ((l.take k).all (good l.length) = true) ∧ Below w.heap.size w wr) (fun i _ => l.length - (intOf i).toNat)
      case atStart => exact ⟨0, Nat.zero_le _, rfl, rfl, hb1⟩
      case round =>
        obtain ⟨k, hk, rfl, hall, hb⟩ := hrel
        by_cases hlt : k < l.length
        · obtain ⟨d0, d1, d2⟩ := HR.out.below hb (cell_lt (HR.out k _ (List.getElem?_eq_getElem hlt)).1) k _ (List.getElem?_eq_getElem hlt)
          have hko : Tx.okT l[k] = true := List.all_eq_true.1 HA.out.2 _ (List.getElem_mem hlt)
          have HNO : Hid (good l.length l[k] = false → Lay.codeOk l = false) := code_no hlt
          have HYES : Hid (good l.length l[k] = true → (l.take (k + 1)).all (good l.length) = true) := take_all hlt hall.out
          generalize l[k] = x at *
          obtain ⟨op, a, b⟩ := x
          have HKO : Hid (Tx.okT (op, a, b) = true) := hko
          clear hko
          have hki : (k : Int) < (l.length : Int) := by omega
          simp only [Nat.zero_add] at d0 d1 d2
          go_wp2_with fail
          refine (l3Jump op _).mono ?_
          rintro e w2 ⟨rfl, rfl⟩
          cases hj : Lay.jumpB op
          · have HY : Hid ((l.take (k + 1)).all (good l.length) = true) := HYES.out (by simp only [good, HKO.out, hj]; rfl)
            go_wp2
            go_roundw
            case rel => exact ⟨k + 1, by omega, by go_num, HY.out, hb⟩
            case measure => simp [intOf]; omega
          · by_cases hq : a < (l.length : Int)
            · have HY : Hid ((l.take (k + 1)).all (good l.length) = true) := HYES.out (by simp only [good, HKO.out, hj]; simp [hq])
              go_wp2
              go_roundw
              case rel => exact ⟨k + 1, by omega, by go_num, HY.out, hb⟩
              case measure => simp [intOf]; omega
            · have HN : Hid (Lay.codeOk l = false) := HNO.out (by simp only [good, HKO.out, hj]; simp; omega)
              go_wp2
              go_ret
              exact ⟨retB HN.out.symm, hb⟩
        · have HN : Hid (Lay.codeOk l = true) := by
            show Lay.codeOk l = true
            have e : l.take k = l := List.take_of_length_le (by omega)
            have := hall.out
            rw [e] at this
            have := HA.out.1
            rw [codeOk_good, ‹l.all _ = true›]
            simp; omega
          go_wp2
          go_ret
          exact ⟨retB HN.out.symm, hb⟩
end St
end Go.Proofs.YtinanjjhkddikaaGreat

/- Contracts of the program's own small functions on programs. -/
namespace Go.Proofs.YtinanjjhkddikaaGreat
namespace Pg
open Go.ChangeShapes Go.WideShapes Go.ChangeAt Go.RowKit St

set_option maxHeartbeats 400000 in
theorem hasClass (a : Option Addr) (n cap : Nat) (t : Int) (w : World) :
    Calls Tryz.prog 76 #[.agg #[.slice a n cap], .int .i64 t] w fun e w' => e = .returned (.bool (decide (0 ≤ t) && decide (t < (n : Int)))) ∧ Below w.heap.size w w' := by
  go_enter Tryz.func76, Tryz.ntmps76
  go_wp2_with fail
  refine (isBelow t n _).mono ?_
  rintro e w1 ⟨rfl, rfl⟩
  go_wp2
  go_ret
  exact ⟨rfl, (Below.refl _ _).alloc (Nat.le_refl _) _⟩

set_option maxHeartbeats 800000 in
theorem areTypesOf {f : Bool} (B : Nat) (a a' : Option Addr) (n cap cap' : Nat) (l : List Int) (hl : l.length ≤ 1048576) (w : World) (hi : SI f B w (.slice a' l.length cap') l) :
    Calls Tryz.prog 73 #[.agg #[.slice a n cap], .slice a' l.length cap'] w fun e w' => e = .returned (.bool (l.all (tyB n))) ∧ Below w.heap.size w w' := by
  have HI : Hid (SI f B (w.alloc (.cells #[.slice a n cap] 30)) (.slice a' l.length cap') l) := SI.on hi (Keep.of ((Below.refl _ _).alloc (Nat.le_refl _) _))
  have C0 : Hid (Cells (w.alloc (.cells #[.slice a n cap] 30)) w.heap.size [.slice a n cap]) := Cells.new w _ rfl _ _
  clear hi
  go_enter Tryz.func73, Tryz.ntmps73
  go_wp2
  generalize hW : w.alloc (.cells #[.slice a n cap] 30) = W at *
  have hwW : Below w.heap.size w W := by rw [← hW]; exact (Below.refl _ _).alloc (Nat.le_refl _) _
  clear hW
  go_loopw [9] (fun i wr => ∃ k : Nat, k ≤ l.length ∧ i = .int .i64 k ∧ Hid ((l.take k).all (tyB n) = true) ∧ Below W.heap.size W wr) (fun i _ => l.length - (intOf i).toNat)
  case atStart => exact ⟨0, Nat.zero_le _, rfl, rfl, Below.refl _ _⟩
  case round =>
    obtain ⟨k, hk, rfl, hall, hb⟩ := hrel
    by_cases hlt : k < l.length
    · obtain ⟨b, o, rfl, _, c1⟩ := (SI.on HI.out (Keep.of hb)).get hlt
      unfold IntAt at c1
      rw [Nat.mul_one] at c1
      have c0 := (C0.out.on hb).g0.1
      have HT : Hid (tyB n l[k] = true → (l.take (k + 1)).all (tyB n) = true) := fun h => take_all hlt hall.out h
      have HF : Hid (tyB n l[k] = false → l.all (tyB n) = false) := fun h => all_no hlt h
      generalize l[k] = t at *
      have hki : (k : Int) < (l.length : Int) := by omega
      have hw1 : Below w.heap.size w wr := below_over hwW hb
      by_cases ht : t = -1
      · subst ht
        have HA := HT.out (by simp [tyB])
        have HAA : Hid ((l.take (k + 1)).all (tyB n) = true) := HA
        clear HA HT HF hall
        go_wp2
        go_roundw
        case rel => exact ⟨k + 1, by omega, by go_num, HAA.out, hb⟩
        case measure => simp [intOf]; omega
      · have htb : (t != -1) = true := by simpa using ht
        go_wp2_with fail
        refine (hasClass a n cap t _).mono ?_
        rintro e w1 ⟨rfl, hb1⟩
        have hw2 : Below W.heap.size W w1 := below_over hb hb1
        clear hb1 hb c0 c1
        cases hq : (decide (0 ≤ t) && decide (t < (n : Int)))
        · have HA : Hid (l.all (tyB n) = false) := HF.out (by unfold tyB; rw [hq]; simp [ht])
          go_wp2
          go_ret
          exact ⟨retB HA.out.symm, below_over hwW hw2⟩
        · have HA : Hid ((l.take (k + 1)).all (tyB n) = true) := HT.out (by unfold tyB; rw [hq]; simp)
          clear HT HF hall
          go_wp2
          go_roundw
          case rel => exact ⟨k + 1, by omega, by go_num, HA.out, hw2⟩
          case measure => simp [intOf]; omega
    · have HN : Hid (l.all (tyB n) = true) := by
        show _ = _
        have e : l.take k = l := List.take_of_length_le (by omega)
        have := hall.out
        rw [e] at this
        exact this
      go_wp2
      go_ret
      exact ⟨retB HN.out.symm, below_over hwW hb⟩

theorem diff_no {l r : List Int} {k : Nat} (h1 : k < l.length) (h2 : k < r.length) (h : l[k] ≠ r[k]) : decide (l = r) = false := by
  simp only [decide_eq_false_iff_not]
  intro e
  subst e
  exact h rfl
theorem same_take {l r : List Int} {k : Nat} (h1 : k < l.length) (h2 : k < r.length) (h : l.take k = r.take k) (he : l[k] = r[k]) : l.take (k + 1) = r.take (k + 1) := by
  rw [List.take_succ_eq_append_getElem h1, List.take_succ_eq_append_getElem h2, h, he]

set_option maxHeartbeats 1000000 in
theorem slicesEqual {f f' : Bool} (B B' : Nat) (a a' : Option Addr) (cap cap' : Nat) (l r : List Int) (hl : l.length ≤ 1048576) (w : World) (h1 : SI f B w (.slice a l.length cap) l) (h2 : SI f' B' w (.slice a' r.length cap') r) :
    Calls Tryz.prog 89 #[.slice a l.length cap, .slice a' r.length cap'] w fun e w' => e = .returned (.bool (decide (l = r))) ∧ Below w.heap.size w w' := by
  have H1 : Hid (SI f B w (.slice a l.length cap) l) := h1
  have H2 : Hid (SI f' B' w (.slice a' r.length cap') r) := h2
  clear h1 h2
  by_cases hlen : l.length = r.length
  · have HLEN : Hid (l.length = r.length) := hlen
    rw [← hlen]
    clear hlen
    go_enter Tryz.func89, Tryz.ntmps89
    go_wp2
    go_loopw [13] (fun i wr => ∃ k : Nat, k ≤ l.length ∧ i = .int .i64 k ∧ Hid (l.take k = r.take k) ∧ Below w.heap.size w wr) (fun i _ => l.length - (intOf i).toNat)
    case atStart => exact ⟨0, Nat.zero_le _, rfl, rfl, Below.refl _ _⟩
    case round =>
      obtain ⟨k, hk, rfl, hsame, hb⟩ := hrel
      by_cases hlt : k < l.length
      · have hlr : k < r.length := by rw [← HLEN.out]; exact hlt
        obtain ⟨b, o, rfl, _, a0⟩ := (SI.on H1.out (Keep.of hb)).get hlt
        obtain ⟨b', o', rfl, _, b0⟩ := (SI.on H2.out (Keep.of hb)).get hlr
        unfold IntAt at a0 b0
        rw [Nat.mul_one] at a0 b0
        have HT : Hid (l[k] = r[k] → l.take (k + 1) = r.take (k + 1)) := fun h => same_take hlt hlr hsame.out h
        have HF : Hid (l[k] ≠ r[k] → decide (l = r) = false) := fun h => diff_no hlt hlr h
        generalize l[k] = x at *
        generalize r[k] = y at *
        clear hlr hsame
        have hki : (k : Int) < (l.length : Int) := by omega
        have hki0 : (0 : Int) ≤ (k : Int) := by omega
        have r0 := cell_regrown a0
        have s0 := cell_regrown b0
        by_cases hxy : x = y
        · subst hxy
          have HS : Hid (l.take (k + 1) = r.take (k + 1)) := HT.out rfl
          clear HT HF
          go_wp2_with fail
          refine wp_region_quiet_below (by kernel_rfl) (by kernel_rfl) ?_
          repeat (quiet_step (fail))
          refine wpQuiet_nil ?_
          intro _ hw'
          obtain ⟨⟨dq, osq⟩, hw''⟩ := hw'
          subst hw''
          have hw1 : Below w.heap.size w (Sort.grow (redrawn wr dq) osq) := below_over hb (below_regrown wr dq osq)
          clear a0 b0 r0 s0 hb
          generalize Sort.grow (redrawn wr dq) osq = w1 at *
          go_wp2
          go_roundw
          case rel => exact ⟨k + 1, by omega, by go_num, HS.out, hw1⟩
          case measure => simp [intOf]; omega
        · have HS : Hid (decide (l = r) = false) := HF.out hxy
          have hxb : (x != y) = true := by simpa using hxy
          clear HT HF
          go_wp2_with fail
          refine wp_region_quiet_below (by kernel_rfl) (by kernel_rfl) ?_
          repeat (quiet_step (fail))
          refine wpQuiet_nil ?_
          intro _ hw'
          obtain ⟨⟨dq, osq⟩, hw''⟩ := hw'
          subst hw''
          have hw1 : Below w.heap.size w (Sort.grow (redrawn wr dq) osq) := below_over hb (below_regrown wr dq osq)
          clear a0 b0 r0 s0 hb
          generalize Sort.grow (redrawn wr dq) osq = w1 at *
          go_wp2
          go_ret
          exact ⟨retB HS.out.symm, hw1⟩
      · have HN : Hid (decide (l = r) = true) := by
          show _ = _
          have h := hsame.out
          rw [List.take_of_length_le (by omega), List.take_of_length_le (by have := HLEN.out; omega)] at h
          simpa using h
        go_wp2
        go_ret
        exact ⟨retB HN.out.symm, hb⟩
  · have HN : Hid (decide (l = r) = false) := by
      show _ = _
      simp only [decide_eq_false_iff_not]
      intro e; exact hlen (by rw [e])
    have hnb : ((l.length : Int) != (r.length : Int)) = true := by
      have : ¬ (l.length : Int) = (r.length : Int) := by omega
      simpa using this
    go_enter Tryz.func89, Tryz.ntmps89
    go_wp2
    go_ret
    exact ⟨retB HN.out.symm, Below.refl _ _⟩

/-- What looking for a class's own method answers. -/
def OwnPost (B : Nat) (c : Cls) (name : Int) (w0 w : World) (e : Ending) (w' : World) : Prop :=
  ((∃ m va vc, ownF c name = some m ∧ m ∈ c.meths ∧ e = .returned (.tuple #[.agg #[.int .i64 m.name, va, .int .i64 m.gives, vc], .bool true]) ∧ MV front B w0 va vc m) ∨
   (ownF c name = none ∧ e = .returned (.tuple #[.agg #[.int .i64 0, .slice none 0 0, .int .i64 0, .slice none 0 0], .bool false]))) ∧ Below w.heap.size w w'

set_option maxRecDepth 100000 in
set_option maxHeartbeats 1000000 in
theorem ownMethod (B : Nat) (c : Cls) (q a : Option Addr) (cap af cf : Nat) (name : Int) (hn : c.meths.length ≤ 1048576) (w0 w : World) (hb0 : Below w0.heap.size w0 w) (hm : SM front B w0 (.slice a c.meths.length cap) c.meths) :
    Calls Tryz.prog 52 #[.agg #[.int .i64 c.super, .slice q af cf, .slice a c.meths.length cap], .int .i64 name] w fun e w' => OwnPost B c name w0 w e w' := by
  obtain ⟨W, hW⟩ : ∃ W, W = (w.alloc (.cells #[.int .i64 c.super, .slice q af cf, .slice a c.meths.length cap] 52)).alloc (.cells #[.int .i64 0, .slice none 0 0, .int .i64 0, .slice none 0 0] 55) := ⟨_, rfl⟩
  have hwW : Below w.heap.size w W := by rw [hW]; exact ((Below.refl _ _).alloc (Nat.le_refl _) _).alloc (by simp) _
  have HM : Hid (SM front B w0 (.slice a c.meths.length cap) c.meths) := hm
  have R0 : Hid (Cells W (w.heap.size + 1) [.int .i64 0, .slice none 0 0, .int .i64 0, .slice none 0 0]) := by rw [hW]; exact Cells.new (w.alloc _) _ (by simp) _ _
  clear hm
  go_enter Tryz.func52, Tryz.ntmps52
  go_wp2
  rw [← hW]
  clear hW
  go_loopw [11] (fun i wr => ∃ k : Nat, k ≤ c.meths.length ∧ i = .int .i64 k ∧ Hid (∀ j, j < k → ∀ m, c.meths[j]? = some m → m.name ≠ name) ∧ Below W.heap.size W wr) (fun i _ => c.meths.length - (intOf i).toNat)
  case atStart => exact ⟨0, Nat.zero_le _, rfl, fun j h => absurd h (Nat.not_lt_zero _), Below.refl _ _⟩
  case round =>
    obtain ⟨k, hk, rfl, hno, hb⟩ := hrel
    have hwr : Below w.heap.size w wr := below_over hwW hb
    by_cases hlt : k < c.meths.length
    · obtain ⟨b, o, rfl, _, va, vc, d0, d1, d2, d3, hmv⟩ := HM.out.get hlt
      obtain ⟨x1, y1, rfl⟩ := hmv.1.form
      obtain ⟨x2, y2, rfl⟩ := front.form hmv.2
      have l0 : b < w0.heap.size := cell_lt d0
      have hw0 : Below w0.heap.size w0 wr := below_over hb0 hwr
      have c0 := (hw0.cell l0).trans d0
      have c1 := (hw0.cell l0).trans d1
      have c2 := (hw0.cell l0).trans d2
      have c3 := (hw0.cell l0).trans d3
      clear hw0
      have HK : Hid (c.meths[k].name = name → ownF c name = some c.meths[k]) := fun h => find_at hno.out (List.getElem?_eq_getElem hlt) h
      have HKN : Hid (c.meths[k].name ≠ name → ∀ j, j < k + 1 → ∀ m, c.meths[j]? = some m → m.name ≠ name) := fun h j hj m hm => by
        by_cases e : j = k
        · subst e
          rw [List.getElem?_eq_getElem hlt] at hm
          simp at hm
          subst hm
          exact h
        · exact hno.out j (by omega) m hm
      have HMEM : Hid (c.meths[k] ∈ c.meths) := List.getElem_mem hlt
      have HMV : Hid (MV front B w0 (.slice x1 c.meths[k].args.length y1) (.slice x2 c.meths[k].code.length y2) c.meths[k]) := hmv
      clear hmv hno d0 d1 d2 d3
      generalize c.meths[k] = m at *
      have hki : (k : Int) < (c.meths.length : Int) := by omega
      by_cases hnm : m.name = name
      · have HO : Hid (ownF c name = some m) := HK.out hnm
        have RA := (R0.out.on hb).alloc (.cells #[.int .i64 m.name, .slice x1 m.args.length y1, .int .i64 m.gives, .slice x2 m.code.length y2] 55)
        obtain ⟨r0, q0⟩ := RA.g0
        obtain ⟨r1, q1⟩ := RA.g1
        obtain ⟨r2, q2⟩ := RA.g2
        obtain ⟨r3, q3⟩ := RA.g3
        have R5 := (((RA.s0 (.int .i64 m.name)).s1 (.slice x1 m.args.length y1)).s2 (.int .i64 m.gives)).s3 (.slice x2 m.code.length y2)
        obtain ⟨e0, _⟩ := R5.g0
        obtain ⟨e1, _⟩ := R5.g1
        obtain ⟨e2, _⟩ := R5.g2
        obtain ⟨e3, _⟩ := R5.g3
        have HWR : Hid (Below w.heap.size w ((((((wr.alloc (.cells #[.int .i64 m.name, .slice x1 m.args.length y1, .int .i64 m.gives, .slice x2 m.code.length y2] 55)).setCell ⟨w.heap.size + 1, 0, none⟩ (.int .i64 m.name)).setCell ⟨w.heap.size + 1, 1, none⟩ (.slice x1 m.args.length y1)).setCell ⟨w.heap.size + 1, 2, none⟩ (.int .i64 m.gives)).setCell ⟨w.heap.size + 1, 3, none⟩ (.slice x2 m.code.length y2)))) := ((((hwr.alloc hwr.size _).setCell (p := ⟨w.heap.size + 1, 0, none⟩) (by simp) _).setCell (p := ⟨w.heap.size + 1, 1, none⟩) (by simp) _).setCell (p := ⟨w.heap.size + 1, 2, none⟩) (by simp) _).setCell (p := ⟨w.heap.size + 1, 3, none⟩) (by simp) _
        have hnb : (m.name == name) = true := by simpa using hnm
        clear R5 RA HK HKN hb hwr hnm
        go_wp2
        refine bodyPost_ret (v := .tuple #[.agg #[.int .i64 m.name, .slice x1 m.args.length y1, .int .i64 m.gives, .slice x2 m.code.length y2], .bool true]) (by simp [results, Tryz.results52, go_sem, e0, e1, e2, e3]) rfl ?_
        exact ⟨.inl ⟨m, _, _, HO.out, HMEM.out, rfl, HMV.out⟩, HWR.out⟩
      · have HN : Hid (∀ j, j < k + 1 → ∀ m, c.meths[j]? = some m → m.name ≠ name) := HKN.out hnm
        have hnb : (m.name == name) = false := by simpa using hnm
        have HBB : Hid (Below W.heap.size W (wr.alloc (.cells #[.int .i64 m.name, .slice x1 m.args.length y1, .int .i64 m.gives, .slice x2 m.code.length y2] 55))) := hb.alloc hb.size _
        clear HK HKN hb hwr hnm
        go_wp2
        go_roundw
        case rel => exact ⟨k + 1, by omega, by go_num, HN.out, HBB.out⟩
        case measure => simp [intOf]; omega
    · have HN : Hid (ownF c name = none) := find_none (fun j hj m hm => hno.out j (by omega) m hm)
      have RA := R0.out.on hb
      obtain ⟨r0, q0⟩ := RA.g0
      obtain ⟨r1, q1⟩ := RA.g1
      obtain ⟨r2, q2⟩ := RA.g2
      obtain ⟨r3, q3⟩ := RA.g3
      have R5 := (((RA.s0 (.int .i64 0)).s1 (.slice none 0 0)).s2 (.int .i64 0)).s3 (.slice none 0 0)
      obtain ⟨e0, _⟩ := R5.g0
      obtain ⟨e1, _⟩ := R5.g1
      obtain ⟨e2, _⟩ := R5.g2
      obtain ⟨e3, _⟩ := R5.g3
      have HWR : Hid (Below w.heap.size w ((((wr.setCell ⟨w.heap.size + 1, 0, none⟩ (.int .i64 0)).setCell ⟨w.heap.size + 1, 1, none⟩ (.slice none 0 0)).setCell ⟨w.heap.size + 1, 2, none⟩ (.int .i64 0)).setCell ⟨w.heap.size + 1, 3, none⟩ (.slice none 0 0))) := (((hwr.setCell (p := ⟨w.heap.size + 1, 0, none⟩) (by simp) _).setCell (p := ⟨w.heap.size + 1, 1, none⟩) (by simp) _).setCell (p := ⟨w.heap.size + 1, 2, none⟩) (by simp) _).setCell (p := ⟨w.heap.size + 1, 3, none⟩) (by simp) _
      clear R5 RA hb hwr hno
      go_wp2
      refine bodyPost_ret (v := .tuple #[.agg #[.int .i64 0, .slice none 0 0, .int .i64 0, .slice none 0 0], .bool false]) (by simp [results, Tryz.results52, go_sem, e0, e1, e2, e3]) rfl ?_
      exact ⟨.inr ⟨HN.out, rfl⟩, HWR.out⟩

set_option maxHeartbeats 1000000 in
theorem isMethodOf (B : Nat) (m : Meth) (a : Option Addr) (n cap : Nat) (va vc : Value) (hs : SmallM m) (w : World) (hv : MV front B w va vc m) :
    Calls Tryz.prog 74 #[.agg #[.slice a n cap], .agg #[.int .i64 m.name, va, .int .i64 m.gives, vc]] w fun e w' => e = .returned (.bool (okMB n m)) ∧ Below w.heap.size w w' := by
  obtain ⟨x1, y1, rfl⟩ := hv.1.form
  obtain ⟨gc, y2, rfl, _, _, hrow, _⟩ := hv.2
  have HI : Hid (SI true B w (.slice x1 m.args.length y1) m.args) := hv.1
  have HR : Hid (Row w gc 0 m.code) := hrow
  have hs1 := hs.1
  have hs2 := hs.2
  clear hv hrow hs
  obtain ⟨W, hW⟩ : ∃ W, W = (w.alloc (.cells #[.slice a n cap] 30)).alloc (.cells #[.int .i64 m.name, .slice x1 m.args.length y1, .int .i64 m.gives, .slice (some ⟨gc, 0, none⟩) m.code.length y2] 55) := ⟨_, rfl⟩
  have hwW : Below w.heap.size w W := by rw [hW]; exact ((Below.refl _ _).alloc (Nat.le_refl _) _).alloc (by simp) _
  have P0 : Hid (Cells W w.heap.size [.slice a n cap]) := by rw [hW]; exact (Cells.new w _ rfl _ _).alloc _
  have M0 : Hid (Cells W (w.heap.size + 1) [.int .i64 m.name, .slice x1 m.args.length y1, .int .i64 m.gives, .slice (some ⟨gc, 0, none⟩) m.code.length y2]) := by rw [hW]; exact Cells.new (w.alloc _) _ (by simp) _ _
  obtain ⟨nm, hnm⟩ : ∃ nm, nm = (decide (0 ≤ m.name) && decide (m.name < 20)) := ⟨_, rfl⟩
  obtain ⟨p0, _⟩ := P0.out.g0
  obtain ⟨m0, _⟩ := M0.out.g0
  obtain ⟨m1, _⟩ := M0.out.g1
  have HOK : Hid (okMB n m = (nm && decide (m.args.length ≤ 3) && m.args.all (tyB n) && tyB n m.gives && Lay.codeOk m.code)) := by
    show _ = _
    unfold okMB
    rw [hnm]
    have e : decide (m.name < 20) = decide (m.name ≤ 19) := by rw [Bool.eq_iff_iff]; simp; omega
    rw [e]
  go_enter Tryz.func74, Tryz.ntmps74
  go_wp2_with fail
  rw [← hW]
  clear hW
  refine (isBelow m.name 20 _).mono ?_
  rw [← hnm]
  rintro e w1 ⟨rfl, rfl⟩
  clear hnm
  cases nm
  · have HF : Hid (okMB n m = false) := by show _ = _; rw [HOK.out]; simp
    go_wp2
    go_ret
    exact ⟨retB HF.out.symm, hwW⟩
  · by_cases h3 : m.args.length ≤ 3
    · have h3i : ¬ (3 : Int) < (m.args.length : Int) := by omega
      go_wp2_with fail
      refine (areTypesOf B a x1 n cap y1 m.args hs1 _ (SI.on HI.out (Keep.of hwW))).mono ?_
      rintro e w2 ⟨rfl, hb2⟩
      have hw2 : Below w.heap.size w w2 := below_over hwW hb2
      obtain ⟨p2, _⟩ := (P0.out.on hb2).g0
      obtain ⟨n2, _⟩ := (M0.out.on hb2).g2
      cases ht : m.args.all (tyB n)
      · have HF : Hid (okMB n m = false) := by show _ = _; rw [HOK.out, ht]; simp
        go_wp2
        go_ret
        exact ⟨retB HF.out.symm, hw2⟩
      · have M2 : Hid (Cells w2 (w.heap.size + 1) [.int .i64 m.name, .slice x1 m.args.length y1, .int .i64 m.gives, .slice (some ⟨gc, 0, none⟩) m.code.length y2]) := M0.out.on hb2
        clear hb2
        go_wp2_with fail
        have hsi : SI false w2.heap.size (w2.alloc (.cells #[.int .i64 m.gives] 2)) (.slice (some ⟨w2.heap.size, 0, none⟩) [m.gives].length 1) [m.gives] :=
          SI.row (Nat.le_refl _) (by simp) (fun j x hj => by
            match j, hj with
            | 0, hj => simp at hj; subst hj; simp) (fun j hj => by
            match j, hj with
            | 0, _ => exact ⟨⟨.int .i64 m.gives, by simp⟩, by simp⟩)
        refine (areTypesOf w2.heap.size a (some ⟨w2.heap.size, 0, none⟩) n cap 1 [m.gives] (by simp) _ hsi).mono ?_
        rintro e w3 ⟨rfl, hb3⟩
        have hw3 : Below w.heap.size w w3 := below_over (hw2.alloc hw2.size _) hb3
        have eg : [m.gives].all (tyB n) = tyB n m.gives := by simp
        rw [eg]
        clear hsi eg
        obtain ⟨n3, _⟩ := ((M2.out.alloc (.cells #[.int .i64 m.gives] 2)).on hb3).g3
        clear hb3
        cases hg : tyB n m.gives
        · have HF : Hid (okMB n m = false) := by show _ = _; rw [HOK.out, hg]; simp
          go_wp2
          go_ret
          exact ⟨retB HF.out.symm, hw3⟩
        · go_wp2_with fail
          refine (implCodeOk gc y2 m.code hs2 _ (HR.out.on hw3)).mono ?_
          rintro e w4 ⟨rfl, hb4⟩
          have hw4 : Below w.heap.size w w4 := below_over hw3 hb4
          have HF : Hid (okMB n m = Lay.codeOk m.code) := by show _ = _; rw [HOK.out, ht, hg]; simp [h3]
          clear hb4
          go_wp2
          go_ret
          exact ⟨retB HF.out.symm, hw4⟩
    · have HF : Hid (okMB n m = false) := by show _ = _; rw [HOK.out]; simp [h3]
      have h3i : (3 : Int) < (m.args.length : Int) := by omega
      go_wp2
      go_ret
      exact ⟨retB HF.out.symm, hwW⟩
end Pg
end Go.Proofs.YtinanjjhkddikaaGreat

/- The search asks its set of finds. -/
namespace Go.Proofs.YtinanjjhkddikaaGreat
namespace Pg
open Go.ChangeShapes Go.WideShapes Go.ChangeAt Go.RowKit St Wd
theorem zeroU (w : World) : (zeroValue 92).run Tryz.prog w = .ok (.agg #[]) w := by kernel_rfl
theorem FM.look {w : World} {b : Nat} {l : List Fd} (h : FM w b l) {f : Fd} (hf : WfF f) : (Instr.lookup 83 (.map (some b)) (fdV f) true).run Tryz.prog w = .ok (.tuple #[.agg #[], .bool (decide (f ∈ l))]) w := by
  obtain ⟨D, h1, h2⟩ := h
  obtain ⟨v, ps, hr, hv⟩ := h1.look_ok keyedF mapTF (zeroU w) unitElem_mk (keyOf_fd hf)
  obtain ⟨rfl, _⟩ := unitElem_inv hv
  rw [hr, h2.has f hf]
theorem FM.store {w : World} {b : Nat} {l : List Fd} (h : FM w b l) {f : Fd} (hf : WfF f) (hn : f ∉ l) (hl : l.length ≤ 500) : ∃ w', (Instr.mapUpdate 83 (.map (some b)) (fdV f) (.agg #[])).run Tryz.prog w = .ok () w' ∧ FM w' b (f :: l) ∧ w.mapTurned w' b := by
  obtain ⟨D, h1, h2⟩ := h
  obtain ⟨w', hr, h3, h4⟩ := h1.store keyedF mapTF (by unfold maxLen; omega) (keyOf_fd hf) unitElem_mk
  have h5 := h2.put (h1.tidy keyedF) hf hn
  exact ⟨w', hr, ⟨_, own600 h3 (by rw [h5.size]; simp; omega), h5⟩, h4⟩
set_option maxRecDepth 100000 in
set_option maxHeartbeats 4000000 in
theorem has_at (B0 sb mb : Nat) (pv v : Value) (F T : List Fd) (f : Fd) (hf : WfF f) (w : World) (hS : Srch B0 sb mb pv w v F T) :
    Calls Tryz.prog 32 #[.pointer (some ⟨sb, 0, none⟩), fdV f] w fun e w' => e = .returned (.bool (decide (f ∈ F))) ∧ Below w.heap.size w w' := by
  obtain ⟨V, hV⟩ : ∃ V, V = w.alloc (.cells #[.int .i64 f.1, .int .i64 f.2.1, .int .i64 f.2.2] 58) := ⟨_, rfl⟩
  have hwV : Below w.heap.size w V := by rw [hV]; exact (Below.refl _ _).alloc (Nat.le_refl _) _
  have FC : Hid (Cells V w.heap.size [.int .i64 f.1, .int .i64 f.2.1, .int .i64 f.2.2]) := by rw [hV]; exact Cells.new w _ rfl _ _
  have HK : Hid (∀ X, Below V.heap.size V X → Below V.heap.size V X ∧ X.cell? ⟨sb, 1, none⟩ = some (.map (some mb)) ∧ X.cell? ⟨w.heap.size, 0, none⟩ = some (.int .i64 f.1) ∧ X.cell? ⟨w.heap.size, 1, none⟩ = some (.int .i64 f.2.1) ∧ X.cell? ⟨w.heap.size, 2, none⟩ = some (.int .i64 f.2.2) ∧ (Instr.lookup 83 (.map (some mb)) (fdV f) true).run Tryz.prog X = .ok (.tuple #[.agg #[], .bool (decide (f ∈ F))]) X) := fun X hX => by
    have hwX := below_over hwV hX
    exact ⟨hX, (hS.on hwX).cells.g1.1, (FC.out.on hX).g0.1, (FC.out.on hX).g1.1, (FC.out.on hX).g2.1, (hS.on hwX).map.look hf⟩
  have KD := HK.out _ (Below.refl V.heap.size V).drew
  have KA := fun (l : Array Value) (t : TypeId) => HK.out (V.alloc (.cells l t)).drew ((Below.refl V.heap.size V).alloc (Nat.le_refl _) _).drew
  have KB := fun (l : Array Value) (t : TypeId) => HK.out (V.drew.alloc (.cells l t)) ((Below.refl V.heap.size V).drew.alloc (Nat.le_refl _) _)
  obtain ⟨f0, f1, f2⟩ := f
  dsimp only at *
  go_enter Tryz.func32, Tryz.ntmps32
  go_upto_region 1 with fail
  rw [← hV]
  clear hV
  go_region_held3 (fun X => Below V.heap.size V X ∧ X.cell? ⟨sb, 1, none⟩ = some (.map (some mb)) ∧ X.cell? ⟨w.heap.size, 0, none⟩ = some (.int .i64 f0) ∧ X.cell? ⟨w.heap.size, 1, none⟩ = some (.int .i64 f1) ∧ X.cell? ⟨w.heap.size, 2, none⟩ = some (.int .i64 f2) ∧ (Instr.lookup 83 (.map (some mb)) (fdV (f0, f1, f2)) true).run Tryz.prog X = .ok (.tuple #[.agg #[], .bool (decide ((f0, f1, f2) ∈ F))]) X)
    (first | exact KD | exact KA _ _ | exact KB _ _ | assumption)
    (fail)
  all_goals
    have hb := below_over hwV (KA #[] 92).1
    clear KD KA KB HK FC hS
    go_wp2
    go_ret
    exact ⟨rfl, hb⟩
end Pg
end Go.Proofs.YtinanjjhkddikaaGreat

/- A find is added to the search. -/
namespace Go.Proofs.YtinanjjhkddikaaGreat
namespace Pg
open Go.ChangeShapes Go.WideShapes Go.ChangeAt Go.RowKit St Wd
theorem meetS {P G : Prop} (h : P → G) (p : P) : G := h p
theorem FM.block {w w' : World} {b : Nat} {l : List Fd} (h : FM w b l) (e : w'.heap[b]? = w.heap[b]?) : FM w' b l := by
  obtain ⟨D, ⟨es, clock, h1, h2, h3, rfl⟩, hr⟩ := h
  exact ⟨_, ⟨es, clock, e.trans h1, h2, h3, rfl⟩, hr⟩
/-- What a call that adds leaves. -/
structure Adds (B0 sb mb : Nat) (pv : Value) (w : World) (v : Value) (F T : List Fd) (P : Fd → Prop) (w' : World) (v' : Value) (F' T' : List Fd) : Prop where
  st : Srch B0 sb mb pv w' v' F' T'
  ext : ExtF F T F' T'
  fr : Frs sb mb w v w' v'
  new : ∀ g ∈ F', g ∈ F ∨ P g
set_option maxRecDepth 100000 in
set_option maxHeartbeats 1000000 in
theorem add_no (B0 sb mb n cap : Nat) (a : Option Addr) (v : Value) (F T : List Fd) (f : Fd) (hin : ¬ (0 ≤ f.2.1 ∧ f.2.1 < (n : Int))) (w : World) (hS : Srch B0 sb mb (.slice a n cap) w v F T) :
    Calls Tryz.prog 53 #[.pointer (some ⟨sb, 0, none⟩), fdV f] w fun e w' => e = .returned (.tuple #[]) ∧ ∃ v' F' T', Adds B0 sb mb (.slice a n cap) w v F T (fun g => g = f ∧ 0 ≤ f.2.1 ∧ f.2.1 < (n : Int)) w' v' F' T' ∧ (0 ≤ f.2.1 → f.2.1 < (n : Int) → f ∈ F') := by
  obtain ⟨V, hV⟩ : ∃ V, V = w.alloc (.cells #[.int .i64 f.1, .int .i64 f.2.1, .int .i64 f.2.2] 58) := ⟨_, rfl⟩
  have hwV : Below w.heap.size w V := by rw [hV]; exact (Below.refl _ _).alloc (Nat.le_refl _) _
  have FC : Hid (Cells V w.heap.size [.int .i64 f.1, .int .i64 f.2.1, .int .i64 f.2.2]) := by rw [hV]; exact Cells.new w _ rfl _ _
  have HSV : Hid (Srch B0 sb mb (.slice a n cap) V v F T) := hS.on hwV
  have HK : Hid (∀ X, Below V.heap.size V X → Below V.heap.size V X ∧ X.cell? ⟨sb, 0, none⟩ = some (.slice a n cap) ∧ X.cell? ⟨w.heap.size, 0, none⟩ = some (.int .i64 f.1) ∧ X.cell? ⟨w.heap.size, 1, none⟩ = some (.int .i64 f.2.1) ∧ X.cell? ⟨w.heap.size, 2, none⟩ = some (.int .i64 f.2.2)) := fun X hX =>
    ⟨hX, (HSV.out.on hX).cells.g0.1, (FC.out.on hX).g0.1, (FC.out.on hX).g1.1, (FC.out.on hX).g2.1⟩
  have KD := HK.out _ (Below.refl V.heap.size V).drew
  obtain ⟨f0, f1, f2⟩ := f
  dsimp only at *
  go_enter Tryz.func53, Tryz.ntmps53
  go_upto_region 1 with fail
  rw [← hV]
  clear hV
  have hbool : (decide (0 ≤ f1) && decide (f1 < (n : Int))) = false := by
    cases h : (decide (0 ≤ f1) && decide (f1 < (n : Int)))
    · rfl
    · simp at h; exact absurd h hin
  obtain ⟨_, s0, s1, s2, s3⟩ := HK.out V (Below.refl _ _)
  have q0 := cell_regrown s0
  have q1 := cell_regrown s1
  have q2 := cell_regrown s2
  have q3 := cell_regrown s3
  have hcall := fun u (hu : Below V.heap.size V u) => hasClass a n cap f1 u
  rw [hbool] at hcall
  have cQ : ∀ d os, Calls Tryz.prog 76 #[.agg #[.slice a n cap], .int .i64 f1] (Sort.grow (redrawn V d) os) fun e w'' => e = .returned (.bool false) ∧ ∃ p : Regrown, w'' = Sort.grow (redrawn V p.d) p.os := fun d os => (hcall _ (below_regrown V d os)).regrown_of
  have HFIN : Hid (∀ X, Below V.heap.size V X → Adds B0 sb mb (.slice a n cap) w v F T (fun g => g = (f0, f1, f2) ∧ 0 ≤ f1 ∧ f1 < (n : Int)) X v F T) := fun X hX => ⟨hS.on (below_over hwV hX), ExtF.refl _ _, Frs.of v (below_over hwV hX), fun g hg => .inl hg⟩
  clear KD hcall s0 s1 s2 s3 HK FC HSV hS hwV
  refine wp_region_quiet_below (by kernel_rfl) (by kernel_rfl) ?_
  repeat (go_big_quiet_step ((go_at_call 76; exact cQ _ _)))
  refine wpQuiet_nil ?_
  intro _ hw'
  obtain ⟨⟨dq, osq⟩, hw''⟩ := hw'
  subst hw''
  have hfin := HFIN.out _ (below_regrown V dq osq)
  clear cQ q0 q1 q2 q3 HFIN
  generalize Sort.grow (redrawn V dq) osq = wA at *
  go_wp2
  refine bodyPost_ret (results_none rfl _ _ _) rfl ?_
  exact ⟨rfl, _, _, _, hfin, fun h1 h2 => absurd ⟨h1, h2⟩ hin⟩
set_option maxRecDepth 100000 in
set_option maxHeartbeats 8000000 in
theorem add_at (B0 sb mb n cap : Nat) (a : Option Addr) (v : Value) (F T : List Fd) (f : Fd) (hf : 0 ≤ f.2.1 → f.2.1 < (n : Int) → FewF f) (w : World) (hB0 : B0 ≤ w.heap.size) (hS : Srch B0 sb mb (.slice a n cap) w v F T) :
    Calls Tryz.prog 53 #[.pointer (some ⟨sb, 0, none⟩), fdV f] w fun e w' => e = .returned (.tuple #[]) ∧ ∃ v' F' T', Adds B0 sb mb (.slice a n cap) w v F T (fun g => g = f ∧ 0 ≤ f.2.1 ∧ f.2.1 < (n : Int)) w' v' F' T' ∧ (0 ≤ f.2.1 → f.2.1 < (n : Int) → f ∈ F') := by
  by_cases hin : 0 ≤ f.2.1 ∧ f.2.1 < (n : Int)
  case neg => exact add_no B0 sb mb n cap a v F T f hin w hS
  obtain ⟨V, hV⟩ : ∃ V, V = w.alloc (.cells #[.int .i64 f.1, .int .i64 f.2.1, .int .i64 f.2.2] 58) := ⟨_, rfl⟩
  have hwV : Below w.heap.size w V := by rw [hV]; exact (Below.refl _ _).alloc (Nat.le_refl _) _
  have FC : Hid (Cells V w.heap.size [.int .i64 f.1, .int .i64 f.2.1, .int .i64 f.2.2]) := by rw [hV]; exact Cells.new w _ rfl _ _
  have HSV : Hid (Srch B0 sb mb (.slice a n cap) V v F T) := hS.on hwV
  have HK : Hid (∀ X, Below V.heap.size V X → Below V.heap.size V X ∧ X.cell? ⟨sb, 0, none⟩ = some (.slice a n cap) ∧ X.cell? ⟨w.heap.size, 0, none⟩ = some (.int .i64 f.1) ∧ X.cell? ⟨w.heap.size, 1, none⟩ = some (.int .i64 f.2.1) ∧ X.cell? ⟨w.heap.size, 2, none⟩ = some (.int .i64 f.2.2)) := fun X hX =>
    ⟨hX, (HSV.out.on hX).cells.g0.1, (FC.out.on hX).g0.1, (FC.out.on hX).g1.1, (FC.out.on hX).g2.1⟩
  have KD := HK.out _ (Below.refl V.heap.size V).drew
  obtain ⟨f0, f1, f2⟩ := f
  dsimp only at *
  go_enter Tryz.func53, Tryz.ntmps53
  go_upto_region 1 with fail
  rw [← hV]
  clear hV
  have hin : 0 ≤ f1 ∧ f1 < (n : Int) := hin
  have hbool : (decide (0 ≤ f1) && decide (f1 < (n : Int))) = true := by simp [hin.1, hin.2]
  have hfew := hf hin.1 hin.2
  go_region_held3 (fun X => Below V.heap.size V X ∧ X.cell? ⟨sb, 0, none⟩ = some (.slice a n cap) ∧ X.cell? ⟨w.heap.size, 0, none⟩ = some (.int .i64 f0) ∧ X.cell? ⟨w.heap.size, 1, none⟩ = some (.int .i64 f1) ∧ X.cell? ⟨w.heap.size, 2, none⟩ = some (.int .i64 f2))
    (first | exact KD | assumption)
    (first
      | (go_at_call 76; refine (hasClass a n cap f1 _).mono ?_; rw [hbool]; rintro e wA ⟨rfl, hbA⟩; have KC := HK.out _ (below_over KD.1 hbA))
      | (go_at_call 32; refine (has_at B0 sb mb (.slice a n cap) v F T (f0, f1, f2) hfew.wf _ (HSV.out.on KC.1)).mono ?_; rintro e wB ⟨rfl, hbB⟩; have KE := HK.out _ (below_over KC.1 hbB)))
  have hbV : Below V.heap.size V wB := KE.1
  have hbw : Below w.heap.size w wB := below_over hwV hbV
  have HSB : Hid (Srch B0 sb mb (.slice a n cap) wB v F T) := HSV.out.on hbV
  have FB : Hid (Cells wB w.heap.size [.int .i64 f0, .int .i64 f1, .int .i64 f2]) := FC.out.on hbV
  clear KD KC KE HK hbA hbB hbV
  by_cases hmem : (f0, f1, f2) ∈ F
  · rw [decide_eq_true hmem]
    have hfin : Adds B0 sb mb (.slice a n cap) w v F T (fun g => g = (f0, f1, f2) ∧ 0 ≤ f1 ∧ f1 < (n : Int)) wB v F T := ⟨HSB.out, ExtF.refl _ _, Frs.of v hbw, fun g hg => .inl hg⟩
    clear HSV HSB FB FC hS
    go_wp2
    refine bodyPost_ret (results_none rfl _ _ _) rfl ?_
    exact ⟨rfl, _, _, _, hfin, fun _ _ => hmem⟩
  · rw [decide_eq_false hmem]
    obtain ⟨wM, hrun, hFM, hturn⟩ := (HSB.out.on (Below.refl wB.heap.size wB).drew).map.store hfew.wf hmem (by have := HSB.out.lenF; omega)
    have hgm := hturn.grown
    have hzz : wB.heap.size ≤ wM.heap.size := hgm.size
    have hm1 := HSB.out.cells.g1.1
    obtain ⟨b0, _⟩ := FB.out.g0
    obtain ⟨b1, _⟩ := FB.out.g1
    obtain ⟨b2, _⟩ := FB.out.g2
    have HSM : Hid (Cells wM sb [.slice a n cap, .map (some mb), v]) := ((HSB.out.on (Below.refl wB.heap.size wB).drew).cells).grownF hgm (fun e => HSB.out.ne (by simpa using e.symm))
    have hmbl : mb < wB.heap.size := HSB.out.map.lt
    have FM1 : Hid (Cells wM w.heap.size [.int .i64 f0, .int .i64 f1, .int .i64 f2]) := (FB.out.on (Below.refl wB.heap.size wB).drew).grownF hgm (fun e => by have := hS.map.lt; simp at e; omega)
    have HRM : Hid (RF B0 wM v T) := (HSB.out.on (Below.refl wB.heap.size wB).drew).row.kept hgm (.inr HSB.out.o2)
    have HFM : Hid (FM wM mb ((f0, f1, f2) :: F)) := hFM
    have HTM : Hid (Tcs (fun k => k = sb ∨ k = mb ∨ v.ownBlock = some k) w wM) := (Tcs.of hbw).trans (Tcs.grownF (Below.refl wB.heap.size wB).drew hgm (fun k e => .inr (.inl (by simpa using e.symm))))
    clear hturn hgm hFM HSV
    go_upto_region 2 with fail
    apply meetS
    case h =>
      intro hp
      go_region_law (fail)
      all_goals exact hp
    clear hrun hm1 b0 b1 b2
    obtain ⟨b0, _⟩ := FM1.out.g0
    obtain ⟨b1, _⟩ := FM1.out.g1
    obtain ⟨b2, _⟩ := FM1.out.g2
    have hs0 := HSM.out.g0.1
    have KM : Below wM.heap.size wM wM.drew ∧ wM.drew.cell? ⟨w.heap.size, 0, none⟩ = some (.int .i64 f0) ∧ wM.drew.cell? ⟨w.heap.size, 1, none⟩ = some (.int .i64 f1) ∧ wM.drew.cell? ⟨w.heap.size, 2, none⟩ = some (.int .i64 f2) := ⟨(Below.refl _ _).drew, b0, b1, b2⟩
    have hB0M : B0 ≤ wM.drew.heap.size := by show B0 ≤ wM.heap.size; have := hbw.size; omega
    have hlen : T.length ≤ 900 := by have := HSB.out.tl; have := HSB.out.lenF; omega
    have HPU : Hid (∀ X, X = wM.drew → Calls Tryz.prog 77 #[.iface 91 (.pointer (some ⟨sb, 2, none⟩)), .iface 58 (fdV (f0, f1, f2))] X fun e w' => e = .returned (.tuple #[]) ∧ ∃ v' T', Cells w' sb [.slice a n cap, .map (some mb), v'] ∧ RF B0 w' v' T' ∧ T'.Perm ((f0, f1, f2) :: T) ∧ (v'.ownBlock = v.ownBlock ∨ ∀ g, v'.ownBlock = some g → wM.heap.size ≤ g) ∧ Tcs (fun k => k = sb ∨ v.ownBlock = some k) wM w') := fun X hX => by
      subst hX
      refine (heapPush B0 sb (.slice a n cap) (.map (some mb)) v T (f0, f1, f2) hlen wM.drew (HSM.out.on (Below.refl _ _).drew) (HRM.out.on (Below.refl _ _).drew) hB0M HSB.out.o1).mono ?_
      rintro e w' ⟨rfl, v', T', h1, h2, h3, h4, h5⟩
      exact ⟨rfl, v', T', h1, h2, h3, h4, h5.os, h5.tape, h5.output, h5.size, h5.far⟩
    have hSne := HSB.out.ne
    have HFR : Hid (∀ X, Tcs (fun k => k = sb ∨ v.ownBlock = some k) wM X → X.cell? ⟨w.heap.size, 0, none⟩ = some (.int .i64 f0) ∧ X.cell? ⟨w.heap.size, 1, none⟩ = some (.int .i64 f1) ∧ X.cell? ⟨w.heap.size, 2, none⟩ = some (.int .i64 f2)) := fun X hX => by
      have h := FM1.out.tcs hX (fun e => by
        rcases e with e | e
        · have := cell_lt hS.cells.g0.1; dsimp only at this; omega
        · have := (hS.row.lt _ e).2; omega)
      exact ⟨h.g0.1, h.g1.1, h.g2.1⟩
    have KM' := KM.2
    clear KM
    go_upto_region 3 with fail
    go_region_held3 (fun X => X.cell? ⟨w.heap.size, 0, none⟩ = some (.int .i64 f0) ∧ X.cell? ⟨w.heap.size, 1, none⟩ = some (.int .i64 f1) ∧ X.cell? ⟨w.heap.size, 2, none⟩ = some (.int .i64 f2))
      (first | exact KM' | assumption)
      (first
        | (go_at_call 77; refine (HPU.out _ rfl).mono ?_; rintro e wP ⟨rfl, vP, TP, hsP, hrP, hpP, hvP, htP⟩; have KP := HFR.out wP htP))
    have hfin : Adds B0 sb mb (.slice a n cap) w v F T (fun g => g = (f0, f1, f2) ∧ 0 ≤ f1 ∧ f1 < (n : Int)) wP vP ((f0, f1, f2) :: F) TP := by
      have htl := hpP.length_eq
      have hTS : Tcs (fun k => k = sb ∨ k = mb ∨ v.ownBlock = some k) w wP := HTM.out.trans (htP.mono fun k h => h.elim .inl fun h => .inr (.inr h))
      have hwz := hbw.size
      refine ⟨⟨hsP, HFM.out.block (htP.far mb HFM.out.lt (fun e => ?_)), hrP, ?_, List.nodup_cons.2 ⟨hmem, HSB.out.nd⟩, ?_, HSB.out.b1, HSB.out.b2, hSne, ?_, ?_⟩, ExtF.add hmem hpP, ⟨hTS, ?_⟩, ?_⟩
      · rcases e with e | e
        · exact hSne e.symm
        · exact HSB.out.o2 e
      · intro g hg
        rcases List.mem_cons.1 hg with e | e
        · rw [e]; exact hfew
        · exact HSB.out.few g e
      · have := HSB.out.tl; simp at htl ⊢; omega
      · intro e
        rcases hvP with h | h
        · exact HSB.out.o1 (h ▸ e)
        · have := h sb e; have := cell_lt HSB.out.cells.g0.1; dsimp only at this; omega
      · intro e
        rcases hvP with h | h
        · exact HSB.out.o2 (h ▸ e)
        · have := h mb e; omega
      · rcases hvP with h | h
        · exact .inl h
        · exact .inr fun g hg => by have := h g hg; omega
      · intro g hg
        rcases List.mem_cons.1 hg with e | e
        · exact .inr ⟨e, hin.1, hin.2⟩
        · exact .inl e
    clear HPU HFR HSM HRM HFM HTM hsP hrP hpP hvP htP HSB FB FM1 hS KM' KP
    go_wp2
    go_end0
    exact ⟨rfl, _, _, _, hfin, fun _ _ => List.mem_cons_self⟩
end Pg
end Go.Proofs.YtinanjjhkddikaaGreat

/- Contracts: what may come next, as the program and as the specification list it. -/
namespace Go.Proofs.YtinanjjhkddikaaGreat
namespace Pg
open Go.ChangeShapes Go.WideShapes Go.ChangeAt Go.RowKit St

/-- Where one may come next, as numbers. -/
def waysI (i : Tx.Ins) (at' : Nat) : List Int := (waysF i at').map fun (j : Nat) => (j : Int)
set_option maxRecDepth 100000 in
set_option maxHeartbeats 1000000 in
theorem waysFrom_at (i : Tx.Ins) (k : Nat) (hk : k ≤ 1000) (h0 : i.1 = 11 ∨ i.1 = 12 → 0 ≤ i.2.1) (w : World) :
    Calls Tryz.prog 115 #[.agg #[.int .i64 i.1, .int .i64 i.2.1, .int .i64 i.2.2], .int .i64 k] w fun e w' => ∃ v, e = .returned v ∧ SI true w.heap.size w' v (waysI i k) ∧ Below w.heap.size w w' := by
  obtain ⟨op, A, b⟩ := i
  dsimp only at *
  have hbl : Below w.heap.size w (w.alloc (.cells #[.int .i64 op, .int .i64 A, .int .i64 b] 73)) := (Below.refl _ _).alloc (Nat.le_refl _) _
  by_cases h20 : op = 20
  · subst h20
    go_enter Tryz.func115, Tryz.ntmps115
    go_wp2
    go_ret
    exact ⟨_, rfl, by simpa [waysI, waysF] using SI.nil true _ _, hbl⟩
  · by_cases h11 : op = 11
    · subst h11
      have hA := h0 (.inl rfl)
      have HW : Hid (waysI (11, A, b) k = [A]) := by show _ = _; simp [waysI, waysF]; omega
      go_enter Tryz.func115, Tryz.ntmps115
      go_wp2
      go_ret
      refine ⟨_, rfl, ?_, hbl.alloc hbl.size _⟩
      rw [HW.out]
      have h := SI.weak (grow_lit1 (w.alloc (.cells #[.int .i64 11, .int .i64 A, .int .i64 b] 73)) A).gint.si hbl.size
      simpa using h
    · have hwr : wrap64 ((k : Int) + 1) = (k : Int) + 1 := by unfold wrap64; omega
      by_cases h12 : op = 12
      · subst h12
        have hA := h0 (.inr rfl)
        have HW : Hid (waysI (12, A, b) k = [A, (k : Int) + 1]) := by show _ = _; simp [waysI, waysF]; omega
        go_enter Tryz.func115, Tryz.ntmps115
        go_wp2
        go_ret
        refine ⟨_, rfl, ?_, hbl.alloc hbl.size _⟩
        rw [HW.out]
        have h := SI.weak (grow_lit2 (w.alloc (.cells #[.int .i64 12, .int .i64 A, .int .i64 b] 73)) A ((k : Int) + 1)).gint.si hbl.size
        simpa using h
      · have HW : Hid (waysI (op, A, b) k = [(k : Int) + 1]) := by show _ = _; simp [waysI, waysF, h20, h11, h12]
        have hn20 : (op == 20) = false := by simp [h20]
        have hn11 : (op == 11) = false := by simp [h11]
        have hn12 : (op == 12) = false := by simp [h12]
        go_enter Tryz.func115, Tryz.ntmps115
        go_wp2
        go_ret
        refine ⟨_, rfl, ?_, hbl.alloc hbl.size _⟩
        rw [HW.out]
        have h := SI.weak (grow_lit1 (w.alloc (.cells #[.int .i64 op, .int .i64 A, .int .i64 b] 73)) ((k : Int) + 1)).gint.si hbl.size
        simpa using h
set_option maxRecDepth 100000 in
set_option maxHeartbeats 2000000 in
theorem l9Nexts_at (g yc : Nat) (code : List Tx.Ins) (hl : code.length ≤ 1000) (k : Nat) (hk : k < code.length) (w : World) (hrow : Row w g 0 code) :
    Calls Tryz.prog 68 #[.slice (some ⟨g, 0, none⟩) code.length yc, .int .i64 k] w fun e w' => ∃ v, e = .returned v ∧ Lst w' v (nextsF code k) ∧ Below w.heap.size w w' := by
  have hx : code[k]? = some (insF code k) := by unfold insF; rw [List.getD_eq_getElem?_getD, List.getElem?_eq_getElem hk]; rfl
  obtain ⟨d0, d1, d2⟩ := hrow k _ hx
  simp only [Nat.zero_add] at d0 d1 d2
  have hki : (k : Int) < (code.length : Int) := by omega
  rw [nexts_is]
  generalize insF code k = ins at *
  obtain ⟨op, A, b⟩ := ins
  dsimp only at d0 d1 d2 ⊢
  have hw2 : Below w.heap.size w ((w.alloc (.cells #[.int .i64 op, .int .i64 A, .int .i64 b] 73)).alloc (.cells #[] 2)) := ((Below.refl _ _).alloc (Nat.le_refl _) _).alloc (by simp) _
  have CI2 : Hid (Cells ((w.alloc (.cells #[.int .i64 op, .int .i64 A, .int .i64 b] 73)).alloc (.cells #[] 2)) w.heap.size [.int .i64 op, .int .i64 A, .int .i64 b]) := (Cells.new w _ rfl _ _).alloc _
  have CI3 : Hid (Cells (((w.alloc (.cells #[.int .i64 op, .int .i64 A, .int .i64 b] 73)).alloc (.cells #[] 2)).alloc (.cells #[.int .i64 ((k : Int) + 1)] 2)) w.heap.size [.int .i64 op, .int .i64 A, .int .i64 b]) := ((Cells.new w _ rfl _ _).alloc _).alloc _
  have hge : Grow (w.heap.size + 1) ((w.alloc (.cells #[.int .i64 op, .int .i64 A, .int .i64 b] 73)).alloc (.cells #[] 2)) (.slice (some ⟨w.heap.size + 1, 0, none⟩) 0 0) [] := by
    have h := grow_empty (w.alloc (.cells #[.int .i64 op, .int .i64 A, .int .i64 b] 73)) (B := w.heap.size + 1) (by simp)
    simpa using h
  have HGL : Hid (Grow (w.heap.size + 1) (((w.alloc (.cells #[.int .i64 op, .int .i64 A, .int .i64 b] 73)).alloc (.cells #[] 2)).alloc (.cells #[.int .i64 ((k : Int) + 1)] 2)) (.slice (some ⟨w.heap.size + 1, 0, none⟩) 0 0) []) := growOn hge (allocBelow _ _)
  have HL0 : Hid (Lst ((w.alloc (.cells #[.int .i64 op, .int .i64 A, .int .i64 b] 73)).alloc (.cells #[] 2)) (.slice (some ⟨w.heap.size + 1, 0, none⟩) 0 0) []) := hge.lst
  have HSI : Hid (SI true (w.heap.size + 1) (((w.alloc (.cells #[.int .i64 op, .int .i64 A, .int .i64 b] 73)).alloc (.cells #[] 2)).alloc (.cells #[.int .i64 ((k : Int) + 1)] 2)) (.slice (some ⟨w.heap.size + 1 + 1, 0, none⟩) 1 1) [(k : Int) + 1]) := by
    have h := SI.weak (grow_lit1 ((w.alloc (.cells #[.int .i64 op, .int .i64 A, .int .i64 b] 73)).alloc (.cells #[] 2)) ((k : Int) + 1)).gint.si (B' := w.heap.size + 1) (by simp)
    show SI _ _ _ _ _
    simpa using h
  clear hx hrow hge
  by_cases h11 : op = 11
  · subst h11
    have HV : Hid (nextsL 11 A k code.length = putL [] A) := by show _ = _; simp [nextsL]
    rw [HV.out]
    have hjb : Lay.jumpB 11 = true := by simp [Lay.jumpB]
    go_enter Tryz.func68, Tryz.ntmps68
    obtain ⟨i0, _⟩ := CI2.out.g0
    obtain ⟨i1, _⟩ := CI2.out.g1
    go_wp2_with fail
    refine (St.l3Jump 11 ((w.alloc (.cells #[.int .i64 11, .int .i64 A, .int .i64 b] 73)).alloc (.cells #[] 2))).mono ?_
    rw [hjb]
    rintro e _ ⟨rfl, rfl⟩
    go_wp2_with fail
    refine (l1Put ([] : List Int) (.slice (some ⟨w.heap.size + 1, 0, none⟩) 0 0) A (by simp) ((w.alloc (.cells #[.int .i64 11, .int .i64 A, .int .i64 b] 73)).alloc (.cells #[] 2)) HL0.out).mono ?_
    rintro e w3 ⟨v', rfl, hls, hb3⟩
    have hw3 : Below w.heap.size w w3 := below_over hw2 hb3
    clear hb3
    go_wp2
    go_ret
    exact ⟨_, rfl, hls, hw3⟩
  · have hn11 : (op != 11) = true := by simp [h11]
    by_cases h20 : op = 20
    · subst h20
      clear hn11
      have HV : Hid (nextsL 20 A k code.length = []) := by show _ = _; simp [nextsL]
      rw [HV.out]
      have hjb : Lay.jumpB 20 = false := by simp [Lay.jumpB]
      go_enter Tryz.func68, Tryz.ntmps68
      obtain ⟨i0, _⟩ := CI2.out.g0
      obtain ⟨i1, _⟩ := CI2.out.g1
      go_wp2_with fail
      refine (St.l3Jump 20 ((w.alloc (.cells #[.int .i64 20, .int .i64 A, .int .i64 b] 73)).alloc (.cells #[] 2))).mono ?_
      rw [hjb]
      rintro e _ ⟨rfl, rfl⟩
      go_wp2
      go_ret
      exact ⟨_, rfl, HL0.out, hw2⟩
    · have hn20 : (op != 20) = true := by simp [h20]
      by_cases hlt : k + 1 < code.length
      · have hli : (k : Int) + 1 < (code.length : Int) := by omega
        have hld : decide ((k : Int) + 1 < (code.length : Int)) = true := by simp; omega
        by_cases h12 : op = 12
        · subst h12
          clear hn11 hn20
          have HV : Hid (nextsL 12 A k code.length = putL [(k : Int) + 1] A) := by show _ = _; simp [nextsL, hlt]
          rw [HV.out]
          have hjb : Lay.jumpB 12 = true := by simp [Lay.jumpB]
          go_enter Tryz.func68, Tryz.ntmps68
          go_wp2_with (at_builtin; refine wpList_grow rfl _ _ rfl (w.heap.size + 1) _ _ rfl HGL.out (by simp) _ _ _ [(k : Int) + 1] rfl HSI.out (by simp) ?_)
          intro v1 w1 hg1 hk1
          have hw1 : Below w.heap.size w w1 := ((((Below.refl _ _).alloc (Nat.le_refl _) _).alloc (by simp) _).alloc (by simp; omega) _).trans (hk1.below.mono (Nat.le_succ _))
          have CI1 : Cells w1 w.heap.size [.int .i64 12, .int .i64 A, .int .i64 b] := CI3.out.low hk1.below (Nat.lt_succ_self _)
          have HGW : Hid (Grow (w.heap.size + 1) w1 v1 [(k : Int) + 1]) := hg1
          obtain ⟨i0, _⟩ := CI1.g0
          obtain ⟨i1, _⟩ := CI1.g1
          clear hg1 hk1
          go_wp2_with fail
          refine (St.l3Jump 12 w1).mono ?_
          rw [hjb]
          rintro e _ ⟨rfl, rfl⟩
          go_wp2_with fail
          refine (l1Put [(k : Int) + 1] v1 A (by simp) w1 HGW.out.lst).mono ?_
          rintro e w3 ⟨v', rfl, hls, hb3⟩
          have hw3 : Below w.heap.size w w3 := below_over hw1 hb3
          clear hb3
          go_wp2
          go_ret
          exact ⟨_, rfl, hls, hw3⟩
        · have HV : Hid (nextsL op A k code.length = [(k : Int) + 1]) := by show _ = _; simp [nextsL, h11, h20, h12, hlt]
          rw [HV.out]
          have hjb : Lay.jumpB op = false := by simp [Lay.jumpB, h11, h12]
          go_enter Tryz.func68, Tryz.ntmps68
          go_wp2_with (at_builtin; refine wpList_grow rfl _ _ rfl (w.heap.size + 1) _ _ rfl HGL.out (by simp) _ _ _ [(k : Int) + 1] rfl HSI.out (by simp) ?_)
          intro v1 w1 hg1 hk1
          have hw1 : Below w.heap.size w w1 := ((((Below.refl _ _).alloc (Nat.le_refl _) _).alloc (by simp) _).alloc (by simp; omega) _).trans (hk1.below.mono (Nat.le_succ _))
          have CI1 : Cells w1 w.heap.size [.int .i64 op, .int .i64 A, .int .i64 b] := CI3.out.low hk1.below (Nat.lt_succ_self _)
          have HGW : Hid (Grow (w.heap.size + 1) w1 v1 [(k : Int) + 1]) := hg1
          obtain ⟨i0, _⟩ := CI1.g0
          obtain ⟨i1, _⟩ := CI1.g1
          clear hg1 hk1
          go_wp2_with fail
          refine (St.l3Jump op w1).mono ?_
          rw [hjb]
          rintro e _ ⟨rfl, rfl⟩
          go_wp2
          go_ret
          exact ⟨_, rfl, HGW.out.lst, hw1⟩
      · have hli : ¬ (k : Int) + 1 < (code.length : Int) := by omega
        have hld : decide ((k : Int) + 1 < (code.length : Int)) = false := by simp; omega
        by_cases h12 : op = 12
        · subst h12
          clear hn11 hn20
          have HV : Hid (nextsL 12 A k code.length = putL [] A) := by show _ = _; simp [nextsL, hlt]
          rw [HV.out]
          have hjb : Lay.jumpB 12 = true := by simp [Lay.jumpB]
          go_enter Tryz.func68, Tryz.ntmps68
          obtain ⟨i0, _⟩ := CI2.out.g0
          obtain ⟨i1, _⟩ := CI2.out.g1
          go_wp2_with fail
          refine (St.l3Jump 12 ((w.alloc (.cells #[.int .i64 12, .int .i64 A, .int .i64 b] 73)).alloc (.cells #[] 2))).mono ?_
          rw [hjb]
          rintro e _ ⟨rfl, rfl⟩
          go_wp2_with fail
          refine (l1Put ([] : List Int) (.slice (some ⟨w.heap.size + 1, 0, none⟩) 0 0) A (by simp) ((w.alloc (.cells #[.int .i64 12, .int .i64 A, .int .i64 b] 73)).alloc (.cells #[] 2)) HL0.out).mono ?_
          rintro e w3 ⟨v', rfl, hls, hb3⟩
          have hw3 : Below w.heap.size w w3 := below_over hw2 hb3
          clear hb3
          go_wp2
          go_ret
          exact ⟨_, rfl, hls, hw3⟩
        · have HV : Hid (nextsL op A k code.length = []) := by show _ = _; simp [nextsL, h11, h12, hlt]
          rw [HV.out]
          have hjb : Lay.jumpB op = false := by simp [Lay.jumpB, h11, h12]
          go_enter Tryz.func68, Tryz.ntmps68
          obtain ⟨i0, _⟩ := CI2.out.g0
          obtain ⟨i1, _⟩ := CI2.out.g1
          go_wp2_with fail
          refine (St.l3Jump op ((w.alloc (.cells #[.int .i64 op, .int .i64 A, .int .i64 b] 73)).alloc (.cells #[] 2))).mono ?_
          rw [hjb]
          rintro e _ ⟨rfl, rfl⟩
          go_wp2
          go_ret
          exact ⟨_, rfl, HL0.out, hw2⟩
end Pg
end Go.Proofs.YtinanjjhkddikaaGreat

/- Contracts of the program's sets of steps: one more in them, what is in them, rising. -/
namespace Go.Proofs.YtinanjjhkddikaaGreat
namespace Pg
open Go.ChangeShapes Go.WideShapes Go.ChangeAt Go.RowKit St

/-- A set of steps, as the cells of an array. -/
def chi (n : Nat) (P : Nat → Bool) : List Value := (List.range n).map fun j => Value.bool (P j)
theorem chi_len (n : Nat) (P : Nat → Bool) : (chi n P).length = n := by simp [chi]
theorem chi_at {n : Nat} (P : Nat → Bool) {j : Nat} (h : j < n) : (chi n P)[j]? = some (.bool (P j)) := by simp [chi, h]
theorem chi_one (n : Nat) (P : Nat → Bool) : ∀ v ∈ chi n P, v.oneCell' = true := by
  intro v hv
  obtain ⟨j, _, rfl⟩ := List.mem_map.1 hv
  rfl
theorem chi_congr {n : Nat} {P Q : Nat → Bool} (h : ∀ j, j < n → P j = Q j) : chi n P = chi n Q := by
  unfold chi
  exact List.map_congr_left fun j hj => by rw [h j (List.mem_range.1 hj)]
theorem chi_set {n : Nat} (P : Nat → Bool) (k : Nat) (b : Bool) : (chi n P).set k (.bool b) = chi n fun j => if j = k then b else P j := by
  apply List.ext_getElem?
  intro j
  rw [List.getElem?_set]
  by_cases hj : j < n
  · rw [chi_at _ hj, chi_at _ hj, chi_len]
    by_cases e : k = j
    · subst e; simp [hj]
    · simp [e, Ne.symm e]
  · have h1 : (chi n P)[j]? = none := List.getElem?_eq_none (by rw [chi_len]; omega)
    have h2 : (chi n fun j => if j = k then b else P j)[j]? = none := List.getElem?_eq_none (by rw [chi_len]; omega)
    rw [h1, h2, chi_len]
    by_cases e : k = j
    · subst e; simp [hj]
    · simp [e]
theorem Cells.range {w : World} {k : Nat} {vs : List Value} (h : Cells w k vs) : w.rangeAt k 0 vs := fun j v hv => by rw [Nat.zero_add]; exact (h j v hv).1
theorem Cells.there {w : World} {k : Nat} {vs : List Value} (h : Cells w k vs) {n : Nat} (hn : n = vs.length) : w.there k 0 n := fun j hj => by
  subst hn
  obtain ⟨h1, h2⟩ := h j _ (List.getElem?_eq_getElem hj)
  rw [Nat.zero_add]
  exact ⟨by rw [h1]; rfl, h2⟩
theorem Cells.put {w : World} {k : Nat} {vs us : List Value} (h : Cells w k vs) (hn : us.length = vs.length) : Cells (w.setCells k 0 us) k us := fun i x hx => by
  have h1 := World.rangeAt_setCells_same w k 0 us (h.there hn) i x hx
  have h2 := (World.there_setCells (h.there hn) k 0 us) i (List.getElem?_eq_some_iff.1 hx).1
  rw [Nat.zero_add] at h1 h2
  exact ⟨h1, h2.2⟩
theorem Cells.putFar {w : World} {k b : Nat} {vs : List Value} (h : Cells w k vs) (us : List Value) (hn : k ≠ b) : Cells (w.setCells b 0 us) k vs := fun i x hx => by
  have h1 := World.rangeAt_setCells_apart h.range b 0 us (.inl hn) i x hx
  rw [Nat.zero_add] at h1
  exact ⟨h1, by rw [World.frozen?_setCells]; exact (h i x hx).2⟩
theorem infoS : (Tryz.prog.info? 132).map (·.size) = some 40 := by kernel_rfl

theorem plainB : Tryz.prog.plainKey 4 = true := by kernel_rfl
theorem cellsB : Tryz.prog.cellsOf 4 = 1 := by kernel_rfl
theorem infoB : (Tryz.prog.info? 4).map (fun i => (i.zero, i.size, i.bytes)) = some (some (.bool false), 1, 1) := by kernel_rfl
/-- One of an array of flags, by value. -/
theorem run_index_chi {t n : Nat} (hu : Tryz.prog.underlying t = some (.array n 4)) (P : Nat → Bool) {k : Nat} (hk : k < n) (w : World) :
    (Instr.index t (.agg (chi n P).toArray) (.int .i64 (k : Int))).run Tryz.prog w = .ok (.bool (P k)) w := by
  obtain ⟨i0, hi, _, hz1, _⟩ := info_parts infoB
  have h0 : (0 : Int) ≤ (k : Int) ∧ (k : Int) < (n : Int) := by omega
  have hx : (chi n P).toArray[k]? = some (.bool (P k)) := by rw [List.getElem?_toArray]; exact chi_at P hk
  simp [Instr.index, run_underlying hu, asIntOf, h0, run_sizeOf w hi, cellsB, run_part_plain w plainB hx, Sem.run_bind]
  intro h; omega
/-- Two arrays of flags, held against each other. -/
def alike (n : Nat) (P Q : Nat → Bool) : Bool := (List.range n).all fun j => P j == Q j
theorem run_items {n : Nat} (P Q : Nat → Bool) (d : Nat) (w : World) : ∀ is : List Nat, (∀ j ∈ is, j < n) → (Op.eqItems (d + 1) 4 1 (chi n P).toArray (chi n Q).toArray is).run Tryz.prog w = .ok (is.all fun j => P j == Q j) w
  | [], _ => by simp [Op.eqItems]
  | j :: is, h => by
    have hj := h j List.mem_cons_self
    have ih := run_items P Q d w is fun i hi => h i (List.mem_cons_of_mem _ hi)
    have hx : (chi n P).toArray[j]? = some (.bool (P j)) := by rw [List.getElem?_toArray]; exact chi_at P hj
    have hy : (chi n Q).toArray[j]? = some (.bool (Q j)) := by rw [List.getElem?_toArray]; exact chi_at Q hj
    simp only [Op.eqItems, Sem.run_bind, Nat.mul_one, run_part_plain w plainB hx, run_part_plain w plainB hy, Result.andThen_ok, run_equalIn_bool' w d 4 (P j) (Q j) Tryz.underlying4, List.all_cons]
    cases hpq : (P j == Q j)
    · simp
    · simpa using ih
theorem run_equal_chi {t n : Nat} (hu : Tryz.prog.underlying t = some (.array n 4)) (P Q : Nat → Bool) (w : World) :
    (Op.equalIn 10000 t (.agg (chi n P).toArray) (.agg (chi n Q).toArray)).run Tryz.prog w = .ok (alike n P Q) w := by
  obtain ⟨i0, hi, _, hz1, _⟩ := info_parts infoB
  rw [run_equalIn_array w 9999 _ _ hu hi, cellsB, run_items P Q 9998 w _ (fun j hj => List.mem_range.1 hj)]
  rfl
theorem run_eql_chi {t n : Nat} (hu : Tryz.prog.underlying t = some (.array n 4)) (P Q : Nat → Bool) (w : World) :
    (binOp .eql t (.agg (chi n P).toArray) (.agg (chi n Q).toArray)).run Tryz.prog w = .ok (.bool (alike n P Q)) w := by
  obtain ⟨i0, hi, _, hz1, _⟩ := info_parts infoB
  rw [run_eql_struct]
  rw [run_equalIn_array w 9999 _ _ hu hi, cellsB, run_items P Q 9998 w _ (fun j hj => List.mem_range.1 hj)]
  rfl
theorem alike_iff {n : Nat} {P Q : Nat → Bool} : alike n P Q = true ↔ ∀ j, j < n → P j = Q j := by simp [alike]

/-- The numbers below k in a set, rising. -/
def risL (P : Nat → Bool) (k : Nat) : List Int := ((List.range k).filter P).map fun (j : Nat) => (j : Int)
theorem risL_zero (P : Nat → Bool) : risL P 0 = [] := rfl
theorem risL_succ (P : Nat → Bool) (k : Nat) : risL P (k + 1) = risL P k ++ (if P k then [(k : Int)] else []) := by
  unfold risL
  rw [List.range_succ, List.filter_append, List.map_append]
  cases h : P k <;> simp [h]
theorem risL_len (P : Nat → Bool) (k : Nat) : (risL P k).length ≤ k := by
  unfold risL
  rw [List.length_map]
  have := List.length_filter_le P (List.range k)
  simpa using this
theorem risL_mem {P : Nat → Bool} {k : Nat} {x : Int} : x ∈ risL P k ↔ ∃ j : Nat, j < k ∧ P j = true ∧ x = (j : Int) := by
  unfold risL
  simp only [List.mem_map, List.mem_filter, List.mem_range]
  constructor
  · rintro ⟨j, ⟨h1, h2⟩, rfl⟩; exact ⟨j, h1, h2, rfl⟩
  · rintro ⟨j, h1, h2, rfl⟩; exact ⟨j, ⟨h1, h2⟩, rfl⟩
theorem risL_rise (P : Nat → Bool) (k : Nat) : Rise (risL P k) := by
  induction k with
  | zero => simp [risL]
  | succ k ih =>
    rw [risL_succ]
    refine List.pairwise_append.2 ⟨ih, by split <;> simp, fun x hx y hy => ?_⟩
    obtain ⟨j, hj, _, rfl⟩ := risL_mem.1 hx
    split at hy
    · simp at hy; subst hy; omega
    · simp at hy
theorem risL_congr {P Q : Nat → Bool} {k : Nat} (h : ∀ j, j < k → P j = Q j) : risL P k = risL Q k := by
  unfold risL
  rw [List.filter_congr fun j hj => h j (List.mem_range.1 hj)]

set_option maxRecDepth 100000 in
set_option maxHeartbeats 1000000 in
theorem rising_at (P : Nat → Bool) (w : World) :
    Calls Tryz.prog 94 #[.agg (chi 40 P).toArray] w fun e w' => ∃ v, e = .returned v ∧ Grow w.heap.size w' v (risL P 40) ∧ Below w.heap.size w w' := by
  obtain ⟨i0, hif, hz0, hz1, hz2⟩ := info_parts infoN
  have C0 : Hid (Cells ((w.alloc (.cells (chi 40 P).toArray 132)).alloc (.cells #[] 2)) w.heap.size (chi 40 P)) := (Cells.new w _ rfl _ _).alloc _
  have hb0 : Below w.heap.size w ((w.alloc (.cells (chi 40 P).toArray 132)).alloc (.cells #[] 2)) := ((Below.refl _ _).alloc (Nat.le_refl _) _).alloc (by simp) _
  have HG0 : Hid (Grow w.heap.size ((w.alloc (.cells (chi 40 P).toArray 132)).alloc (.cells #[] 2)) (.slice (some ⟨w.heap.size + 1, 0, none⟩) 0 0) []) := grow_nil w _
  go_enter Tryz.func94, Tryz.ntmps94
  go_wp2_with (with_reducible refine wpList_load_mid rfl 132 (.tmp 1) rfl w.heap.size 0 (by simp [Act.eval]) (chi 40 P) _ C0.out.range Tryz.underlying132 rfl (by rw [infoS, chi_len]) ?_)
  clear C0
  go_loopw [3, 8] (fun v i wr => ∃ k : Nat, k ≤ 40 ∧ i = .int .i64 k ∧ Hid (Grow w.heap.size wr v (risL P k)) ∧ Below w.heap.size w wr) (fun _ i _ => 40 - (intOf i).toNat)
  case atStart => exact ⟨0, Nat.zero_le _, rfl, HG0.out, hb0⟩
  case round =>
    clear hb0 HG0
    obtain ⟨k, hk, rfl, hg, hb⟩ := hrel
    by_cases hlt : k < 40
    · have hx := run_index_chi Tryz.underlying132 P hlt wr
      have hki : (k : Int) < 40 := by omega
      obtain ⟨ga, ca, rfl⟩ := hg.out.form
      have HLN : Hid ((risL P k).length ≤ k) := risL_len P k
      have HB : Hid (w.heap.size ≤ wr.heap.size) := hb.size
      have HST : Hid (risL P (k + 1) = risL P k ++ (if P k then [(k : Int)] else [])) := risL_succ P k
      generalize hpk : P k = b at *
      cases b
      · have HG : Hid (Grow w.heap.size wr (.slice (some ⟨ga, 0, none⟩) (risL P k).length ca) (risL P (k + 1))) := by show Grow _ _ _ _; rw [HST.out]; simpa using hg.out
        clear hpk HST
        go_wp2
        go_roundw
        case rel => exact ⟨k + 1, by omega, by go_num, HG.out, hb⟩
        case measure => simp [intOf]; omega
      · clear hpk
        go_wp2_with (at_builtin; refine wpList_append_own _ rfl _ _ 26 rfl w.heap.size 2 i0 (.int .i64 0) 1 8 Tryz.underlying26 hif hz0 hz1 hz2 rfl (by decide) _ _ _ rfl (hg.out.1.alloc _) ⟨wr.heap.size, 0, none⟩ 1 1 [.int .i64 (k : Int)] rfl rfl (cell_one_new _ _ _) (by simp [Value.oneCell']) (by have := HLN.out; unfold maxLen; omega) (by have := HLN.out; omega) (by have := HB.out; simp; omega) ?_)
        intro v1 w1 hown1 hgrow1 hnil1
        have hb1 : Below w.heap.size w w1 := (hb.alloc hb.size _).grown hgrow1 (by have := HB.out; simp; omega) (fun q hq => by simp [Value.ownBlock] at hq; subst hq; exact (hg.out.1.lt ga rfl).1)
        have HG : Hid (Grow w.heap.size w1 v1 (risL P (k + 1))) := by
          show Grow _ _ _ _
          rw [HST.out]
          exact grow_next hown1 (fun h => by first | exact hnil1 h | exact absurd (hnil1.1 h).1 (by simp))
        clear hown1 hgrow1 hnil1 hg HST hx
        go_wp2
        go_roundw
        case rel => exact ⟨k + 1, by omega, by go_num, HG.out, hb1⟩
        case measure => simp [intOf]; omega
    · obtain rfl : k = 40 := by omega
      go_wp2
      go_ret
      exact ⟨_, rfl, hg.out, hb⟩
set_option maxRecDepth 100000 in
set_option maxHeartbeats 1000000 in
theorem addIn_at (q : Option Addr) (yc m : Nat) (hm : m ≤ 40) (n : Int) (b : Nat) (P : Nat → Bool) (w : World) (h : Cells w b (chi 40 P)) :
    Calls Tryz.prog 116 #[.pointer (some ⟨b, 0, none⟩), .slice q m yc, .int .i64 n] w fun e w' => e = .returned (.tuple #[]) ∧ Cells w' b (chi 40 fun j => P j || (decide (n = (j : Int)) && decide (j < m))) ∧ Only b w w' := by
  by_cases hn : 0 ≤ n ∧ n < (m : Int)
  · obtain ⟨k, rfl⟩ := Int.eq_ofNat_of_zero_le hn.1
    have hd0 : decide ((0 : Int) ≤ (k : Int)) = true := by simp
    have hd1 : decide ((k : Int) < (m : Int)) = true := by simp; omega
    have hk40 : k < 40 := by omega
    have hki : (k : Int) < 40 := by omega
    obtain ⟨c0, f0⟩ := h k _ (chi_at P hk40)
    have HC : Hid (Cells (w.setCell ⟨b, k, none⟩ (.bool true)) b (chi 40 fun j => P j || (decide (((k : Nat) : Int) = (j : Int)) && decide (j < m)))) := by
      have h1 := h.set k (.bool true)
      rw [chi_set] at h1
      rw [chi_congr (Q := fun j => if j = k then true else P j) (fun j hj => by
        by_cases e : j = k
        · subst e; simp; right; omega
        · have e' : ¬ ((k : Int) = (j : Int)) := by omega
          simp [e, e'])]
      exact h1
    clear h
    go_enter Tryz.func116, Tryz.ntmps116
    go_wp2_with fail
    refine (isBelow (k : Int) m w).mono ?_
    rw [hd0, hd1]
    rintro e _ ⟨rfl, rfl⟩
    go_wp2
    go_end0
    exact ⟨rfl, HC.out, (Only.refl _ _).set _ _⟩
  · have hd : (decide ((0 : Int) ≤ n) && decide (n < (m : Int))) = false := by simp; omega
    have HC : Hid (Cells w b (chi 40 fun j => P j || (decide (n = (j : Int)) && decide (j < m)))) := by
      show Cells _ _ _
      rw [chi_congr (Q := P) (fun j hj => by
        have : (decide (n = (j : Int)) && decide (j < m)) = false := by simp; omega
        rw [this, Bool.or_false])]
      exact h
    clear h
    go_enter Tryz.func116, Tryz.ntmps116
    go_wp2_with fail
    refine (isBelow n m w).mono ?_
    rw [hd]
    rintro e _ ⟨rfl, rfl⟩
    go_wp2
    go_end0
    exact ⟨rfl, HC.out, Only.refl _ _⟩
end Pg
end Go.Proofs.YtinanjjhkddikaaGreat

/- Contracts: the set of what may come next, two sets as one, and both sides' Nexts. -/
namespace Go.Proofs.YtinanjjhkddikaaGreat
namespace Pg
open Go.ChangeShapes Go.WideShapes Go.ChangeAt Go.RowKit St

theorem below_setCells {B b : Nat} (hb : B ≤ b) : ∀ (vs : List Value) (o : Nat) {u v : World}, Below B u v → Below B u (v.setCells b o vs)
  | [], _, _, _, h => h
  | _ :: r, o, _, _, h => below_setCells hb r (o + 1) (h.setCell hb _)
theorem size_setCells {b : Nat} : ∀ (vs : List Value) (o : Nat) (v : World), (v.setCells b o vs).heap.size = v.heap.size
  | [], _, _ => rfl
  | _ :: r, o, v => by rw [World.setCells, size_setCells r (o + 1)]; simp
/-- A result that lies in a variable of its own: an array. -/
theorem ret_cell {fn : Func} {p ty : Nat} (hres : fn.results = #[.cell p ty]) {tmps : Array Value} {w : World} {b : Nat} (hp : tmps.getD p undef = .pointer (some ⟨b, 0, none⟩)) {cs : List Value} (hc : w.rangeAt b 0 cs) {d : TypeDesc} (hu : Tryz.prog.underlying ty = some d) (hd : d.isRow = true) (hi : (Tryz.prog.info? ty).map (·.size) = some cs.length) :
    (results fn tmps).run Tryz.prog w = .ok (.agg cs.toArray) w := by
  simp only [results, hres]
  have hp' : tmps[p]?.getD undef = .pointer (some ⟨b, 0, none⟩) := by simpa using hp
  simp [hp', asAddr, run_loadVar_mid w b 0 ty cs d hc hu hd hi]
theorem zeroS : (Tryz.prog.info? 132).map (fun i => (i.zero, i.size)) = some (some (.agg (chi 40 fun _ => false).toArray), 40) := by kernel_rfl
/-- A new array of flags, none set. -/
theorem wpList_alloc_chi {w : World} {ops : Array Oper} {rest : List Oper} {o : Oper} {a : Act} {Q : Exit → Act → World → Prop} (hgd : o.guard = none) (t : TypeId) (ho : o.op = .alloc t) (n : Nat)
    (hz : (Tryz.prog.info? t).map (fun i => (i.zero, i.size)) = some (some (.agg (chi n fun _ => false).toArray), n))
    (h : wpList Tryz.prog ops Q rest (a.put o.dst (.pointer (some ⟨w.heap.size, 0, none⟩))) (w.alloc (.cells (chi n fun _ => false).toArray t))) : wpList Tryz.prog ops Q (o :: rest) a w :=
  wpList_plain hgd fun K hK => by
    have hz1 := (zero_of_info hz).1 w
    unfold Oper.wp execOp
    simp [ho, Instr.alloc, hz1, Sem.run_bind, newVar, go_sem]
    exact hK _ _ h
/-- A new array of flags, the first one set. -/
theorem wpList_build_chi {w : World} {ops : Array Oper} {rest : List Oper} {o : Oper} {a : Act} {Q : Exit → Act → World → Prop} (hgd : o.guard = none) (t : TypeId) (ho : o.op = .build t #[(0, .const (.bool true))]) (n : Nat) (hn : 0 < n)
    (hu : Tryz.prog.underlying t = some (.array n 4)) (hz : (Tryz.prog.info? t).map (fun i => (i.zero, i.size)) = some (some (.agg (chi n fun _ => false).toArray), n))
    (h : wpList Tryz.prog ops Q rest (a.put o.dst (.agg (chi n fun j => decide (j = 0)).toArray)) w) : wpList Tryz.prog ops Q (o :: rest) a w :=
  wpList_plain hgd fun K hK => by
    have hz1 := (zero_of_info hz).1 w
    obtain ⟨i0, hi, _, hz1', _⟩ := info_parts infoB
    unfold Oper.wp execOp
    simp [ho, Instr.build, hz1, Sem.run_bind, run_underlying hu]
    have hsz : ¬ ((chi n fun _ => false).toArray.size < 1) := by simp [chi_len]; omega
    have hfl : Instr.fill (fun i => some (i, 1)) (Value.agg (chi n fun _ => false).toArray).cells [(0, a.eval (Operand.const (.bool true)))] = some (chi n fun j => decide (j = 0)).toArray := by
      have h1 := chi_set (n := n) (fun _ => false) 0 true
      have h2 : (chi n fun j => if j = 0 then true else false) = chi n fun j => decide (j = 0) := chi_congr fun j _ => by by_cases e : j = 0 <;> simp [e]
      rw [h2] at h1
      rw [← h1]
      simp [Instr.fill, Value.cells, Act.eval, chi_len]
      omega
    rw [hfl]
    simpa [Result.andThen, Oper.upon] using hK _ _ h

/-- May j come next behind step k? -/
def nxB (code : List Tx.Ins) (k j : Nat) : Bool := decide (j ∈ waysF (insF code k) k) && decide (j < code.length)
theorem way_in {i : Tx.Ins} {k j : Nat} : ((j : Int) ∈ waysI i k) ↔ j ∈ waysF i k := by
  unfold waysI
  simp only [List.mem_map]
  constructor
  · rintro ⟨a, h, e⟩; rwa [show j = a by omega]
  · exact fun h => ⟨j, h, rfl⟩
theorem waysI_len (i : Tx.Ins) (k : Nat) : (waysI i k).length ≤ 2 := by
  unfold waysI waysF
  rw [List.length_map]
  split
  · simp
  · split
    · simp
    · split <;> simp
def partB (l : List Int) (m len j : Nat) : Bool := decide ((j : Int) ∈ l.take m) && decide (j < len)
theorem partB_step {l : List Int} {m : Nat} (hm : m < l.length) (len j : Nat) : (partB l m len j || (decide (l[m] = (j : Int)) && decide (j < len))) = partB l (m + 1) len j := by
  unfold partB
  rw [List.take_succ_eq_append_getElem hm]
  by_cases h1 : j < len
  · by_cases h2 : (j : Int) ∈ l.take m
    · simp only [h1, h2, decide_true, Bool.true_or, Bool.and_true]; symm; simp only [decide_eq_true_eq]; exact List.mem_append_left _ h2
    · by_cases h3 : l[m] = (j : Int)
      · simp [h1, h2, h3]
      · simp only [h1, h2, h3, decide_true, decide_false, Bool.false_or, Bool.and_true]; symm; simp only [decide_eq_false_iff_not, List.mem_append, List.mem_singleton, not_or]; exact ⟨h2, fun e => h3 e.symm⟩
  · simp [h1]
theorem ins_is {code : List Tx.Ins} {k : Nat} (hk : k < code.length) : code[k]? = some (insF code k) := by unfold insF; rw [List.getD_eq_getElem?_getD, List.getElem?_eq_getElem hk]; rfl
theorem jump_in {code : List Tx.Ins} (hok : Lay.codeOk code = true) {k : Nat} (hk : k < code.length) (h : (insF code k).1 = 11 ∨ (insF code k).1 = 12) : 0 ≤ (insF code k).2.1 ∧ (insF code k).2.1 < (code.length : Int) :=
  Lay.ok_jump hok (ins_is hk) (by rcases h with h | h <;> simp [Lay.jumpB, h])

set_option maxRecDepth 100000 in
set_option maxHeartbeats 2000000 in
theorem nextsIn_at (g yc : Nat) (code : List Tx.Ins) (hok : Lay.codeOk code = true) (k : Nat) (hk : k < code.length) (w : World) (hrow : Row w g 0 code) :
    Calls Tryz.prog 106 #[.slice (some ⟨g, 0, none⟩) code.length yc, .int .i64 k] w fun e w' => e = .returned (.agg (chi 40 (nxB code k)).toArray) ∧ Below w.heap.size w w' := by
  have hl40 := (Lay.ok_len hok).2
  obtain ⟨d0, d1, d2⟩ := hrow k _ (ins_is hk)
  have h0 : (insF code k).1 = 11 ∨ (insF code k).1 = 12 → 0 ≤ (insF code k).2.1 := fun h => (jump_in hok hk h).1
  have HNX : Hid (nxB code k = fun j => decide (j ∈ waysF (insF code k) k) && decide (j < code.length)) := rfl
  generalize insF code k = ins at *
  simp only [Nat.zero_add] at d0 d1 d2
  have hki : (k : Int) < (code.length : Int) := by omega
  obtain ⟨W, hW⟩ : ∃ W, W = (w.alloc (.cells (chi 40 fun _ => false).toArray 132)).alloc (.cells (chi 40 fun _ => false).toArray 132) := ⟨_, rfl⟩
  have hwW : Below w.heap.size w W := by rw [hW]; exact ((Below.refl _ _).alloc (Nat.le_refl _) _).alloc (by simp) _
  have lg := cell_lt d0
  have e0 := (hwW.cell (p := ⟨g, k * 3, none⟩) lg).trans d0
  have e1 := (hwW.cell (p := ⟨g, k * 3 + 1, none⟩) lg).trans d1
  have e2 := (hwW.cell (p := ⟨g, k * 3 + 2, none⟩) lg).trans d2
  rw [hW] at e0 e1 e2
  have C0 : Hid (Cells W w.heap.size (chi 40 fun _ => false)) := by
    show Cells _ _ _
    rw [hW]; exact (Cells.new w _ rfl _ _).alloc _
  have C1 : Hid (Cells W (w.heap.size + 1) (chi 40 fun _ => false)) := by
    show Cells _ _ _
    rw [hW]; exact Cells.new (w.alloc _) _ (by simp) _ _
  have HW : Hid (W = (w.alloc (.cells (chi 40 fun _ => false).toArray 132)).alloc (.cells (chi 40 fun _ => false).toArray 132)) := hW
  clear hW d0 d1 d2 hrow
  go_enter Tryz.func106, Tryz.ntmps106
  go_wp2_with (with_reducible refine wpList_alloc_chi rfl 132 rfl 40 zeroS ?_)
  rw [← HW.out]
  clear HW e0 e1 e2
  refine (waysFrom_at ins k (by omega) h0 W).mono ?_
  rintro e w1 ⟨v, rfl, hsi, hb1⟩
  have hw1 : Below w.heap.size w w1 := below_over hwW hb1
  have HS1 : Hid (SI true W.heap.size w1 v (waysI ins k)) := hsi
  obtain ⟨z, cz, rfl⟩ := hsi.form
  have C0' : Hid (Cells w1 w.heap.size (chi 40 fun _ => false)) := C0.out.on hb1
  have C1' : Hid (Cells w1 (w.heap.size + 1) (chi 40 fun _ => false)) := C1.out.on hb1
  have HWZ : Hid (w.heap.size + 2 ≤ W.heap.size) := by
    have h1 := C1.out 0 _ (chi_at _ (by decide))
    have := cell_lt h1.1
    show _ ≤ _
    simp at this; omega
  have HL2 : (waysI ins k).length ≤ 2 := waysI_len ins k
  have HIN : Hid (∀ j : Nat, (j : Int) ∈ waysI ins k ↔ j ∈ waysF ins k) := fun j => way_in
  generalize waysI ins k = l at *
  clear hsi hb1 hwW C0 C1 h0
  go_wp2_with fail
  go_loopw [15] (fun i wr => ∃ m : Nat, m ≤ l.length ∧ i = .int .i64 m ∧ Hid (SI true W.heap.size wr (.slice z l.length cz) l) ∧ Hid (Cells wr w.heap.size (chi 40 fun _ => false)) ∧ Hid (Cells wr (w.heap.size + 1) (chi 40 (partB l m code.length))) ∧ Below w.heap.size w wr) (fun i _ => l.length - (intOf i).toNat)
  case atStart =>
    refine ⟨0, Nat.zero_le _, rfl, HS1.out, C0'.out, ?_, hw1⟩
    show Cells _ _ _
    rw [chi_congr (Q := fun _ => false) (fun j hj => by simp [partB])]
    exact C1'.out
  case round =>
    clear HS1 C0' C1' hw1
    obtain ⟨m, hm, rfl, hs, hc0, hc1, hb⟩ := hrel
    by_cases hlt : m < l.length
    · obtain ⟨bz, oz, rfl, hB, c0⟩ := Arr.get hs.out hlt
      have c0' : wr.cell? ⟨bz, oz + m, none⟩ = some (.int .i64 l[m]) := by have h := c0; unfold IntAt at h; rw [Nat.mul_one] at h; exact h
      have HP : Hid (∀ j, (partB l m code.length j || (decide (l[m] = (j : Int)) && decide (j < code.length))) = partB l (m + 1) code.length j) := fun j => partB_step hlt _ j
      generalize l[m] = x at *
      have hmi : (m : Int) < (l.length : Int) := by omega
      clear c0
      go_wp2_with fail
      refine (addIn_at (some ⟨g, 0, none⟩) yc code.length hl40 x (w.heap.size + 1) (partB l m code.length) wr hc1.out).mono ?_
      rintro e w2 ⟨rfl, hc2, ho⟩
      have hb2 : Below w.heap.size w w2 := hb.trans (ho.below (Nat.le_succ _))
      have HC2 : Hid (Cells w2 (w.heap.size + 1) (chi 40 (partB l (m + 1) code.length))) := by
        show Cells _ _ _
        rw [← chi_congr (fun j hj => HP.out j)]
        exact hc2
      have HC0 : Hid (Cells w2 w.heap.size (chi 40 fun _ => false)) := fun i x hx => by
        obtain ⟨h1, h2⟩ := hc0.out i x hx
        have hbk := ho.block w.heap.size (by omega)
        exact ⟨(World.cell?_of_block (w := wr) hbk).trans h1, (World.frozen?_of_block (w := wr) hbk).trans h2⟩
      have HS2 : Hid (SI true W.heap.size w2 (.slice (some ⟨bz, oz, none⟩) l.length cz) l) := SI.on hs.out ⟨by rw [ho.size]; exact Nat.le_refl _, fun q hq _ => ho.block q (by have := HWZ.out; omega)⟩
      clear hc2 ho hc0 hc1 hs HP hb
      go_wp2
      go_roundw
      case rel => exact ⟨m + 1, by omega, by go_num, HS2.out, HC0.out, HC2.out, hb2⟩
      case measure => simp [intOf]; omega
    · have HE : Hid (chi 40 (partB l m code.length) = chi 40 (nxB code k)) := by
        show _ = _
        rw [HNX.out]
        refine chi_congr fun j hj => ?_
        unfold partB
        rw [List.take_of_length_le (by omega)]
        congr 1
        exact decide_eq_decide.2 (HIN.out j)
      have HC1 : Hid (Cells wr (w.heap.size + 1) (chi 40 (nxB code k))) := by show Cells _ _ _; rw [← HE.out]; exact hc1.out
      have HC2 : Hid (Cells (wr.setCells w.heap.size 0 (chi 40 (nxB code k))) w.heap.size (chi 40 (nxB code k))) := hc0.out.put (by rw [chi_len, chi_len])
      clear hc1 HE
      have HCL : Hid ((chi 40 (nxB code k)).length = 40) := chi_len _ _
      have HCO : Hid (∀ v ∈ chi 40 (nxB code k), v.oneCell' = true) := chi_one _ _
      have hmi : ¬ (m : Int) < (l.length : Int) := by omega
      have hb2 : Below w.heap.size w (wr.setCells w.heap.size 0 (chi 40 (nxB code k))) := below_setCells (Nat.le_refl _) _ _ hb
      clear hb
      generalize hcs : chi 40 (nxB code k) = cs at *
      have HCS : Hid (chi 40 (nxB code k) = cs) := hcs
      clear hcs
      go_wp2_with (first
        | (with_reducible refine wpList_load_mid rfl 132 (.tmp 5) rfl (w.heap.size + 1) 0 (by simp [Act.eval, Act.put]) cs _ HC1.out.range Tryz.underlying132 rfl (by rw [infoS, HCL.out]) ?_)
        | (with_reducible refine wpList_store_mid rfl 132 (.tmp 4) (.tmp 23) rfl w.heap.size 0 cs.toArray (by simp [Act.eval, Act.put]) (by simp [Act.eval, Act.put]) (hc0.out.there (by rw [chi_len]; simpa using HCL.out)) (by rw [infoS]; simpa using HCL.out.symm) (all_oneCell_toArray HCO.out) ?_))
      (try simp only [Exit.inBlock, Exit.then])
      refine bodyPost_ret (ret_cell rfl rfl HC2.out.range Tryz.underlying132 rfl (by rw [infoS, HCL.out])) rfl ?_
      exact ⟨by rw [HCS.out], hb2⟩
set_option maxRecDepth 100000 in
set_option maxHeartbeats 2000000 in
theorem withS_at (P Q : Nat → Bool) (w : World) :
    Calls Tryz.prog 105 #[.agg (chi 40 P).toArray, .agg (chi 40 Q).toArray] w fun e w' => e = .returned (.agg (chi 40 fun j => P j || Q j).toArray) ∧ Below w.heap.size w w' := by
  obtain ⟨W, hW⟩ : ∃ W, W = ((w.alloc (.cells (chi 40 P).toArray 132)).alloc (.cells (chi 40 Q).toArray 132)).alloc (.cells (chi 40 fun _ => false).toArray 132) := ⟨_, rfl⟩
  have hwW : Below w.heap.size w W := by rw [hW]; exact (((Below.refl _ _).alloc (Nat.le_refl _) _).alloc (by simp) _).alloc (by simp; omega) _
  have C0 : Hid (Cells W w.heap.size (chi 40 P)) := by show Cells _ _ _; rw [hW]; exact ((Cells.new w _ rfl _ _).alloc _).alloc _
  have C1 : Hid (Cells W (w.heap.size + 1) (chi 40 Q)) := by show Cells _ _ _; rw [hW]; exact (Cells.new (w.alloc _) _ (by simp) _ _).alloc _
  have C2 : Hid (Cells W (w.heap.size + 1 + 1) (chi 40 fun _ => false)) := by show Cells _ _ _; rw [hW]; exact Cells.new ((w.alloc _).alloc _) _ (by simp) _ _
  have C1' : Hid (Cells (((w.alloc (.cells (chi 40 P).toArray 132)).alloc (.cells (chi 40 Q).toArray 132)).alloc (.cells (chi 40 fun _ => false).toArray 132)) (w.heap.size + 1) (chi 40 Q)) := (Cells.new (w.alloc _) _ (by simp) _ _).alloc _
  have HW : Hid (W = ((w.alloc (.cells (chi 40 P).toArray 132)).alloc (.cells (chi 40 Q).toArray 132)).alloc (.cells (chi 40 fun _ => false).toArray 132)) := hW
  clear hW
  go_enter Tryz.func105, Tryz.ntmps105
  go_wp2_with (first
    | (with_reducible refine wpList_alloc_chi rfl 132 rfl 40 zeroS ?_)
    | (with_reducible refine wpList_load_mid rfl 132 (.tmp 3) rfl (w.heap.size + 1) 0 (by simp [Act.eval, Act.put]) (chi 40 Q) _ C1'.out.range Tryz.underlying132 rfl (by rw [infoS, chi_len]) ?_))
  rw [← HW.out]
  clear HW C1'
  go_loopw [8] (fun i wr => ∃ k : Nat, k ≤ 40 ∧ i = .int .i64 k ∧ Hid (Cells wr w.heap.size (chi 40 fun j => P j || (Q j && decide (j < k)))) ∧ Hid (Cells wr (w.heap.size + 1 + 1) (chi 40 fun _ => false)) ∧ Below w.heap.size w wr) (fun i _ => 40 - (intOf i).toNat)
  case atStart =>
    refine ⟨0, Nat.zero_le _, rfl, ?_, C2.out, hwW⟩
    show Cells _ _ _
    rw [chi_congr (Q := P) (fun j hj => by simp)]
    exact C0.out
  case round =>
    clear C0 C1 C2 hwW
    obtain ⟨k, hk, rfl, hc, hc2, hb⟩ := hrel
    by_cases hlt : k < 40
    · have hx := run_index_chi Tryz.underlying132 Q hlt wr
      have hki : (k : Int) < 40 := by omega
      obtain ⟨c0, f0⟩ := hc.out k _ (chi_at _ hlt)
      have hdk : decide (k < k) = false := by simp
      simp only [hdk, Bool.and_false, Bool.or_false] at c0
      have HC : Hid (∀ b, b = (P k || Q k) → Cells (wr.setCell ⟨w.heap.size, k, none⟩ (.bool b)) w.heap.size (chi 40 fun j => P j || (Q j && decide (j < k + 1)))) := fun b hb => by
        have h1 := hc.out.set k (.bool b)
        rw [chi_set] at h1
        rw [chi_congr (Q := fun j => if j = k then b else P j || (Q j && decide (j < k))) (fun j hj => by
          by_cases e : j = k
          · subst e; simp [hb]
          · have : decide (j < k + 1) = decide (j < k) := by rw [decide_eq_decide]; omega
            simp [e, this])]
        exact h1
      have HC2 : Hid (∀ b, Cells (wr.setCell ⟨w.heap.size, k, none⟩ (.bool b)) (w.heap.size + 1 + 1) (chi 40 fun _ => false)) := fun b => hc2.out.far _ _ (by simp; omega)
      have HB : Hid (∀ b, Below w.heap.size w (wr.setCell ⟨w.heap.size, k, none⟩ (.bool b))) := fun b => hb.setCell (Nat.le_refl _) _
      clear hc hc2 hdk
      cases hp : P k
      · rw [hp] at c0 HC
        clear hp
        generalize Q k = q at *
        go_wp2
        go_roundw
        case rel => exact ⟨k + 1, by omega, by go_num, HC.out _ (by simp), HC2.out _, HB.out _⟩
        case measure => simp [intOf]; omega
      · rw [hp] at c0 HC
        clear hp
        generalize Q k = q at *
        go_wp2
        go_roundw
        case rel => exact ⟨k + 1, by omega, by go_num, HC.out _ (by simp), HC2.out _, HB.out _⟩
        case measure => simp [intOf]; omega
    · have HC0 : Hid (Cells wr w.heap.size (chi 40 fun j => P j || Q j)) := by
        show Cells _ _ _
        rw [chi_congr (Q := fun j => P j || (Q j && decide (j < k))) (fun j hj => by
          have : decide (j < k) = true := by simp; omega
          rw [this, Bool.and_true])]
        exact hc.out
      have HC2 : Hid (Cells (wr.setCells (w.heap.size + 1 + 1) 0 (chi 40 fun j => P j || Q j)) (w.heap.size + 1 + 1) (chi 40 fun j => P j || Q j)) := hc2.out.put (by rw [chi_len, chi_len])
      have HCL : Hid ((chi 40 fun j => P j || Q j).length = 40) := chi_len _ _
      have HCO : Hid (∀ v ∈ (chi 40 fun j => P j || Q j), v.oneCell' = true) := chi_one _ _
      have hki : ¬ (k : Int) < 40 := by omega
      have hb2 : Below w.heap.size w (wr.setCells (w.heap.size + 1 + 1) 0 (chi 40 fun j => P j || Q j)) := below_setCells (by omega) _ _ hb
      clear hb hc
      generalize hcs : (chi 40 fun j => P j || Q j) = cs at *
      have HCS : Hid ((chi 40 fun j => P j || Q j) = cs) := hcs
      clear hcs
      go_wp2_with (first
        | (with_reducible refine wpList_load_mid rfl 132 (.tmp 2) rfl w.heap.size 0 (by simp [Act.eval, Act.put]) cs _ HC0.out.range Tryz.underlying132 rfl (by rw [infoS, HCL.out]) ?_)
        | (with_reducible refine wpList_store_mid rfl 132 (.tmp 4) (.tmp 21) rfl (w.heap.size + 1 + 1) 0 cs.toArray (by simp [Act.eval, Act.put]) (by simp [Act.eval, Act.put]) (hc2.out.there (by rw [chi_len]; simpa using HCL.out)) (by rw [infoS]; simpa using HCL.out.symm) (all_oneCell_toArray HCO.out) ?_))
      (try simp only [Exit.inBlock, Exit.then])
      refine bodyPost_ret (ret_cell rfl rfl HC2.out.range Tryz.underlying132 rfl (by rw [infoS, HCL.out])) rfl ?_
      exact ⟨by rw [HCS.out], hb2⟩
end Pg
end Go.Proofs.YtinanjjhkddikaaGreat

/- Contracts: both sides' Nexts. -/
namespace Go.Proofs.YtinanjjhkddikaaGreat
namespace Pg
open Go.ChangeShapes Go.WideShapes Go.ChangeAt Go.RowKit St

/-- Is it a place of code that is right? -/
def atB (l : List Tx.Ins) (n : Int) : Bool := Lay.codeOk l && (decide (0 ≤ n) && decide (n < (l.length : Int)))
def nexA (l : List Tx.Ins) (n : Int) : List Int := if atB l n then risL (nxB l n.toNat) 40 else []
theorem nexA_len (l : List Tx.Ins) (n : Int) : (nexA l n).length ≤ 41 := by
  unfold nexA
  split
  · have := risL_len (nxB l n.toNat) 40; omega
  · simp
theorem nextsF_rise (code : List Tx.Ins) (k : Nat) : Rise (nextsF code k) := by
  unfold nextsF
  dsimp only
  have h : ∀ b : Bool, Rise (if b = true then [(k : Int) + 1] else []) := fun b => by cases b <;> simp
  by_cases hc : (insF code k).1 ≠ 11 ∧ (insF code k).1 ≠ 20 ∧ k + 1 < code.length
  · rw [if_pos hc]
    split
    · exact putL_rise (by simp) _
    · simp
  · rw [if_neg hc]
    split
    · exact putL_rise (by simp) _
    · simp
theorem nextsF_mem {code : List Tx.Ins} (hok : Lay.codeOk code = true) {k : Nat} (hk : k < code.length) (x : Int) : x ∈ nextsF code k ↔ ∃ j : Nat, nxB code k j = true ∧ x = (j : Int) := by
  have hj := fun h => jump_in hok hk h
  unfold nextsF nxB waysF
  dsimp only
  generalize insF code k = i at *
  obtain ⟨op, A, B⟩ := i
  dsimp only at *
  by_cases h20 : op = 20
  · subst h20; simp
  · by_cases h11 : op = 11
    · subst h11
      obtain ⟨a0, a1⟩ := hj (.inl rfl)
      simp [mem_putL]
      constructor
      · rintro rfl; exact ⟨x.toNat, by omega, by omega⟩
      · rintro ⟨j, h1, h2⟩; omega
    · by_cases h12 : op = 12
      · subst h12
        obtain ⟨a0, a1⟩ := hj (.inr rfl)
        by_cases hl : k + 1 < code.length
        · simp [mem_putL, hl]
          constructor
          · rintro (rfl | rfl)
            · exact ⟨k + 1, ⟨.inr rfl, hl⟩, by omega⟩
            · exact ⟨x.toNat, ⟨.inl rfl, by omega⟩, by omega⟩
          · rintro ⟨j, ⟨h1 | h1, h2⟩, h3⟩
            · right; omega
            · left; omega
        · simp [mem_putL, hl]
          constructor
          · rintro rfl; exact ⟨x.toNat, ⟨.inl rfl, by omega⟩, by omega⟩
          · rintro ⟨j, ⟨h1 | h1, h2⟩, h3⟩ <;> omega
      · by_cases hl : k + 1 < code.length
        · simp [h20, h11, h12, hl]
          constructor
          · rintro rfl; exact ⟨k + 1, ⟨rfl, hl⟩, by omega⟩
          · rintro ⟨j, ⟨h1, h2⟩, h3⟩; omega
        · simp [h20, h11, h12, hl]
theorem nexts_ris {code : List Tx.Ins} (hok : Lay.codeOk code = true) {k : Nat} (hk : k < code.length) : nextsF code k = risL (nxB code k) 40 := by
  have hl := (Lay.ok_len hok).2
  refine rise_ext (nextsF_rise code k) (risL_rise _ _) fun x => ?_
  rw [nextsF_mem hok hk, risL_mem]
  constructor
  · rintro ⟨j, h, e⟩
    refine ⟨j, ?_, h, e⟩
    unfold nxB at h
    simp only [Bool.and_eq_true, decide_eq_true_eq] at h
    omega
  · rintro ⟨j, _, h, e⟩; exact ⟨j, h, e⟩

end Pg
end Go.Proofs.YtinanjjhkddikaaGreat

/- Contracts: leaders, on both sides. -/
namespace Go.Proofs.YtinanjjhkddikaaGreat
namespace Pg
open Go.ChangeShapes Go.WideShapes Go.ChangeAt Go.RowKit St

theorem Cells.only {b k : Nat} {u v : World} {vs : List Value} (h : Cells u k vs) (ho : Only b u v) (hne : k ≠ b) : Cells v k vs := fun i x hx => by
  obtain ⟨h1, h2⟩ := h i x hx
  have hbk := ho.block k hne
  exact ⟨(World.cell?_of_block (w := u) hbk).trans h1, (World.frozen?_of_block (w := u) hbk).trans h2⟩
theorem Lst.form {w : World} {v : Value} {l : List Int} (h : Lst w v l) : ∃ g c, v = .slice (some ⟨g, 0, none⟩) l.length c := by
  obtain ⟨g, c, hv, _⟩ := h
  exact ⟨g, c, hv⟩
theorem Cells.lt {k : Nat} {u : World} {x : Value} {vs : List Value} (h : Cells u k (x :: vs)) : k < u.heap.size := cell_lt (h 0 x rfl).1
theorem Cells.lt' {k n : Nat} {u : World} {P : Nat → Bool} (h : Cells u k (chi n P)) (hn : 0 < n) : k < u.heap.size := cell_lt (h 0 _ (chi_at P hn)).1

/-- What step i makes a leader. -/
def endB (op : Int) : Bool := Lay.jumpB op || decide (op = 20)
def ld1 (code : List Tx.Ins) (i j : Nat) : Bool :=
  (Lay.jumpB (insF code i).1 && (decide ((insF code i).2.1 = (j : Int)) && decide (j < code.length))) || (endB (insF code i).1 && (decide ((i : Int) + 1 = (j : Int)) && decide (j < code.length)))
def ldB (code : List Tx.Ins) : Nat → Nat → Bool
  | 0, j => decide (j = 0)
  | k + 1, j => ldB code k j || ld1 code k j
def ldS (code : List Tx.Ins) (i : Nat) (l : List Int) : List Int :=
  let b := if Lay.jumpB (insF code i).1 then putL l (insF code i).2.1 else l
  if endB (insF code i).1 && decide (i + 1 < code.length) then putL b ((i : Int) + 1) else b
def ldL (code : List Tx.Ins) : Nat → List Int
  | 0 => [0]
  | k + 1 => ldS code k (ldL code k)
theorem ldL_rise (code : List Tx.Ins) : ∀ k, Rise (ldL code k)
  | 0 => by simp [ldL]
  | k + 1 => by
    have h := ldL_rise code k
    have h1 : Rise (if Lay.jumpB (insF code k).1 then putL (ldL code k) (insF code k).2.1 else ldL code k) := by split; exact putL_rise h _; exact h
    unfold ldL ldS
    dsimp only
    split
    · exact putL_rise h1 _
    · exact h1
theorem ldL_len (code : List Tx.Ins) : ∀ k, (ldL code k).length ≤ 2 * k + 1
  | 0 => by simp [ldL]
  | k + 1 => by
    have h := ldL_len code k
    have h1 : (if Lay.jumpB (insF code k).1 then putL (ldL code k) (insF code k).2.1 else ldL code k).length ≤ 2 * k + 2 := by
      split
      · have := putL_len (ldL code k) (insF code k).2.1; omega
      · omega
    unfold ldL ldS
    dsimp only
    split
    · have := putL_len (if Lay.jumpB (insF code k).1 then putL (ldL code k) (insF code k).2.1 else ldL code k) ((k : Int) + 1); omega
    · omega
theorem ldL_mem {code : List Tx.Ins} (hok : Lay.codeOk code = true) : ∀ k, k ≤ code.length → ∀ x, x ∈ ldL code k ↔ ∃ j : Nat, ldB code k j = true ∧ x = (j : Int)
  | 0, _, x => by
    simp only [ldL, ldB, List.mem_singleton, decide_eq_true_eq]
    constructor
    · rintro rfl; exact ⟨0, rfl, rfl⟩
    · rintro ⟨j, rfl, rfl⟩; rfl
  | k + 1, hk, x => by
    have ih := ldL_mem hok k (by omega) x
    have hj := fun h => jump_in hok (k := k) (by omega) h
    unfold ldL ldS ldB ld1
    dsimp only
    generalize insF code k = i at *
    obtain ⟨op, A, B⟩ := i
    dsimp only at *
    have hm : x ∈ (if Lay.jumpB op then putL (ldL code k) A else ldL code k) ↔ ∃ j : Nat, (ldB code k j || (Lay.jumpB op && (decide (A = (j : Int)) && decide (j < code.length)))) = true ∧ x = (j : Int) := by
      by_cases hjb : Lay.jumpB op = true
      · obtain ⟨a0, a1⟩ := hj (by unfold Lay.jumpB at hjb; simpa using hjb)
        rw [if_pos hjb, mem_putL, ih]
        simp only [hjb, Bool.true_and, Bool.or_eq_true, Bool.and_eq_true, decide_eq_true_eq]
        constructor
        · rintro (⟨j, h1, h2⟩ | rfl)
          · exact ⟨j, .inl h1, h2⟩
          · exact ⟨x.toNat, .inr ⟨by omega, by omega⟩, by omega⟩
        · rintro ⟨j, h1 | ⟨h1, h2⟩, h3⟩
          · exact .inl ⟨j, h1, h3⟩
          · right; omega
      · rw [if_neg hjb, ih]
        simp only [Bool.not_eq_true] at hjb
        simp only [hjb, Bool.false_and, Bool.or_false]
    by_cases he : (endB op && decide (k + 1 < code.length)) = true
    · rw [if_pos he, mem_putL, hm]
      simp only [Bool.and_eq_true, decide_eq_true_eq] at he
      simp only [he.1, Bool.true_and, Bool.or_eq_true, Bool.and_eq_true, decide_eq_true_eq]
      constructor
      · rintro (⟨j, h1, h2⟩ | rfl)
        · rcases h1 with h1 | h1
          · exact ⟨j, .inl h1, h2⟩
          · exact ⟨j, .inr (.inl h1), h2⟩
        · exact ⟨k + 1, .inr (.inr ⟨by omega, he.2⟩), by omega⟩
      · rintro ⟨j, h1 | h1 | ⟨h1, h2⟩, h3⟩
        · exact .inl ⟨j, .inl h1, h3⟩
        · exact .inl ⟨j, .inr h1, h3⟩
        · right; omega
    · rw [if_neg he, hm]
      constructor
      · rintro ⟨j, h1, h2⟩
        refine ⟨j, ?_, h2⟩
        rw [← Bool.or_assoc, h1, Bool.true_or]
      · rintro ⟨j, h1, h2⟩
        refine ⟨j, ?_, h2⟩
        rw [← Bool.or_assoc, Bool.or_eq_true] at h1
        rcases h1 with h1 | h1
        · exact h1
        · exfalso
          apply he
          simp only [Bool.and_eq_true, decide_eq_true_eq] at h1 ⊢
          exact ⟨h1.1, by omega⟩
theorem ld_ris {code : List Tx.Ins} (hok : Lay.codeOk code = true) : ldL code code.length = risL (ldB code code.length) 40 := by
  have hl := Lay.ok_len hok
  have hb : ∀ k j, k ≤ code.length → ldB code k j = true → j < code.length := by
    intro k
    induction k with
    | zero => intro j _ h; simp [ldB] at h; omega
    | succ k ih =>
      intro j hk h
      simp only [ldB, ld1, Bool.or_eq_true, Bool.and_eq_true, decide_eq_true_eq] at h
      rcases h with h | h | h
      · exact ih j (by omega) h
      · exact h.2.2
      · exact h.2.2
  refine rise_ext (ldL_rise code _) (risL_rise _ _) fun x => ?_
  rw [ldL_mem hok _ (Nat.le_refl _), risL_mem]
  constructor
  · rintro ⟨j, h, e⟩; exact ⟨j, by have := hb _ j (Nat.le_refl _) h; omega, h, e⟩
  · rintro ⟨j, _, h, e⟩; exact ⟨j, h, e⟩
def ldrA (l : List Tx.Ins) : List Int := if Lay.codeOk l then risL (ldB l l.length) 40 else []
theorem ldrA_len (l : List Tx.Ins) : (ldrA l).length ≤ 41 := by
  unfold ldrA
  split
  · have := risL_len (ldB l l.length) 40; omega
  · simp

end Pg
end Go.Proofs.YtinanjjhkddikaaGreat

/- Contracts: what is reached, on both sides. -/
namespace Go.Proofs.YtinanjjhkddikaaGreat
namespace Pg
open Go.ChangeShapes Go.WideShapes Go.ChangeAt Go.RowKit St

inductive Rch (code : List Tx.Ins) : Nat → Prop
  | zero : Rch code 0
  | step {a j : Nat} : Rch code a → nxB code a j = true → Rch code j
open Classical in
noncomputable def rchB (code : List Tx.Ins) (j : Nat) : Bool := decide (Rch code j)
theorem rchB_iff {code : List Tx.Ins} {j : Nat} : rchB code j = true ↔ Rch code j := by simp [rchB]
theorem nxB_lt {code : List Tx.Ins} {a j : Nat} (h : nxB code a j = true) : j < code.length := by
  unfold nxB at h
  simp only [Bool.and_eq_true, decide_eq_true_eq] at h
  exact h.2
theorem Rch.lt {code : List Tx.Ins} (h0 : 0 < code.length) {j : Nat} (h : Rch code j) : j < code.length := by
  cases h with
  | zero => exact h0
  | step _ h => exact nxB_lt h
theorem Rch.least {code : List Tx.Ins} {S : Nat → Prop} (h0 : S 0) (hs : ∀ a, S a → ∀ j, nxB code a j = true → S j) {j : Nat} (h : Rch code j) : S j := by
  induction h with
  | zero => exact h0
  | step _ h ih => exact hs _ ih _ h

def cntS (n : Nat) (P : Nat → Bool) : Nat := (List.range n).countP P
theorem cnt_le (n : Nat) (P : Nat → Bool) : cntS n P ≤ n := by
  have := List.countP_le_length (p := P) (l := List.range n)
  simpa [cntS] using this
theorem cnt_succ (n : Nat) (P : Nat → Bool) : cntS (n + 1) P = cntS n P + (if P n then 1 else 0) := by
  unfold cntS
  rw [List.range_succ, List.countP_append]
  cases h : P n <;> simp [h]
theorem cnt_mono {P Q : Nat → Bool} : ∀ {n : Nat}, (∀ j, j < n → P j = true → Q j = true) → cntS n P ≤ cntS n Q
  | 0, _ => by simp [cntS]
  | n + 1, h => by
    have ih := cnt_mono (n := n) fun j hj => h j (by omega)
    rw [cnt_succ, cnt_succ]
    cases hp : P n
    · simp; omega
    · rw [h n (by omega) hp]; simp; omega
theorem cnt_lt {P Q : Nat → Bool} : ∀ {n : Nat}, (∀ j, j < n → P j = true → Q j = true) → alike n Q P = false → cntS n P < cntS n Q
  | 0, _, h => by simp [alike] at h
  | n + 1, h, hne => by
    rw [cnt_succ, cnt_succ]
    cases ha : alike n Q P
    · have ih := cnt_lt (n := n) (fun j hj => h j (by omega)) ha
      cases hp : P n
      · simp; omega
      · rw [h n (by omega) hp]; simp; omega
    · have hm := cnt_mono (n := n) fun j hj => h j (by omega)
      have hdiff : Q n ≠ P n := by
        intro e
        have : alike (n + 1) Q P = true := alike_iff.2 fun j hj => by
          rcases Nat.lt_or_ge j n with h1 | h1
          · exact alike_iff.1 ha j h1
          · rw [show j = n by omega]; exact e
        rw [this] at hne; simp at hne
      cases hp : P n
      · cases hq : Q n
        · rw [hp, hq] at hdiff; simp at hdiff
        · simp; omega
      · rw [h n (by omega) hp, hp] at hdiff; simp at hdiff
/-- Where the program stands in a round: P what was there when it began, Q by now. -/
structure Swp9 (code : List Tx.Ins) (P Q : Nat → Bool) (k : Nat) : Prop where
  up : ∀ j, P j = true → Q j = true
  sub : ∀ j, Q j = true → Rch code j
  zero : P 0 = true
  done : ∀ a, a < k → P a = true → ∀ j, nxB code a j = true → Q j = true
theorem Swp9.yes {code : List Tx.Ins} {P Q : Nat → Bool} {k : Nat} (h : Swp9 code P Q k) (hk : Q k = true) : Swp9 code P (fun j => Q j || nxB code k j) (k + 1) :=
  ⟨fun j hj => by rw [h.up j hj, Bool.true_or], fun j hj => by
    rw [Bool.or_eq_true] at hj
    rcases hj with hj | hj
    · exact h.sub j hj
    · exact .step (h.sub k hk) hj, h.zero, fun a ha hp j hj => by
    rcases Nat.lt_or_ge a k with h1 | h1
    · rw [h.done a h1 hp j hj, Bool.true_or]
    · rw [show a = k by omega] at hj
      rw [hj, Bool.or_true]⟩
theorem Swp9.no {code : List Tx.Ins} {P Q : Nat → Bool} {k : Nat} (h : Swp9 code P Q k) (hk : Q k = false) : Swp9 code P Q (k + 1) :=
  ⟨h.up, h.sub, h.zero, fun a ha hp j hj => by
    rcases Nat.lt_or_ge a k with h1 | h1
    · exact h.done a h1 hp j hj
    · rw [show a = k by omega] at hp
      rw [h.up k hp] at hk; simp at hk⟩
theorem Swp9.ends {code : List Tx.Ins} (hok : Lay.codeOk code = true) {P Q : Nat → Bool} (h : Swp9 code P Q code.length) (ha : alike 40 Q P = true) : chi 40 Q = chi 40 (rchB code) := by
  have hl := Lay.ok_len hok
  refine chi_congr fun j hj => ?_
  rw [Bool.eq_iff_iff, rchB_iff]
  refine ⟨h.sub j, fun hr => ?_⟩
  have key : Q j = true ∧ j < code.length := by
    refine Rch.least (S := fun j => Q j = true ∧ j < code.length) ⟨h.up 0 h.zero, hl.1⟩ ?_ hr
    rintro a ⟨h1, h2⟩ j hj
    refine ⟨h.done a h2 ?_ j hj, nxB_lt hj⟩
    rw [← alike_iff.1 ha a (by omega)]; exact h1
  exact key.1

theorem stepLoad {w : World} {ops : Array Oper} {o : Oper} {a : Act} {K : Act → World → Prop} {Q : Exit → Act → World → Prop} {E : Prop} (hgd : o.guard = none) (ty : TypeId) (x : Operand) (ho : o.op = .load ty x)
    (b of : Nat) (hx : a.eval x = .pointer (some ⟨b, of, none⟩)) (cs : List Value) (d : TypeDesc) (hc : w.rangeAt b of cs)
    (hu : Tryz.prog.underlying ty = some d) (hd : d.isRow = true) (hi : (Tryz.prog.info? ty).map (·.size) = some cs.length)
    (h : K (a.put o.dst (.agg cs.toArray)) w) : if Region.wanted o (yielded ops a.tmps) = true then Oper.wp Tryz.prog o a w K Q else E := by
  have hw : Region.wanted o (yielded ops a.tmps) = true := by simp [Region.wanted, hgd]
  rw [if_pos hw]
  exact wp_load_mid ty x ho b of hx cs d hc hu hd hi h
theorem stepStore {w : World} {ops : Array Oper} {o : Oper} {a : Act} {K : Act → World → Prop} {Q : Exit → Act → World → Prop} {E : Prop} (hgd : o.guard = none) (ty : TypeId) (x y : Operand) (ho : o.op = .store ty x y)
    (b of : Nat) (cells : Array Value) (hx : a.eval x = .pointer (some ⟨b, of, none⟩)) (hy : a.eval y = .agg cells)
    (ht : w.there b of cells.size) (hi : (Tryz.prog.info? ty).map (·.size) = some cells.size) (h1 : cells.all (·.oneCell') = true)
    (h : K (a.put o.dst undef) (w.setCells b of cells.toList)) : if Region.wanted o (yielded ops a.tmps) = true then Oper.wp Tryz.prog o a w K Q else E := by
  have hw : Region.wanted o (yielded ops a.tmps) = true := by simp [Region.wanted, hgd]
  rw [if_pos hw]
  exact wp_store_mid ty x y ho b of cells hx hy ht hi h1 h

set_option maxRecDepth 100000 in
set_option maxHeartbeats 4000000 in
theorem reachedIn_at (g yc : Nat) (code : List Tx.Ins) (hok : Lay.codeOk code = true) (w : World) (hrow : Row w g 0 code) :
    Calls Tryz.prog 93 #[.slice (some ⟨g, 0, none⟩) code.length yc] w fun e w' => e = .returned (.agg (chi 40 (rchB code)).toArray) ∧ Below w.heap.size w w' := by
  have hl40 := (Lay.ok_len hok).2
  have lg : g < w.heap.size := cell_lt (hrow 0 _ (ins_is (Lay.ok_len hok).1)).1
  have HR : Hid (Row w g 0 code) := hrow
  have HOK : Hid (Lay.codeOk code = true) := hok
  obtain ⟨W, hW⟩ : ∃ W, W = (w.alloc (.cells (chi 40 fun _ => false).toArray 132)).alloc (.cells (chi 40 fun _ => false).toArray 132) := ⟨_, rfl⟩
  have hwW : Below w.heap.size w W := by rw [hW]; exact ((Below.refl _ _).alloc (Nat.le_refl _) _).alloc (by simp) _
  have C0 : Hid (Cells W w.heap.size (chi 40 fun _ => false)) := by show Cells _ _ _; rw [hW]; exact (Cells.new w _ rfl _ _).alloc _
  have C1 : Hid (Cells W (w.heap.size + 1) (chi 40 fun _ => false)) := by show Cells _ _ _; rw [hW]; exact Cells.new (w.alloc _) _ (by simp) _ _
  have C1L : Hid (Cells ((w.alloc (.cells (chi 40 fun _ => false).toArray 132)).alloc (.cells (chi 40 fun _ => false).toArray 132)) (w.heap.size + 1) (chi 40 fun _ => false)) := Cells.new (w.alloc _) _ (by simp) _ _
  have HW : Hid (W = (w.alloc (.cells (chi 40 fun _ => false).toArray 132)).alloc (.cells (chi 40 fun _ => false).toArray 132)) := hW
  clear hW hrow hok
  have HCO : Hid (∀ v ∈ (chi 40 fun j => decide (j = 0)), v.oneCell' = true) := chi_one _ _
  go_enter Tryz.func93, Tryz.ntmps93
  go_wp2_with (first
    | (with_reducible refine wpList_alloc_chi rfl 132 rfl 40 zeroS ?_)
    | (with_reducible refine wpList_build_chi rfl 132 rfl 40 (by decide) Tryz.underlying132 zeroS ?_)
    | (with_reducible refine wpList_store_mid rfl 132 (.tmp 3) (.tmp 6) rfl (w.heap.size + 1) 0 (chi 40 fun j => decide (j = 0)).toArray (by simp [Act.eval, Act.put]) (by simp [Act.eval, Act.put]) (C1L.out.there (by simp [chi_len])) (by rw [infoS]; simp [chi_len]) (all_oneCell_toArray HCO.out) ?_))
  rw [← HW.out]
  clear HW C1L
  have D0 : Hid (Cells (W.setCells (w.heap.size + 1) 0 (chi 40 fun j => decide (j = 0))) w.heap.size (chi 40 fun _ => false)) := C0.out.putFar _ (by omega)
  have D1 : Hid (Cells (W.setCells (w.heap.size + 1) 0 (chi 40 fun j => decide (j = 0))) (w.heap.size + 1) (chi 40 fun j => decide (j = 0))) := C1.out.put (by rw [chi_len, chi_len])
  have hbD : Below w.heap.size w (W.setCells (w.heap.size + 1) 0 (chi 40 fun j => decide (j = 0))) := below_setCells (by omega) _ _ hwW
  clear C0 C1 hwW HCO
  generalize W.setCells (w.heap.size + 1) 0 (chi 40 fun j => decide (j = 0)) = X at *
  go_loopg [] 40 (fun n wr => ∃ P : Nat → Bool, Hid (40 ≤ cntS 40 P + n) ∧ Hid (P 0 = true ∧ ∀ j, P j = true → Rch code j) ∧ Hid (Cells wr w.heap.size (chi 40 fun _ => false)) ∧ Hid (Cells wr (w.heap.size + 1) (chi 40 P)) ∧ Below w.heap.size w wr)
  case atStart => exact ⟨fun j => decide (j = 0), Nat.le_add_left _ _, ⟨rfl, fun j hj => by rw [of_decide_eq_true hj]; exact .zero⟩, D0.out, D1.out, hbD⟩
  case round =>
    clear D0 D1 hbD
    obtain ⟨P, hn, hP, hc0, hc1, hb⟩ := hrel
    have hz : w.heap.size + 1 < wr.heap.size := hc1.out.lt' (by decide)
    obtain ⟨bb, hbb⟩ : ∃ bb, bb = wr.heap.size := ⟨_, rfl⟩
    have CB : Hid (Cells (wr.alloc (.cells (chi 40 fun _ => false).toArray 132)) wr.heap.size (chi 40 fun _ => false)) := Cells.new wr _ rfl _ _
    have B0 : Hid (Cells ((wr.alloc (.cells (chi 40 fun _ => false).toArray 132)).setCells wr.heap.size 0 (chi 40 P)) w.heap.size (chi 40 fun _ => false)) := (hc0.out.alloc _).putFar _ (by omega)
    have B1 : Hid (Cells ((wr.alloc (.cells (chi 40 fun _ => false).toArray 132)).setCells wr.heap.size 0 (chi 40 P)) (w.heap.size + 1) (chi 40 P)) := (hc1.out.alloc _).putFar _ (by omega)
    have BB : Hid (Cells ((wr.alloc (.cells (chi 40 fun _ => false).toArray 132)).setCells wr.heap.size 0 (chi 40 P)) wr.heap.size (chi 40 P)) := CB.out.put (by rw [chi_len, chi_len])
    have hbB : Below w.heap.size w ((wr.alloc (.cells (chi 40 fun _ => false).toArray 132)).setCells wr.heap.size 0 (chi 40 P)) := below_setCells (by omega) _ _ (hb.alloc hb.size _)
    have HPC : Hid (∀ v ∈ chi 40 P, v.oneCell' = true) := chi_one _ _
    go_wp2_with (first
      | (with_reducible refine wpList_alloc_chi rfl 132 rfl 40 zeroS ?_)
      | (with_reducible refine wpList_load_mid rfl 132 (.tmp 3) rfl (w.heap.size + 1) 0 (by simp [Act.eval]) (chi 40 P) _ hc1.out.range Tryz.underlying132 rfl (by rw [infoS, chi_len]) ?_)
      | (with_reducible refine wpList_store_mid rfl 132 (.tmp 4) (.tmp 7) rfl wr.heap.size 0 (chi 40 P).toArray (by simp [Act.eval, Act.put]) (by simp [Act.eval, Act.put]) (CB.out.there (by simp [chi_len])) (by rw [infoS]; simp [chi_len]) (all_oneCell_toArray HPC.out) ?_))
    generalize (wr.alloc (.cells (chi 40 fun _ => false).toArray 132)).setCells wr.heap.size 0 (chi 40 P) = Y at *
    rw [← hbb] at BB ⊢
    have hzb : w.heap.size + 1 < bb := by rw [hbb]; exact hz
    clear hbb hc0 hc1 hb CB HPC hz
    have HS0 : Hid (Swp9 code P P 0) := ⟨fun _ h => h, hP.out.2, hP.out.1, fun a ha => by omega⟩
    go_loopw [10] (fun i wr => ∃ (k : Nat) (Q : Nat → Bool), k ≤ code.length ∧ i = .int .i64 k ∧ Hid (Cells wr w.heap.size (chi 40 fun _ => false)) ∧ Hid (Cells wr (w.heap.size + 1) (chi 40 Q)) ∧ Hid (Cells wr bb (chi 40 P)) ∧ Hid (Swp9 code P Q k) ∧ Below w.heap.size w wr) (fun i _ => code.length - (intOf i).toNat)
    case atStart => exact ⟨0, P, Nat.zero_le _, rfl, B0.out, B1.out, BB.out, HS0.out, hbB⟩
    case round =>
      clear B0 B1 BB HS0 hbB
      obtain ⟨k, Q, hk, rfl, hc0, hc1, hcb, hsw, hb⟩ := hrel
      by_cases hlt : k < code.length
      · have hki : (k : Int) < (code.length : Int) := by omega
        have hk40 : (k : Int) < 40 := by omega
        obtain ⟨c0, _⟩ := hc1.out k _ (chi_at Q (by omega))
        cases hq : Q k
        · rw [hq] at c0
          have HSWN : Hid (Swp9 code P Q (k + 1)) := hsw.out.no hq
          clear hq hsw
          go_wp2
          go_roundw
          case rel => exact ⟨k + 1, Q, by omega, by go_num, hc0.out, hc1.out, hcb.out, HSWN.out, hb⟩
          case measure => simp [intOf]; omega
        · rw [hq] at c0
          have HSWY : Hid (Swp9 code P (fun j => Q j || nxB code k j) (k + 1)) := hsw.out.yes hq
          clear hq hsw
          go_wp2_with fail
          clear c0
          have hD0 : Below wr.heap.size wr wr.drew := (Below.refl _ _).drew
          refine wp_region_held_drew (S := fun _ => True) (by kernel_rfl) trivial (fun hHeld => ?_)
          generalize wr.drew = Q0 at hD0 hHeld ⊢
          refine wpAnyH_take (i := 1) (v := ?_) rfl (by kernel_rfl) (by kernel_rfl) (by kernel_rfl) (fun _ _ _ h => h) (Or.inl ⟨by rfl, ?_⟩) hHeld ?_
          rotate_left 1
          · intro w' hSw
            go_simp
            try with_reducible rfl
          simp only [Act.put]
          refine wpAnyH_take (i := 2) (v := ?_) rfl (by kernel_rfl) (by kernel_rfl) (by kernel_rfl) (fun _ _ _ h => h) (Or.inl ⟨by rfl, ?_⟩) hHeld ?_
          rotate_left 1
          · intro w' hSw
            go_simp
            try with_reducible rfl
          simp only [Act.put]
          refine wpAnyH_ready (rs := [0, 3]) (by kernel_rfl) (by simp) ?_
          refine AllReadyH.cons rfl (fun K hK => ?_) (AllReadyH.cons rfl (fun K hK => ?_) AllReadyH.nil)
          · refine stepLoad rfl 132 (.tmp 3) rfl (w.heap.size + 1) 0 (by simp [Act.eval]) (chi 40 Q) _ (hc1.out.on hD0).range Tryz.underlying132 rfl (by rw [infoS, chi_len]) ?_
            simp only [Act.put]
            refine hK.out _ _ trivial (fun hHeld => ?_)
            clear hK K
            refine wpAnyH_ready (rs := [3]) (by kernel_rfl) (by simp) ?_
            refine AllReadyH.cons rfl (fun K hK => ?_) AllReadyH.nil
            go_simp
            refine (nextsIn_at g yc code HOK.out k hlt Q0 (HR.out.on (below_over hb hD0))).mono ?_
            rintro e Q1 ⟨rfl, hq1⟩
            have hR1 : Below wr.heap.size wr Q1 := below_over hD0 hq1
            clear hq1
            dsimp only
            refine hK.out _ _ trivial (fun hHeld => ?_)
            clear hK K
            refine wpAnyH_ready (rs := [4]) (by kernel_rfl) (by simp) ?_
            refine AllReadyH.cons rfl (fun K hK => ?_) AllReadyH.nil
            go_simp
            refine (withS_at Q (nxB code k) Q1).mono ?_
            rintro e Q2 ⟨rfl, hq2⟩
            have hR2 : Below wr.heap.size wr Q2 := below_over hR1 hq2
            dsimp only
            refine hK.out _ _ trivial (fun hHeld => ?_)
            clear hK K
            have E0 : Hid (Cells Q2 w.heap.size (chi 40 fun _ => false)) := hc0.out.on hR2
            have E1 : Hid (Cells Q2 (w.heap.size + 1) (chi 40 Q)) := hc1.out.on hR2
            have EB : Hid (Cells Q2 bb (chi 40 P)) := hcb.out.on hR2
            have F0 : Hid (Cells (Q2.setCells (w.heap.size + 1) 0 (chi 40 fun j => Q j || nxB code k j)) w.heap.size (chi 40 fun _ => false)) := E0.out.putFar _ (by omega)
            have F1 : Hid (Cells (Q2.setCells (w.heap.size + 1) 0 (chi 40 fun j => Q j || nxB code k j)) (w.heap.size + 1) (chi 40 fun j => Q j || nxB code k j)) := E1.out.put (by rw [chi_len, chi_len])
            have FB : Hid (Cells (Q2.setCells (w.heap.size + 1) 0 (chi 40 fun j => Q j || nxB code k j)) bb (chi 40 P)) := EB.out.putFar _ (by omega)
            have hbF : Below w.heap.size w (Q2.setCells (w.heap.size + 1) 0 (chi 40 fun j => Q j || nxB code k j)) := below_setCells (by omega) _ _ (below_over hb hR2)
            refine wpAnyH_ready (rs := [5]) (by kernel_rfl) (by simp) ?_
            refine AllReadyH.cons rfl (fun K hK => ?_) AllReadyH.nil
            refine stepStore rfl 132 (.tmp 3) (.tmp 20) rfl (w.heap.size + 1) 0 (chi 40 fun j => Q j || nxB code k j).toArray (by simp [Act.eval]) (by simp [Act.eval]) (E1.out.there (by simp [chi_len])) (by rw [infoS]; simp [chi_len]) (all_oneCell_toArray (chi_one _ _)) ?_
            rw [List.toList_toArray]
            clear E0 E1 EB
            generalize Q2.setCells (w.heap.size + 1) 0 (chi 40 fun j => Q j || nxB code k j) = X at *
            simp only [Act.put]
            refine hK.out _ _ trivial (fun hHeld => ?_)
            clear hK K
            refine wpAnyH_done (by kernel_rfl) ?_ _
            clear hHeld hD0 hR1 hR2 hq2 hc0 hc1 hcb hb
            go_wp2
            go_roundw
            case rel => exact ⟨k + 1, _, by omega, by go_num, F0.out, F1.out, FB.out, HSWY.out, hbF⟩
            case measure => simp [intOf]; omega
          · go_simp
            refine (nextsIn_at g yc code HOK.out k hlt Q0 (HR.out.on (below_over hb hD0))).mono ?_
            rintro e Q1 ⟨rfl, hq1⟩
            have hR1 : Below wr.heap.size wr Q1 := below_over hD0 hq1
            clear hq1
            dsimp only
            refine hK.out _ _ trivial (fun hHeld => ?_)
            clear hK K
            refine wpAnyH_ready (rs := [0]) (by kernel_rfl) (by simp) ?_
            refine AllReadyH.cons rfl (fun K hK => ?_) AllReadyH.nil
            refine stepLoad rfl 132 (.tmp 3) rfl (w.heap.size + 1) 0 (by simp [Act.eval]) (chi 40 Q) _ (hc1.out.on hR1).range Tryz.underlying132 rfl (by rw [infoS, chi_len]) ?_
            simp only [Act.put]
            refine hK.out _ _ trivial (fun hHeld => ?_)
            clear hK K
            refine wpAnyH_ready (rs := [4]) (by kernel_rfl) (by simp) ?_
            refine AllReadyH.cons rfl (fun K hK => ?_) AllReadyH.nil
            go_simp
            refine (withS_at Q (nxB code k) Q1).mono ?_
            rintro e Q2 ⟨rfl, hq2⟩
            have hR2 : Below wr.heap.size wr Q2 := below_over hR1 hq2
            dsimp only
            refine hK.out _ _ trivial (fun hHeld => ?_)
            clear hK K
            have E0 : Hid (Cells Q2 w.heap.size (chi 40 fun _ => false)) := hc0.out.on hR2
            have E1 : Hid (Cells Q2 (w.heap.size + 1) (chi 40 Q)) := hc1.out.on hR2
            have EB : Hid (Cells Q2 bb (chi 40 P)) := hcb.out.on hR2
            have F0 : Hid (Cells (Q2.setCells (w.heap.size + 1) 0 (chi 40 fun j => Q j || nxB code k j)) w.heap.size (chi 40 fun _ => false)) := E0.out.putFar _ (by omega)
            have F1 : Hid (Cells (Q2.setCells (w.heap.size + 1) 0 (chi 40 fun j => Q j || nxB code k j)) (w.heap.size + 1) (chi 40 fun j => Q j || nxB code k j)) := E1.out.put (by rw [chi_len, chi_len])
            have FB : Hid (Cells (Q2.setCells (w.heap.size + 1) 0 (chi 40 fun j => Q j || nxB code k j)) bb (chi 40 P)) := EB.out.putFar _ (by omega)
            have hbF : Below w.heap.size w (Q2.setCells (w.heap.size + 1) 0 (chi 40 fun j => Q j || nxB code k j)) := below_setCells (by omega) _ _ (below_over hb hR2)
            refine wpAnyH_ready (rs := [5]) (by kernel_rfl) (by simp) ?_
            refine AllReadyH.cons rfl (fun K hK => ?_) AllReadyH.nil
            refine stepStore rfl 132 (.tmp 3) (.tmp 20) rfl (w.heap.size + 1) 0 (chi 40 fun j => Q j || nxB code k j).toArray (by simp [Act.eval]) (by simp [Act.eval]) (E1.out.there (by simp [chi_len])) (by rw [infoS]; simp [chi_len]) (all_oneCell_toArray (chi_one _ _)) ?_
            rw [List.toList_toArray]
            clear E0 E1 EB
            generalize Q2.setCells (w.heap.size + 1) 0 (chi 40 fun j => Q j || nxB code k j) = X at *
            simp only [Act.put]
            refine hK.out _ _ trivial (fun hHeld => ?_)
            clear hK K
            refine wpAnyH_done (by kernel_rfl) ?_ _
            clear hHeld hD0 hR1 hR2 hq2 hc0 hc1 hcb hb
            go_wp2
            go_roundw
            case rel => exact ⟨k + 1, _, by omega, by go_num, F0.out, F1.out, FB.out, HSWY.out, hbF⟩
            case measure => simp [intOf]; omega
      · obtain rfl : k = code.length := by omega
        have hki : ¬ (code.length : Int) < (code.length : Int) := by omega
        have heq := run_equal_chi Tryz.underlying132 Q P wr
        cases ha : alike 40 Q P
        · rw [ha] at heq
          have HLT : Hid (cntS 40 P < cntS 40 Q ∧ cntS 40 Q ≤ 40) := ⟨cnt_lt (fun j _ => hsw.out.up j) ha, cnt_le _ _⟩
          have HQ : Hid (Q 0 = true ∧ ∀ j, Q j = true → Rch code j) := ⟨hsw.out.up 0 hsw.out.zero, hsw.out.sub⟩
          clear ha hsw
          go_wp2_with (first
            | (with_reducible refine wpList_load_mid rfl 132 (.tmp 3) rfl (w.heap.size + 1) 0 (by simp [Act.eval, Act.put]) (chi 40 Q) _ hc1.out.range Tryz.underlying132 rfl (by rw [infoS, chi_len]) ?_)
            | (with_reducible refine wpList_load_mid rfl 132 (.tmp 4) rfl bb 0 (by simp [Act.eval, Act.put]) (chi 40 P) _ hcb.out.range Tryz.underlying132 rfl (by rw [infoS, chi_len]) ?_))
          go_roundg (gk - 1)
          case measure => have := HLT.out; have := hn.out; omega
          case rel => exact ⟨Q, by show _ ≤ _; have := HLT.out; have := hn.out; omega, HQ.out, hc0.out, hc1.out, hb⟩
        · rw [ha] at heq
          have HEND : Hid (chi 40 Q = chi 40 (rchB code)) := hsw.out.ends HOK.out ha
          clear ha hsw
          have HC1 : Hid (Cells wr (w.heap.size + 1) (chi 40 (Q))) := hc1.out
          clear hc1
          have HCL : Hid ((chi 40 (Q)).length = 40) := chi_len _ _
          have HCO : Hid (∀ v ∈ chi 40 (Q), v.oneCell' = true) := chi_one _ _
          have HC2 : Hid (Cells (wr.setCells w.heap.size 0 (chi 40 (Q))) w.heap.size (chi 40 (Q))) := hc0.out.put (by rw [chi_len, chi_len])
          have hb2 : Below w.heap.size w (wr.setCells w.heap.size 0 (chi 40 (Q))) := below_setCells (Nat.le_refl _) _ _ hb
          clear hb
          generalize hcs : chi 40 (Q) = cs at *
          have HCS : Hid (chi 40 (Q) = cs) := hcs
          clear hcs
          go_wp2_with (first
            | (with_reducible refine wpList_load_mid rfl 132 (.tmp 3) rfl (w.heap.size + 1) 0 (by simp [Act.eval]) cs _ HC1.out.range Tryz.underlying132 rfl (by rw [infoS, HCL.out]) ?_)
            | (with_reducible refine wpList_load_mid rfl 132 (.tmp 4) rfl bb 0 (by simp [Act.eval, Act.put]) (chi 40 P) _ hcb.out.range Tryz.underlying132 rfl (by rw [infoS, chi_len]) ?_)
            | (with_reducible refine wpList_store_mid rfl 132 (.tmp 2) (.tmp 25) rfl w.heap.size 0 cs.toArray (by simp [Act.eval, Act.put]) (by simp [Act.eval, Act.put]) (hc0.out.there (by rw [chi_len]; simpa using HCL.out)) (by rw [infoS]; simpa using HCL.out.symm) (all_oneCell_toArray HCO.out) ?_))
          (try simp only [Exit.inBlock, Exit.then])
          refine bodyPost_ret (ret_cell rfl rfl HC2.out.range Tryz.underlying132 rfl (by rw [infoS, HCL.out])) rfl ?_
          exact ⟨by rw [HEND.out], hb2⟩
end Pg
end Go.Proofs.YtinanjjhkddikaaGreat

/- Contracts: what is reached: both sides' Reached. -/
namespace Go.Proofs.YtinanjjhkddikaaGreat
namespace Pg
open Go.ChangeShapes Go.WideShapes Go.ChangeAt Go.RowKit St

theorem rise_sub : ∀ (r l : List Int), Rise l → Rise r → (∀ x ∈ l, x ∈ r) → l.Sublist r
  | _, [], _, _, _ => List.nil_sublist _
  | [], x :: l, _, _, h => absurd (h x List.mem_cons_self) (by simp)
  | y :: r, x :: l, hl, hr, h => by
    obtain ⟨a1, b1⟩ := List.pairwise_cons.1 hl
    obtain ⟨a2, b2⟩ := List.pairwise_cons.1 hr
    rcases List.mem_cons.1 (h x List.mem_cons_self) with e | e
    · subst e
      refine List.Sublist.cons_cons x (rise_sub r l b1 b2 fun z hz => ?_)
      rcases List.mem_cons.1 (h z (List.mem_cons_of_mem _ hz)) with e | e
      · have := a1 z hz; omega
      · exact e
    · have hyx := a2 x e
      refine (rise_sub r (x :: l) hl b2 fun z hz => ?_).cons y
      rcases List.mem_cons.1 (h z hz) with e' | e'
      · rcases List.mem_cons.1 hz with e2 | e2
        · omega
        · have := a1 z e2; omega
      · exact e'
theorem rise_len : ∀ (l : List Int) (a b : Int), Rise l → (∀ x ∈ l, a ≤ x ∧ x < b) → a ≤ b → (l.length : Int) ≤ b - a
  | [], a, b, _, _, hab => by simp; omega
  | x :: l, a, b, h, hx, _ => by
    obtain ⟨h1, h2⟩ := List.pairwise_cons.1 h
    have hxx := hx x List.mem_cons_self
    have := rise_len l (x + 1) b h2 (fun z hz => ⟨by have := h1 z hz; omega, (hx z (List.mem_cons_of_mem _ hz)).2⟩) (by omega)
    simp only [List.length_cons]
    omega
theorem put_take : ∀ {l : List Int} {n x : Int} {i : Nat}, Rise l → x ∈ (putL l n).take i → x ∈ l.take i ∨ (x = n ∧ n ∉ l)
  | [], n, x, i, _, h => by
    have := List.mem_of_mem_take h
    simp [putL] at this
    exact .inr ⟨this, by simp⟩
  | y :: l, n, x, 0, _, h => by simp at h
  | y :: l, n, x, i + 1, hr, h => by
    obtain ⟨h1, h2⟩ := List.pairwise_cons.1 hr
    unfold putL at h
    split at h
    · rename_i hy
      rw [List.take_succ_cons, List.mem_cons] at h
      rw [List.take_succ_cons, List.mem_cons, List.mem_cons]
      rcases h with h | h
      · exact .inl (.inl h)
      · rcases put_take h2 h with h | ⟨h, h'⟩
        · exact .inl (.inr h)
        · refine .inr ⟨h, fun e => ?_⟩
          rcases e with e | e
          · omega
          · exact h' e
    · split at h
      · exact .inl h
      · rename_i hy1 hy2
        rw [List.take_succ_cons, List.mem_cons] at h
        rcases h with h | h
        · refine .inr ⟨h, fun e => ?_⟩
          rcases List.mem_cons.1 e with e | e
          · omega
          · have := h1 n e; omega
        · exact .inl ((List.take_subset_take_left (y :: l) (Nat.le_succ i)) h)
theorem puts_take : ∀ (m : List Int) {l : List Int} {x : Int} {i : Nat}, Rise l → x ∈ (m.foldl putL l).take i → x ∈ l.take i ∨ x ∉ l
  | [], l, x, i, _, h => .inl h
  | n :: m, l, x, i, hr, h => by
    rw [List.foldl_cons] at h
    rcases puts_take m (putL_rise hr n) h with h | h
    · rcases put_take hr h with h | ⟨h, h'⟩
      · exact .inl h
      · rw [h]; exact .inr h'
    · exact .inr fun e => h (mem_putL.2 (.inl e))
theorem putL_ge (n : Int) : ∀ l : List Int, l.length ≤ (putL l n).length
  | [] => by simp [putL]
  | y :: l => by
    have := putL_ge n l
    unfold putL
    split
    · simp only [List.length_cons]; omega
    · split <;> simp
theorem puts_ge : ∀ (m l : List Int), l.length ≤ (m.foldl putL l).length
  | [], _ => Nat.le_refl _
  | n :: m, l => Nat.le_trans (putL_ge n l) (puts_ge m (putL l n))
/-- Where the specification stands: a list of some that are reached. -/
structure StR (code : List Tx.Ins) (out : List Int) : Prop where
  rise : Rise out
  zero : (0 : Int) ∈ out
  sub : ∀ x ∈ out, ∃ j : Nat, Rch code j ∧ x = (j : Int)
def ClosedL (code : List Tx.Ins) (out : List Int) : Prop := ∀ a : Nat, (a : Int) ∈ out → ∀ j, nxB code a j = true → (j : Int) ∈ out
structure MidR (code : List Tx.Ins) (o out : List Int) (i : Nat) : Prop where
  st : StR code out
  up : ∀ x ∈ o, x ∈ out
  done : ∀ a : Nat, (a : Int) ∈ o → (a : Int) ∈ out.take i → ∀ j, nxB code a j = true → (j : Int) ∈ out
theorem StR.len {code : List Tx.Ins} (hok : Lay.codeOk code = true) {out : List Int} (h : StR code out) : out.length ≤ code.length := by
  have := rise_len out 0 code.length h.rise (fun x hx => by
    obtain ⟨j, hj, rfl⟩ := h.sub x hx
    have := hj.lt (Lay.ok_len hok).1
    omega) (by omega)
  omega
theorem StR.start (code : List Tx.Ins) : StR code [0] := ⟨by simp, by simp, fun x hx => ⟨0, .zero, by simpa using hx⟩⟩
theorem MidR.start {code : List Tx.Ins} {out : List Int} (h : StR code out) : MidR code out out 0 := ⟨h, fun _ h => h, fun a _ h => by simp at h⟩
theorem MidR.step {code : List Tx.Ins} (hok : Lay.codeOk code = true) {o out : List Int} {i : Nat} (h : MidR code o out i) (hi : i < out.length) {c : Nat} (hc : out[i] = (c : Int)) :
    MidR code o ((nextsF code c).foldl putL out) (i + 1) := by
  have hcm : (c : Int) ∈ out := by rw [← hc]; exact List.getElem_mem hi
  obtain ⟨c', hrc, he⟩ := h.st.sub _ hcm
  obtain rfl : c = c' := by omega
  have hcl := hrc.lt (Lay.ok_len hok).1
  obtain ⟨hr, hm⟩ := foldl_put (nextsF code c) out h.st.rise
  refine ⟨⟨hr, (hm 0).2 (.inr h.st.zero), fun x hx => ?_⟩, fun x hx => (hm x).2 (.inr (h.up x hx)), fun a ha ht j hj => ?_⟩
  · rcases (hm x).1 hx with hx | hx
    · obtain ⟨j, h1, rfl⟩ := (nextsF_mem hok hcl x).1 hx
      exact ⟨j, .step hrc h1, rfl⟩
    · exact h.st.sub x hx
  · rcases puts_take _ h.st.rise ht with ht | ht
    · rw [List.take_succ_eq_append_getElem hi, List.mem_append, List.mem_singleton] at ht
      rcases ht with ht | ht
      · exact (hm _).2 (.inr (h.done a ha ht j hj))
      · rw [hc] at ht
        obtain rfl : a = c := by omega
        exact (hm _).2 (.inl ((nextsF_mem hok hcl _).2 ⟨j, hj, rfl⟩))
    · exact absurd (h.up _ ha) ht
theorem closed_all {code : List Tx.Ins} {out : List Int} (h : StR code out) (hc : ClosedL code out) {j : Nat} (hj : Rch code j) : (j : Int) ∈ out :=
  Rch.least (S := fun j => (j : Int) ∈ out) h.zero hc hj
/-- A round more. -/
theorem MidR.ends {code : List Tx.Ins} {o out : List Int} {i k : Nat} (h : MidR code o out i) (hi : ¬ i < out.length) (hs : StR code o) (hk : ClosedL code o ∨ k < o.length) : ClosedL code out ∨ k + 1 < out.length := by
  have hsub := rise_sub out o hs.rise h.st.rise h.up
  have hle := hsub.length_le
  have hdone : ∀ a : Nat, (a : Int) ∈ o → ∀ j, nxB code a j = true → (j : Int) ∈ out := fun a ha j hj => h.done a ha (by rw [List.take_of_length_le (by omega)]; exact h.up _ ha) j hj
  rcases Nat.lt_or_ge o.length out.length with hl | hl
  · rcases hk with hk | hk
    · left
      intro a ha j hj
      obtain ⟨a', hra, e⟩ := h.st.sub _ ha
      obtain rfl : a = a' := by omega
      exact h.up _ (closed_all hs hk (.step hra hj))
    · right; omega
  · have e := hsub.eq_of_length (by omega)
    left
    intro a ha
    exact hdone a (by rw [e]; exact ha)
theorem StR.ends {code : List Tx.Ins} (hok : Lay.codeOk code = true) {out : List Int} (h : StR code out) (hc : ClosedL code out ∨ code.length < out.length) : out = risL (rchB code) 40 := by
  have hl := Lay.ok_len hok
  have hcl : ClosedL code out := by
    rcases hc with hc | hc
    · exact hc
    · have := h.len hok; omega
  refine rise_ext h.rise (risL_rise _ _) fun x => ?_
  rw [risL_mem]
  constructor
  · intro hx
    obtain ⟨j, hj, rfl⟩ := h.sub x hx
    exact ⟨j, by have := hj.lt hl.1; omega, rchB_iff.2 hj, rfl⟩
  · rintro ⟨j, _, hj, rfl⟩
    exact closed_all h hcl (rchB_iff.1 hj)
set_option maxRecDepth 100000 in
set_option maxHeartbeats 4000000 in
theorem l9Reached_at (g yc : Nat) (code : List Tx.Ins) (hok : Lay.codeOk code = true) (w : World) (hrow : Row w g 0 code) :
    Calls Tryz.prog 44 #[.slice (some ⟨g, 0, none⟩) code.length yc] w fun e w' => ∃ v, e = .returned v ∧ Lst w' v (risL (rchB code) 40) ∧ Below w.heap.size w w' := by
  have hl40 := (Lay.ok_len hok).2
  have lg : g < w.heap.size := cell_lt (hrow 0 _ (ins_is (Lay.ok_len hok).1)).1
  have HR : Hid (Row w g 0 code) := hrow
  have HOK : Hid (Lay.codeOk code = true) := hok
  have HG0 : Hid (Lst (w.alloc (.cells #[.int .i64 0] 2)) (.slice (some ⟨w.heap.size, 0, none⟩) 1 1) [0]) := (grow_lit1 w 0).lst
  have hb0 : Below w.heap.size w (w.alloc (.cells #[.int .i64 0] 2)) := (Below.refl _ _).alloc (Nat.le_refl _) _
  clear hrow hok
  go_enter Tryz.func44, Tryz.ntmps44
  go_wp2_with fail
  go_loopw [3, 4] (fun v i wr => ∃ (k : Nat) (out : List Int), k ≤ code.length ∧ i = .int .i64 k ∧ Hid (StR code out) ∧ Hid (ClosedL code out ∨ k < out.length) ∧ Hid (Lst wr v out) ∧ Below w.heap.size w wr) (fun _ i _ => code.length - (intOf i).toNat)
  case atStart => exact ⟨0, [0], Nat.zero_le _, rfl, StR.start code, .inr (by simp), HG0.out, hb0⟩
  case round =>
    clear HG0 hb0
    obtain ⟨k, o, hk, rfl, hst, hcl, hls, hb⟩ := hrel
    obtain ⟨gv, cv, rfl⟩ := hls.out.form
    by_cases hlt : k < code.length
    · have hki : (k : Int) < (code.length : Int) := by omega
      go_wp2_with fail
      go_loopw [3, 5] (fun v i wr => ∃ (q : Nat) (out : List Int), q ≤ out.length ∧ i = .int .i64 q ∧ Hid (MidR code o out q) ∧ Hid (Lst wr v out) ∧ Below w.heap.size w wr) (fun _ i _ => 41 - (intOf i).toNat)
      case atStart => exact ⟨0, o, Nat.zero_le _, rfl, MidR.start hst.out, hls.out, hb⟩
      case round =>
        clear hls hb
        obtain ⟨q, out, hq, rfl, hmid, hls, hb⟩ := hrel
        have hlo := hmid.out.st.len HOK.out
        by_cases hqt : q < out.length
        · have hqi : (q : Int) < (out.length : Int) := by omega
          obtain ⟨gw, cw, rfl, hcw, hgw, hrw⟩ := hls.out
          have c0 := hrw q _ (List.getElem?_eq_getElem hqt)
          rw [Nat.zero_add] at c0
          obtain ⟨c, hrc, hce⟩ := hmid.out.st.sub _ (List.getElem_mem hqt)
          have hcc : c < code.length := hrc.lt (Lay.ok_len HOK.out).1
          have HMN : Hid (MidR code o ((nextsF code c).foldl putL out) (q + 1)) := hmid.out.step HOK.out hqt hce
          rw [hce] at c0
          clear hce hrw hrc hmid
          go_wp2_with fail
          refine (l9Nexts_at g yc code (by omega) c hcc wr (HR.out.on hb)).mono ?_
          rintro e w2 ⟨v2, rfl, hls2, hb2⟩
          obtain ⟨gn, cn, rfl, hcn, hgn, hrn⟩ := hls2
          have HLO : Hid (Lst w2 (.slice (some ⟨gw, 0, none⟩) out.length cw) out) := hls.out.on hb2
          have HRN : Hid (IRow w2 gn 0 (nextsF code c)) := hrn
          have hw2 : Below w.heap.size w w2 := below_over hb hb2
          have hn40 : (nextsF code c).length ≤ 41 := by rw [nexts_ris HOK.out hcc]; have := risL_len (nxB code c) 40; omega
          clear hb2 hrn hls hb c0 hcw hgw
          generalize nextsF code c = ns at *
          go_wp2_with fail
          go_loopw [3, 7] (fun v i wr => ∃ (m : Nat), m ≤ ns.length ∧ i = .int .i64 m ∧ Hid (Lst wr v ((ns.take m).foldl putL out)) ∧ Below w2.heap.size w2 wr) (fun _ i _ => ns.length - (intOf i).toNat)
          case atStart => exact ⟨0, Nat.zero_le _, rfl, HLO.out, Below.refl _ _⟩
          case round =>
            clear HLO
            obtain ⟨m, hm, rfl, hls, hb⟩ := hrel
            by_cases hmt : m < ns.length
            · have hmi : (m : Int) < (ns.length : Int) := by omega
              have c0 := (HRN.out.on hb) m _ (List.getElem?_eq_getElem hmt)
              rw [Nat.zero_add] at c0
              have HFO : Hid ((ns.take (m + 1)).foldl putL out = putL ((ns.take m).foldl putL out) ns[m]) := by
                show _ = _
                rw [List.take_succ_eq_append_getElem hmt, List.foldl_append]; rfl
              have hfl := foldl_put_len (ns.take m) out
              rw [List.length_take] at hfl
              obtain ⟨gq, cq, rfl⟩ := hls.out.form
              generalize ns[m] = y at *
              generalize (ns.take m).foldl putL out = cur at *
              go_wp2_with fail
              refine (l1Put cur (.slice (some ⟨gq, 0, none⟩) cur.length cq) y (by omega) wr hls.out).mono ?_
              rintro e w3 ⟨v3, rfl, hl3, hb3⟩
              have hw3 : Below w2.heap.size w2 w3 := below_over hb hb3
              have HL3 : Hid (Lst w3 v3 ((ns.take (m + 1)).foldl putL out)) := by show Lst _ _ _; rw [HFO.out]; exact hl3
              clear hl3 hb3 hls hb c0 HFO
              go_wp2
              go_roundw
              case rel => exact ⟨m + 1, by omega, by go_num, HL3.out, hw3⟩
              case measure => simp [intOf]; omega
            · have hmi : ¬ (m : Int) < (ns.length : Int) := by omega
              have HTK : Hid (ns.take m = ns) := List.take_of_length_le (by omega)
              have HLE := hls.out
              rw [HTK.out] at HLE
              have HLF : Hid (Lst wr _ (ns.foldl putL out)) := HLE
              have hbF : Below w.heap.size w wr := below_over hw2 hb
              have HQL : Hid (q + 1 ≤ (ns.foldl putL out).length) := by
                show _ ≤ _
                have := puts_ge ns out
                omega
              clear HLE hls hb HTK
              go_wp2
              go_roundw
              case rel => exact ⟨q + 1, _, HQL.out, by go_num, HMN.out, HLF.out, hbF⟩
              case measure => simp [intOf]; omega
        · have hqi : ¬ (q : Int) < (out.length : Int) := by omega
          have HNX : Hid (ClosedL code out ∨ k + 1 < out.length) := hmid.out.ends hqt hst.out hcl.out
          have HST : Hid (StR code out) := hmid.out.st
          obtain ⟨gw, cw, rfl⟩ := hls.out.form
          clear hmid
          go_wp2
          go_roundw
          case rel => exact ⟨k + 1, out, by omega, by go_num, HST.out, HNX.out, hls.out, hb⟩
          case measure => simp [intOf]; omega
    · obtain rfl : k = code.length := by omega
      have hki : ¬ (code.length : Int) < (code.length : Int) := by omega
      have HE : Hid (o = risL (rchB code) 40) := hst.out.ends HOK.out hcl.out
      clear hst hcl
      go_wp2
      go_ret
      exact ⟨_, rfl, by rw [← HE.out]; exact hls.out, hb⟩
end Pg
end Go.Proofs.YtinanjjhkddikaaGreat

/- Who is above whom, as plain functions of a program. -/
namespace Go.Proofs.YtinanjjhkddikaaGreat
namespace Pg
open Go.ChangeShapes Go.WideShapes Go.ChangeAt Go.RowKit St

/-- A class, its Super, and so on. -/
def upF (p : Prg) : Nat → Int → List Int
  | 0, _ => []
  | f + 1, c => if c < 0 then [] else match p[c.toNat]? with | none => [] | some k => c :: upF p f k.super
def upL (p : Prg) (c : Int) : List Int := upF p 6 c
theorem upF_neg (p : Prg) (f : Nat) {c : Int} (h : c < 0) : upF p f c = [] := by
  cases f with
  | zero => rfl
  | succ f => simp [upF, h]
theorem upL_neg (p : Prg) {c : Int} (h : c < 0) : upL p c = [] := upF_neg p 6 h
theorem upF_fuel {p : Prg} {n : Nat} (hs : SupOk p n) : ∀ (f g : Nat) (up : Int), up < (n : Int) → up < (f : Int) → up < (g : Int) → upF p f up = upF p g up := by
  intro f
  induction f with
  | zero => intro g up _ h1 _; rw [upF_neg _ _ (by omega), upF_neg _ _ (by omega)]
  | succ f ih =>
    intro g up hn h1 h2
    by_cases h0 : up < 0
    · rw [upF_neg _ _ h0, upF_neg _ _ h0]
    · cases g with
      | zero => omega
      | succ g =>
        simp only [upF, h0, if_false]
        cases hc : p[up.toNat]? with
        | none => rfl
        | some c =>
          have := hs up.toNat c (by omega) hc
          simp only []
          rw [ih g c.super (by omega) (by omega) (by omega)]
theorem upL_step {p : Prg} {n : Nat} (hs : SupOk p n) {u : Nat} (hu : u < n) (h6 : u < 6) {c : Cls} (hc : p[u]? = some c) : upL p (u : Int) = (u : Int) :: upL p c.super := by
  have h0 : ¬ (u : Int) < 0 := by omega
  have := hs u c hu hc
  have e : upF p 5 c.super = upF p 6 c.super := upF_fuel hs 5 6 c.super (by omega) (by omega) (by omega)
  show (if (u : Int) < 0 then [] else match p[(u : Int).toNat]? with | none => [] | some k => (u : Int) :: upF p 5 k.super) = _
  rw [if_neg h0, Int.toNat_natCast, hc]
  simp only []
  rw [e]
  rfl
theorem upF_len (p : Prg) : ∀ (f : Nat) (c : Int), (upF p f c).length ≤ f := by
  intro f
  induction f with
  | zero => intro c; simp [upF]
  | succ f ih =>
    intro c
    simp only [upF]
    split
    · simp
    · split
      · simp
      · simp only [List.length_cons]; have := ih ‹Cls›.super; omega
theorem upL_len (p : Prg) (c : Int) : (upL p c).length ≤ 6 := upF_len p 6 c
theorem upF_mem {p : Prg} : ∀ (f : Nat) (c x : Int), x ∈ upF p f c → 0 ≤ x ∧ x < (p.length : Int) := by
  intro f
  induction f with
  | zero => intro c x h; simp [upF] at h
  | succ f ih =>
    intro c x h
    simp only [upF] at h
    split at h
    · simp at h
    · split at h
      · simp at h
      · rename_i hc k hk
        rcases List.mem_cons.1 h with rfl | h
        · have := (List.getElem?_eq_some_iff.1 hk).1; omega
        · exact ih _ _ h
theorem upL_mem {p : Prg} {c x : Int} (h : x ∈ upL p c) : 0 ≤ x ∧ x < (p.length : Int) := upF_mem 6 c x h
theorem upF_le {p : Prg} (hs : SupOk p p.length) : ∀ (f : Nat) (c x : Int), x ∈ upF p f c → x ≤ c := by
  intro f
  induction f with
  | zero => intro c x h; simp [upF] at h
  | succ f ih =>
    intro c x h
    simp only [upF] at h
    split at h
    · simp at h
    · split at h
      · simp at h
      · rename_i hc k hk
        have h1 := (List.getElem?_eq_some_iff.1 hk).1
        have h2 := hs _ k h1 hk
        rcases List.mem_cons.1 h with rfl | h
        · exact Int.le_refl _
        · have := ih _ _ h; omega
theorem upL_le {p : Prg} (hs : SupOk p p.length) {c x : Int} (h : x ∈ upL p c) : x ≤ c := upF_le hs 6 c x h
theorem upL_self {p : Prg} (hs : SupOk p p.length) (h6 : p.length ≤ 6) {u : Nat} (hu : u < p.length) : (u : Int) ∈ upL p (u : Int) := by
  rw [upL_step hs hu (by omega) (List.getElem?_eq_getElem hu)]; exact List.mem_cons_self

/-- Is b above a (or a itself)? -/
def undB (p : Prg) (a b : Int) : Bool := decide (b ∈ upL p a)
/-- The first one above a that is above b. -/
def lowF (p : Prg) (a b : Int) : Int := ((upL p a).find? fun x => undB p b x).getD (-1)
/-- Has the class of this number a method of its own with this name? -/
def hasM (p : Prg) (name : Int) (x : Int) : Bool := match p[x.toNat]? with | none => false | some c => (ownF c name).isSome
def selF (p : Prg) (c name : Int) : Int := ((upL p c).find? (hasM p name)).getD (-1)
def allC (p : Prg) : List Int := (List.range p.length).map fun k : Nat => (k : Int)
/-- All that are under a class, rising. -/
def downL (p : Prg) (c : Int) : List Int := (allC p).filter fun i => undB p i c
def targL (p : Prg) (c name : Int) : List Int := (((downL p c).map fun i => selF p i name).filter fun s => decide (0 ≤ s)).foldl putL []

theorem find_step {α : Type} (f : α → Bool) (x : α) (l : List α) : (x :: l).find? f = if f x then some x else l.find? f := by
  rw [List.find?_cons]; cases f x <;> rfl
end Pg
end Go.Proofs.YtinanjjhkddikaaGreat

/- Ranges over functions: what a round keeps; regions that draw their order in a round; whole arrays in a round; marks of rounds behind one another. -/
namespace Go.Proofs.YtinanjjhkddikaaGreat
namespace Pg
open Go.ChangeShapes Go.WideShapes Go.ChangeAt Go.RowKit Go.Shelf St
attribute [local go_sem] Oper.semAt_some

/-- Nothing below n₀ has turned, nor has one of these blocks. -/
def Kp (n₀ : Nat) (bs : List Nat) (W W' : World) : Prop := Below n₀ W W' ∧ ∀ b ∈ bs, b < W.heap.size → W'.heap[b]? = W.heap[b]?
theorem Kp.refl (n₀ : Nat) (bs : List Nat) (W : World) : Kp n₀ bs W W := ⟨Below.refl _ _, fun _ _ _ => rfl⟩
theorem kp_t {n₀ : Nat} {bs : List Nat} {A B C : World} (h : Kp n₀ bs A B) (k : Kp n₀ bs B C) : Kp n₀ bs A C :=
  ⟨h.1.trans k.1, fun b hb hl => (k.2 b hb (Nat.lt_of_lt_of_le hl h.1.size)).trans (h.2 b hb hl)⟩
theorem kp_b {n₀ : Nat} {bs : List Nat} {w : World} (hn : n₀ ≤ w.heap.size) (hbs : ∀ b ∈ bs, b < w.heap.size) (W : World) (l : Nat) (o o' : Obj) (hl : w.heap.size ≤ l) (h : W.heap[l]? = some o) (h1 : o.isCells = false) (h2 : o.isWalk = false) : Kp n₀ bs W (W.putObj l o') :=
  ⟨belowK_b hn W l o o' hl h h1 h2, fun b hb _ => World.putObj_heap_other (by have := hbs b hb; omega)⟩
theorem Kp.on {n₀ : Nat} {bs : List Nat} {W W' : World} (h : Below W.heap.size W W') (hn : n₀ ≤ W.heap.size) : Kp n₀ bs W W' := ⟨h.mono hn, fun b _ hl => h.block b hl⟩
theorem Kp.set {n₀ b₀ i : Nat} {bs : List Nat} (W : World) (hn : n₀ ≤ b₀) (hb : b₀ ∉ bs) (v : Value) : Kp n₀ bs W (W.setCell ⟨b₀, i, none⟩ v) :=
  ⟨(Below.refl _ _).setCell (p := ⟨b₀, i, none⟩) hn v, fun b hbs _ => Below.heap_setCell W ⟨b₀, i, none⟩ v b (fun e => hb (by subst e; exact hbs))⟩
theorem Kp.boxed {n₀ b : Nat} {bs : List Nat} {W W' : World} {t : TypeId} {v : Value} (h : Kp n₀ bs W W') (hb : b ∈ bs) (hx : Boxed W b t v) : Boxed W' b t v := (h.2 b hb hx.lt).trans hx
theorem keeps_of {W W' : World} (h : Below W.heap.size W W') : KeepsOthers W W' := KeepsOthers.of_grownBy (row := none) ⟨h.os, h.tape, h.output, h.size, fun k hk _ => h.block k hk⟩ (fun _ _ e => by cases e)

theorem oper_in {l n : Nat} {P : Program} {o : Oper} {a : Act} {w : World} {K : Act → World → Prop} {Q : Exit → Act → World → Prop} (h : ∀ c, o.op ≠ .defer c) (hh : Oper.wp P o a w K Q) : Oper.wpIn (Fence.wide.inRound l) n P o a w K Q := by
  refine ⟨fun _ _ => trivial, ?_⟩
  show o.uponIn _ n P a K Q ((o.semAt (some l) a.eval).run P w)
  rw [Oper.semAt_some l _ _ h]
  unfold Oper.wp at hh
  generalize (execOp a.eval o).run P w = r at *
  cases r with
  | ok x w' =>
    cases x <;> simp only [Oper.upon, Oper.uponIn] at hh ⊢ <;>
      first
        | exact hh
        | exact ⟨fun h => absurd h (by simp [Fence.wide, Fence.inRound]), callsIn_wide.2 hh⟩
        | exact ⟨fun h => absurd h (by simp [Fence.wide, Fence.inRound]), fun c cs _ => let ⟨v, w', r, s⟩ := hh c cs; ⟨v, w', r, stepsIn_wide.2 s⟩⟩
  | halt x w' => cases x <;> simp only [Oper.upon, Oper.uponIn] at hh ⊢ <;> exact hh
theorem wpOp_in {l n : Nat} {P : Program} {ops : Array Oper} {Q : Exit → Act → World → Prop} {i : Nat} {K : Act → World → Prop} {a : Act} {w : World} (hd : ∀ o ∈ ops, ∀ c, o.op ≠ .defer c) (hlo : ¬ LetsOut Q) (h : wpOp P ops Q i K a w) : wpOpIn (Fence.wide.inRound l) n P ops Q i K a w := by
  unfold wpOp at h
  unfold wpOpIn
  split
  · rename_i ho
    simpa [ho] using h
  · rename_i o ho
    simp only [ho] at h
    split
    · rename_i hw
      simp only [hw, if_true] at h
      rcases h with h | ⟨_, h⟩
      · exact oper_in (hd o (Array.mem_of_getElem? ho)) h
      · exact absurd h hlo
    · rename_i hw
      simp only [hw] at h
      exact ⟨fun _ _ => trivial, h⟩
theorem any_in {l n : Nat} {P : Program} {md : Region.Mode} {ops : Array Oper} {Q : Exit → Act → World → Prop} (hd : ∀ o ∈ ops, ∀ c, o.op ≠ .defer c) (hlo : ¬ LetsOut Q) : ∀ (fuel : Nat) (listed : Array Bool) (a : Act) (w : World), wpAny P md ops Q fuel listed a w → wpAnyIn (Fence.wide.inRound l) n P md ops Q fuel listed a w
  | 0, _, _, _, h => h
  | fuel + 1, _, _, _, h => ⟨h.1, fun i hi => wpOp_in hd hlo (wpOp_mono (fun a' w' h' => any_in hd hlo fuel _ a' w' h') (h.2 i hi))⟩
theorem round_held {l n id : Nat} {P : Program} {ops : Array Oper} {Q : Exit → Act → World → Prop} {a : Act} {w : World} {S : World → Prop} (hm : P.follows .mixedOrders = true) (hd : ∀ o ∈ ops, ∀ c, o.op ≠ .defer c) (hlo : ¬ LetsOut Q) (hS : S w.drew) (h : S w.drew → wpAnyH P .any ops Q S ops.size (Array.replicate ops.size false) a w.drew) : (Code.region id ops true).wpIn (Fence.wide.inRound l) n P Q a w :=
  wpIn_region_any hm (any_in hd hlo _ _ _ _ (wpAny_of_held _ _ _ _ (h hS)))

theorem Cells.keptBy {w w' : World} {row : Option Nat} {k : Nat} {vs : List Value} (h : Cells w k vs) (hg : w.grownBy w' row) (hr : ∀ r, row = some r → ∃ o : Obj, w.heap[r]? = some o ∧ o.isCells = false) : Cells w' k vs := fun i x hx => by
  obtain ⟨h1, h2⟩ := h i x hx
  exact ⟨cell_kept h1 hg hr, (frozen_kept h1 hg hr).trans h2⟩
theorem wpListIn_load_mid {F : Fence} {n : Nat} {P : Program} {ops : Array Oper} {rest : List Oper} {op : Oper} {a : Act} {w : World} {Q : Exit → Act → World → Prop} (hgd : op.guard = none) (ty : TypeId) (x : Operand) (ho : op.op = .load ty x)
    (b o : Nat) (hx : a.eval x = .pointer (some ⟨b, o, none⟩)) (cs : List Value) (d : TypeDesc) (hc : w.rangeAt b o cs)
    (hu : P.underlying ty = some d) (hd : d.isRow = true) (hi : (P.info? ty).map (·.size) = some cs.length)
    (h : wpListIn F n P ops Q rest (a.put op.dst (.agg cs.toArray)) w) : wpListIn F n P ops Q (op :: rest) a w := by
  refine wpListIn_plain hgd fun K hK => ?_
  unfold Oper.wpIn
  refine ⟨?_, ?_⟩
  · simp [Oper.about, ho]
  · rw [Oper.semAt_plain F _ _ (by rw [ho]; intro c hc'; cases hc')]
    unfold execOp
    simp only [ho, hx, Instr.loadAt, Instr.sureAddr, Sem.run_bind, Sem.run_pure, Result.andThen_ok, run_loadVar_mid w b o ty cs d hc hu hd hi]
    exact hK _ _ h
theorem wpListIn_store_mid {F : Fence} {n : Nat} {P : Program} {ops : Array Oper} {rest : List Oper} {op : Oper} {a : Act} {w : World} {Q : Exit → Act → World → Prop} (hgd : op.guard = none) (ty : TypeId) (x y : Operand) (ho : op.op = .store ty x y)
    (b o : Nat) (cells : Array Value) (hx : a.eval x = .pointer (some ⟨b, o, none⟩)) (hy : a.eval y = .agg cells)
    (ht : w.there b o cells.size) (hi : (P.info? ty).map (·.size) = some cells.size) (h1 : cells.all (·.oneCell') = true)
    (h : wpListIn F n P ops Q rest (a.put op.dst undef) (w.setCells b o cells.toList)) : wpListIn F n P ops Q (op :: rest) a w := by
  refine wpListIn_plain hgd fun K hK => ?_
  unfold Oper.wpIn
  refine ⟨?_, ?_⟩
  · simp [Oper.about, ho]
  · rw [Oper.semAt_plain F _ _ (by rw [ho]; intro c hc'; cases hc')]
    unfold execOp
    simp only [ho, hx, hy, Instr.storeAt, Instr.sureAddr, Sem.run_bind, Sem.run_pure, Result.andThen_ok, run_storeVar_mid w b o ty cells ht hi h1]
    exact hK _ _ h
/-- Marks of rounds that are over, each of another loop. -/
def marks (ds : List Nat) : List Deferred := ds.map fun D => { target := .collected D, args := #[] }
def Colls (B : Nat) (W : World) (ds : List Nat) : Prop := ds.Nodup ∧ ∀ D ∈ ds, B ≤ D ∧ W.heap[D]? = some (.deferred (some []))
theorem Colls.nil (B : Nat) (W : World) : Colls B W [] := ⟨List.nodup_nil, fun D h => by simp at h⟩
theorem Colls.on {B : Nat} {W W' : World} {ds : List Nat} (h : Colls B W ds) (hb : ∀ D ∈ ds, W'.heap[D]? = W.heap[D]?) : Colls B W' ds := ⟨h.1, fun D hD => ⟨(h.2 D hD).1, (hb D hD).trans (h.2 D hD).2⟩⟩
theorem Colls.lt {B : Nat} {W : World} {ds : List Nat} (h : Colls B W ds) {D : Nat} (hD : D ∈ ds) : D < W.heap.size := (Array.getElem?_eq_some_iff.1 (h.2 D hD).2).1
theorem Colls.below {B : Nat} {W W' : World} {ds : List Nat} (h : Colls B W ds) (hb : Below W.heap.size W W') : Colls B W' ds := h.on fun D hD => hb.block D (h.lt hD)
theorem leaves_colls {F : Fence} {n : Nat} {P : Program} {fn : Func} {tmps : Array Value} {R : Ending → World → Prop} (B : Nat) : ∀ (ds : List Nat) (W : World), Colls B W ds → (∀ W', Below B W W' → (∀ b, b ∉ ds → W'.heap[b]? = W.heap[b]?) → LeavesIn F n P fn tmps R [] .returning W') → LeavesInM F n P fn tmps R (marks ds) .returning W
  | [], W, _, h => h W (Below.refl _ _) fun _ _ => rfl
  | D :: ds, W, hc, h => by
    have hD := hc.2 D List.mem_cons_self
    have hn := List.nodup_cons.1 hc.1
    refine ⟨by simp, .inl ⟨D, _, rfl, run_takeDeferred hD.2, ?_⟩⟩
    have hbl : Below B W (W.putObj D (.deferred none)) := (Below.refl B W).grown (grownBy_putObj' W D _) (by have := hc.lt (D := D) List.mem_cons_self; omega) (fun k e => by cases e; exact hD.1)
    refine leaves_colls B ds _ ⟨hn.2, fun E hE => ⟨(hc.2 E (List.mem_cons_of_mem _ hE)).1, ?_⟩⟩ fun W' hb' hx => ?_
    · rw [World.putObj_heap_other (by rintro rfl; exact hn.1 hE)]
      exact (hc.2 E (List.mem_cons_of_mem _ hE)).2
    · refine h W' (hbl.trans hb') fun b hb => ?_
      rw [hx b fun e => hb (List.mem_cons_of_mem _ e), World.putObj_heap_other (by rintro rfl; exact hb List.mem_cons_self)]
end Pg
end Go.Proofs.YtinanjjhkddikaaGreat

/- The program's iterator over the classes above, and who asks it. -/
namespace Go.Proofs.YtinanjjhkddikaaGreat
namespace Pg
open Go.ChangeShapes Go.WideShapes Go.ChangeAt Go.RowKit Go.Shelf St
attribute [local go_sem] Oper.semAt_some

set_option maxHeartbeats 400000 in
theorem upFrom_in (n : Nat) (a : Option Addr) (len cap : Nat) (c : Int) (w : World) :
    CallsIn Fence.wide n Tryz.prog 91 #[.agg #[.slice a len cap], .int .i64 c] w fun e w' => e = .returned (.func (.func 103) #[] #[.pointer (some ⟨w.heap.size + 1, 0, none⟩), .pointer (some ⟨w.heap.size, 0, none⟩)]) ∧ w' = (w.alloc (.cells #[.slice a len cap] 30)).alloc (.cells #[.int .i64 c] 2) := by
  refine callsIn_of_wp Tryz.func91 rfl trivial ?_ rfl
  simp only [Tryz.ntmps91, List.size_toArray, List.length_cons, List.length_nil, Nat.reduceAdd, Nat.reduceSub, Array.replicate_succ, Array.replicate_zero, List.push_toArray, List.append_toArray, List.nil_append, List.cons_append]
  gi_wp2
  go_ret
  exact ⟨rfl, rfl⟩

set_option maxRecDepth 100000 in
set_option maxHeartbeats 1000000 in
theorem up1_in {α : Type} (n : Nat) (hn : 1 ≤ n) (l bc bp B : Nat) (p : Prg) (a : Option Addr) (cap : Nat) (u0 : Int) (hu0 : -1 ≤ u0) (hu1 : u0 < (p.length : Int)) (h6 : p.length ≤ 6) (hsup : SupOk p p.length) (w0 : World) (hp : SK front B w0 (.slice a p.length cap) p) (en : α → Int) (mk : ∀ j : Nat, j < p.length → α) (hen : ∀ j hj, en (mk j hj) = (j : Int)) (J Jx : List α → World → Prop)
    (hY : ∀ pre x W, J pre W → pre.length < 6 → YieldAt Fence.wide (n - 1) Tryz.prog l #[.int .i64 (en x)] W fun e W' =>
      (e = .returned (.bool true) ∧ J (pre ++ [x]) W' ∧ Kp w0.heap.size [bp] W W') ∨ (e = .returned (.bool false) ∧ Jx (pre ++ [x]) W'))
    (W : World) (hW : Below w0.heap.size w0 W) (hbc : W.cell? ⟨bc, 0, none⟩ = some (.int .i64 u0)) (hbp : Boxed W bp 30 (.slice a p.length cap)) (h0 : J [] W) :
    CallsIn Fence.wide n Tryz.prog 103 #[.func (.yield l) #[] #[], .pointer (some ⟨bc, 0, none⟩), .pointer (some ⟨bp, 0, none⟩)] W fun e W' => (∃ v, e = .returned v) ∧
      ((∃ ys, ys.map en = upL p u0 ∧ J ys W') ∨ (∃ pre, pre.map en <+: upL p u0 ∧ Jx pre W')) := by
  have HP : Hid (SK front B w0 (.slice a p.length cap) p) := hp
  have HSUP : Hid (SupOk p p.length) := hsup
  clear hp hsup
  refine callsIn_of_wp Tryz.func103 rfl trivial ?_ rfl
  simp only [Tryz.ntmps103, List.size_toArray, List.length_cons, List.length_nil, Nat.reduceAdd, Nat.reduceSub, Array.replicate_succ, Array.replicate_zero, List.push_toArray, List.append_toArray, List.nil_append, List.cons_append]
  gi_wp2
  gi_loopw [4] (fun v wr => ∃ (pre : List α) (u : Int), v = .int .i64 u ∧ -1 ≤ u ∧ u < (p.length : Int) ∧ Hid (upL p u0 = pre.map en ++ upL p u) ∧ J pre wr ∧ Below w0.heap.size w0 wr ∧ Boxed wr bp 30 (.slice a p.length cap)) (fun v _ => (intOf v + 1).toNat)
  case atStart => exact ⟨[], u0, rfl, hu0, hu1, by show _ = _; simp, h0, hW, hbp⟩
  case round =>
    clear hu0 hu1 hbc hbp h0
    obtain ⟨pre, u, rfl, hu0, hu1, hx, hJ, hb, hbx⟩ := hrel
    by_cases hneg : u = -1
    · have HE : Hid (upL p u0 = pre.map en) := by
        show _ = _
        rw [hx.out, hneg, upL_neg p (by omega)]; simp
      subst hneg
      gi_wp2
      refine ⟨fun _ h => (by cases h), ?_⟩
      gi_wp2
      go_end0
      exact ⟨⟨_, rfl⟩, .inl ⟨pre, HE.out.symm, hJ⟩⟩
    · obtain ⟨j, rfl⟩ := Int.eq_ofNat_of_zero_le (show 0 ≤ u by omega)
      have hjp : j < p.length := by omega
      have hji : (j : Int) < (p.length : Int) := by omega
      have hj0 : (0 : Int) ≤ (j : Int) := by omega
      have hnb : ((j : Int) != -1) = true := by simp
      have HST : Hid (upL p u0 = (pre ++ [mk j hjp]).map en ++ upL p p[j].super) := by
        show _ = _
        rw [hx.out, upL_step HSUP.out hjp (by omega) (List.getElem?_eq_getElem hjp)]; simp [hen]
      have hlen : pre.length < 6 := by
        have h1 := upL_len p u0
        rw [HST.out] at h1
        simp at h1
        omega
      obtain ⟨b, o, rfl, _, vf, vm, d0, d1, d2, hcv⟩ := HP.out.get hjp
      have l0 : b < w0.heap.size := cell_lt d0
      have hsu := HSUP.out j _ hjp (List.getElem?_eq_getElem hjp)
      obtain ⟨fn, tmps, assign, body, hy, hR⟩ := hY pre (mk j hjp) wr hJ hlen
      rw [hen] at hy
      generalize mk j hjp = xj at *
      generalize p[j] = c at *
      have hsu1 := hsu.1
      have hsu2 := hsu.2
      clear hcv hsu d1 d2 hneg hx
      gi_wp2
      refine hR.mono ?_
      rintro e W3 (⟨rfl, hJ3, hk3⟩ | ⟨rfl, hJx3⟩)
      · have hb3 : Below w0.heap.size w0 W3 := hb.trans hk3.1
        have c0 := (hb3.cell l0).trans d0
        have hbx3 := hk3.boxed (by simp) hbx
        have p0 := hbx3.cell
        gi_wp2
        go_roundw
        case rel => exact ⟨pre ++ [xj], c.super, rfl, hsu1, by omega, HST.out, hJ3, hb3, hbx3⟩
        case measure => simp [intOf]; omega
      · gi_wp2
        go_end0
        exact ⟨⟨_, rfl⟩, .inr ⟨pre ++ [xj], ⟨_, HST.out.symm⟩, hJx3⟩⟩

/-- A class of a program of n. -/
abbrev Cl (n : Nat) := { x : Int // 0 ≤ x ∧ x < (n : Int) }
def vals {n : Nat} (l : List (Cl n)) : List Int := l.map (·.1)
theorem vals_snoc {n : Nat} (l : List (Cl n)) (x : Cl n) : vals (l ++ [x]) = vals l ++ [x.1] := by simp [vals]

/-- What the iterator over those above hands out. -/
theorem up_stops (n : Nat) (hn : 1 ≤ n) (bc bp B : Nat) (p : Prg) (a : Option Addr) (cap : Nat) (u0 : Int) (hu0 : -1 ≤ u0) (hu1 : u0 < (p.length : Int)) (h6 : p.length ≤ 6) (hsup : SupOk p p.length) (w0 w : World) (hp : SK front B w0 (.slice a p.length cap) p) (hw : Below w0.heap.size w0 w) (hbc : w.cell? ⟨bc, 0, none⟩ = some (.int .i64 u0)) (hbp : Boxed w bp 30 (.slice a p.length cap)) :
    SeqStopsK Fence.wide n Tryz.prog 103 #[.pointer (some ⟨bc, 0, none⟩), .pointer (some ⟨bp, 0, none⟩)] (fun x : Int => #[Value.int .i64 x]) (Kp w0.heap.size [bp]) (fun ys => ys = upL p u0) (fun pre => pre <+: upL p u0) 6 w := fun l J Jx W hW _ _ hY h0 =>
  (up1_in n hn l bc bp B p a cap u0 hu0 hu1 h6 hsup w0 hp (fun x : Int => x) (fun j _ => (j : Int)) (fun _ _ => rfl) J Jx hY W (hw.trans (hW.mono hw.size)) ((hW.cell (p := ⟨bc, 0, none⟩) (cell_lt hbc)).trans hbc) ((hW.block bp hbp.lt).trans hbp) h0).mono
    (fun e W' h => by simpa using h)
/-- The same, each of them a class that is there. -/
theorem up_stopsC (n : Nat) (hn : 1 ≤ n) (bc bp B : Nat) (p : Prg) (a : Option Addr) (cap : Nat) (u0 : Int) (hu0 : -1 ≤ u0) (hu1 : u0 < (p.length : Int)) (h6 : p.length ≤ 6) (hsup : SupOk p p.length) (w0 w : World) (hp : SK front B w0 (.slice a p.length cap) p) (hw : Below w0.heap.size w0 w) (hbc : w.cell? ⟨bc, 0, none⟩ = some (.int .i64 u0)) (hbp : Boxed w bp 30 (.slice a p.length cap)) :
    SeqStopsK Fence.wide n Tryz.prog 103 #[.pointer (some ⟨bc, 0, none⟩), .pointer (some ⟨bp, 0, none⟩)] (fun x : Cl p.length => #[Value.int .i64 x.1]) (Kp w0.heap.size [bp]) (fun ys => vals ys = upL p u0) (fun pre => vals pre <+: upL p u0) 6 w := fun l J Jx W hW _ _ hY h0 =>
  up1_in n hn l bc bp B p a cap u0 hu0 hu1 h6 hsup w0 hp (fun x : Cl p.length => x.1) (fun j hj => ⟨(j : Int), by omega, by omega⟩) (fun _ _ => rfl) J Jx hY W (hw.trans (hW.mono hw.size)) ((hW.cell (p := ⟨bc, 0, none⟩) (cell_lt hbc)).trans hbc) ((hW.block bp hbp.lt).trans hbp) h0
end Pg
end Go.Proofs.YtinanjjhkddikaaGreat
