/- Contracts of the two sides' tests whether code is right. -/
import Derived.Test.YtinanjjhkddikaaGreatJLo0
import Derived.Test.YtinanjjhkddikaaGreatJPg2
import Derived.Lib.QuietBelow
import Derived.Deep.RegionHeld3
import Derived.BigQuiet
namespace Go.Proofs.YtinanjjhkddikaaGreat
namespace St
open Go.ChangeShapes Go.WideShapes Go.ChangeAt Go.RowKit

def good (n : Int) (x : Tx.Ins) : Bool := Tx.okT x && (!(Lay.jumpB x.1) || decide (x.2.1 < n))
theorem all_and {α : Type} (p q : α → Bool) (l : List α) : (l.all p && l.all q) = l.all fun x => p x && q x := by
  induction l with
  | nil => rfl
  | cons x l ih => simp only [List.all_cons, ← ih]; cases p x <;> cases q x <;> cases l.all p <;> simp
theorem codeOk_good (l : List Tx.Ins) : Lay.codeOk l = (decide (0 < l.length) && decide (l.length ≤ 40) && l.all (good l.length)) := by
  unfold Lay.codeOk Tx.okC good
  rw [← all_and]
  simp only [Bool.and_assoc]
theorem take_all {α : Type} {p : α → Bool} {l : List α} {k : Nat} (hk : k < l.length) (h : (l.take k).all p = true) (hx : p l[k] = true) : (l.take (k + 1)).all p = true := by
  rw [List.take_succ_eq_append_getElem hk, List.all_append, h]; simp [hx]
theorem all_no {α : Type} {p : α → Bool} {l : List α} {k : Nat} (hk : k < l.length) (hx : p l[k] = false) : l.all p = false := by
  cases hh : l.all p
  · rfl
  · have := List.all_eq_true.1 hh _ (List.getElem_mem hk)
    rw [hx] at this; simp at this
theorem code_no {l : List Tx.Ins} {k : Nat} (hk : k < l.length) (hx : good l.length l[k] = false) : Lay.codeOk l = false := by
  rw [codeOk_good, all_no hk hx]; simp
theorem jump_nonneg {op a b : Int} (h : Tx.okI op a b = true) (hj : Lay.jumpB op = true) : 0 ≤ a := by
  unfold Tx.okI at h
  unfold Lay.jumpB at hj
  have e : ¬ op = 1 := by
    intro e; rw [e] at hj; simp at hj
  rw [if_neg e] at h
  simp only [Bool.and_eq_true, decide_eq_true_eq] at h
  exact h.1.1.1

set_option maxRecDepth 100000 in
set_option maxHeartbeats 1000000 in
theorem implCodeOk (g cap : Nat) (l : List Tx.Ins) (hl : l.length ≤ 1048576) (w : World) (hr : Row w g 0 l) :
    Calls Tryz.prog 88 #[.slice (some ⟨g, 0, none⟩) l.length cap] w fun e w' => e = .returned (.bool (Lay.codeOk l)) ∧ Below w.heap.size w w' := by
  have HR : Hid (Row w g 0 l) := hr
  clear hr
  by_cases h0 : l.length = 0
  · have HN : Hid (Lay.codeOk l = false) := by
      show Lay.codeOk l = false
      rw [codeOk_good, h0]; rfl
    have h0i : (l.length : Int) = 0 := by omega
    go_enter Tryz.func88, Tryz.ntmps88
    go_wp2
    go_ret
    exact ⟨retB HN.out.symm, Below.refl _ _⟩
  · have h0i : ¬ (l.length : Int) = 0 := by omega
    by_cases hbig : (40 : Int) < (l.length : Int)
    · have HN : Hid (Lay.codeOk l = false) := by
        show Lay.codeOk l = false
        rw [codeOk_good]
        have : decide (l.length ≤ 40) = false := by simp; omega
        rw [this]; simp
      go_enter Tryz.func88, Tryz.ntmps88
      go_wp2
      go_ret
      exact ⟨retB HN.out.symm, Below.refl _ _⟩
    · go_enter Tryz.func88, Tryz.ntmps88
      go_wp2
      go_loopw [15] (fun i wr => ∃ k : Nat, k ≤ l.length ∧ i = .int .i64 k ∧ Hid ((l.take k).all (good l.length) = true) ∧ Below w.heap.size w wr) (fun i _ => l.length - (intOf i).toNat)
      case atStart => exact ⟨0, Nat.zero_le _, rfl, rfl, Below.refl _ _⟩
      case round =>
        obtain ⟨k, hk, rfl, hall, hb⟩ := hrel
        by_cases hlt : k < l.length
        · obtain ⟨d0, d1, d2⟩ := HR.out.below hb (cell_lt (HR.out k _ (List.getElem?_eq_getElem hlt)).1) k _ (List.getElem?_eq_getElem hlt)
          have HNO : Hid (good l.length l[k] = false → Lay.codeOk l = false) := code_no hlt
          have HYES : Hid (good l.length l[k] = true → (l.take (k + 1)).all (good l.length) = true) := take_all hlt hall.out
          generalize l[k] = x at *
          obtain ⟨op, a, b⟩ := x
          have hki : (k : Int) < (l.length : Int) := by omega
          simp only [Nat.zero_add] at d0 d1 d2
          go_wp2_with fail
          refine (implOk op a b _).mono ?_
          rintro e w1 ⟨rfl, hb1⟩
          have hw1 : Below w.heap.size w w1 := below_over (hb.alloc hb.size _) hb1
          have BX := boxC hb1
          obtain ⟨c0, c1, c2⟩ := BX
          clear hb1 d0 d1 d2
          cases hok : Tx.okI op a b
          · have HN : Hid (Lay.codeOk l = false) := HNO.out (by simp [good, Tx.okT, hok])
            go_wp2
            go_ret
            exact ⟨retB HN.out.symm, hw1⟩
          · go_wp2_with fail
            refine (isJump op a b _).mono ?_
            rintro e w2 ⟨rfl, hb2⟩
            have hw2 : Below w.heap.size w w2 := below_over hw1 hb2
            have c0' := (hb2.cell (cell_lt c0)).trans c0
            have c1' := (hb2.cell (cell_lt c1)).trans c1
            have c2' := (hb2.cell (cell_lt c2)).trans c2
            clear hb2 c0 c1 c2
            cases hj : Lay.jumpB op
            · have HY : Hid ((l.take (k + 1)).all (good l.length) = true) := HYES.out (by simp [good, Tx.okT, hok, hj])
              go_wp2
              go_roundw
              case rel => exact ⟨k + 1, by omega, by go_num, HY.out, hw2⟩
              case measure => simp [intOf]; omega
            · have hnn := jump_nonneg hok hj
              go_wp2_with fail
              refine (isBelow a l.length _).mono ?_
              rintro e w3 ⟨rfl, rfl⟩
              have hda : decide (0 ≤ a) = true := by simp [hnn]
              rw [hda, Bool.true_and]
              cases hq : decide (a < (l.length : Int))
              · have HN : Hid (Lay.codeOk l = false) := HNO.out (by simp only [good, Tx.okT, hok, hj, hq]; rfl)
                clear hq hda
                go_wp2
                go_ret
                exact ⟨retB HN.out.symm, hw2⟩
              · have HY : Hid ((l.take (k + 1)).all (good l.length) = true) := HYES.out (by simp only [good, Tx.okT, hok, hj, hq]; rfl)
                clear hq hda
                go_wp2
                go_roundw
                case rel => exact ⟨k + 1, by omega, by go_num, HY.out, hw2⟩
                case measure => simp [intOf]; omega
        · have HN : Hid (Lay.codeOk l = true) := by
            show Lay.codeOk l = true
            have e : l.take k = l := List.take_of_length_le (by omega)
            have := hall.out
            rw [e] at this
            rw [codeOk_good, this]
            simp; omega
          go_wp2
          go_ret
          exact ⟨retB HN.out.symm, hb⟩
theorem okC_all {l : List Tx.Ins} (h : Tx.okC l = true) : l.length ≤ 40 ∧ l.all Tx.okT = true := by
  unfold Tx.okC at h
  simpa using h
set_option maxRecDepth 100000 in
set_option maxHeartbeats 1000000 in
theorem specCodeOk (g cap : Nat) (l : List Tx.Ins) (hl : l.length ≤ 1048576) (w : World) (hr : Row w g 0 l) :
    Calls Tryz.prog 67 #[.slice (some ⟨g, 0, none⟩) l.length cap] w fun e w' => e = .returned (.bool (Lay.codeOk l)) ∧ Below w.heap.size w w' := by
  have HR : Hid (Row w g 0 l) := hr
  clear hr
  by_cases h0 : l.length = 0
  · have HN : Hid (Lay.codeOk l = false) := by
      show Lay.codeOk l = false
      rw [codeOk_good, h0]; rfl
    have h0i : (l.length : Int) < 1 := by omega
    go_enter Tryz.func67, Tryz.ntmps67
    go_wp2
    go_ret
    exact ⟨retB HN.out.symm, Below.refl _ _⟩
  · have h0i : ¬ (l.length : Int) < 1 := by omega
    cases hok : Tx.okC l
    · have HN : Hid (Lay.codeOk l = false) := by
        show Lay.codeOk l = false
        unfold Lay.codeOk; rw [hok]; simp
      go_enter Tryz.func67, Tryz.ntmps67
      go_wp2_with fail
      refine (each_at g cap l hl _ HR.out).mono ?_
      rw [hok]
      rintro e w1 ⟨rfl, hb1⟩
      go_wp2
      go_ret
      exact ⟨retB HN.out.symm, hb1⟩
    · have HA : Hid (l.length ≤ 40 ∧ l.all Tx.okT = true) := okC_all hok
      go_enter Tryz.func67, Tryz.ntmps67
      go_wp2_with fail
      refine (each_at g cap l hl _ HR.out).mono ?_
      rw [hok]
      rintro e w1 ⟨rfl, hb1⟩
      go_wp2
      go_loopw [3] (fun i wr => ∃ k : Nat, k ≤ l.length ∧ i = .int .i64 k ∧ Hid ((l.take k).all (good l.length) = true) ∧ Below w.heap.size w wr) (fun i _ => l.length - (intOf i).toNat)
      case atStart => exact ⟨0, Nat.zero_le _, rfl, rfl, hb1⟩
      case round =>
        obtain ⟨k, hk, rfl, hall, hb⟩ := hrel
        by_cases hlt : k < l.length
        · obtain ⟨d0, d1, d2⟩ := HR.out.below hb (cell_lt (HR.out k _ (List.getElem?_eq_getElem hlt)).1) k _ (List.getElem?_eq_getElem hlt)
          have hko : Tx.okT l[k] = true := List.all_eq_true.1 HA.out.2 _ (List.getElem_mem hlt)
          have HNO : Hid (good l.length l[k] = false → Lay.codeOk l = false) := code_no hlt
          have HYES : Hid (good l.length l[k] = true → (l.take (k + 1)).all (good l.length) = true) := take_all hlt hall.out
          generalize l[k] = x at *
          obtain ⟨op, a, b⟩ := x
          have HKO : Hid (Tx.okT (op, a, b) = true) := hko
          clear hko
          have hki : (k : Int) < (l.length : Int) := by omega
          simp only [Nat.zero_add] at d0 d1 d2
          go_wp2_with fail
          refine (l3Jump op _).mono ?_
          rintro e w2 ⟨rfl, rfl⟩
          cases hj : Lay.jumpB op
          · have HY : Hid ((l.take (k + 1)).all (good l.length) = true) := HYES.out (by simp only [good, HKO.out, hj]; rfl)
            go_wp2
            go_roundw
            case rel => exact ⟨k + 1, by omega, by go_num, HY.out, hb⟩
            case measure => simp [intOf]; omega
          · by_cases hq : a < (l.length : Int)
            · have HY : Hid ((l.take (k + 1)).all (good l.length) = true) := HYES.out (by simp only [good, HKO.out, hj]; simp [hq])
              go_wp2
              go_roundw
              case rel => exact ⟨k + 1, by omega, by go_num, HY.out, hb⟩
              case measure => simp [intOf]; omega
            · have HN : Hid (Lay.codeOk l = false) := HNO.out (by simp only [good, HKO.out, hj]; simp; omega)
              go_wp2
              go_ret
              exact ⟨retB HN.out.symm, hb⟩
        · have HN : Hid (Lay.codeOk l = true) := by
            show Lay.codeOk l = true
            have e : l.take k = l := List.take_of_length_le (by omega)
            have := hall.out
            rw [e] at this
            have := HA.out.1
            rw [codeOk_good, ‹l.all _ = true›]
            simp; omega
          go_wp2
          go_ret
          exact ⟨retB HN.out.symm, hb⟩
end St
end Go.Proofs.YtinanjjhkddikaaGreat

/- Contracts of the program's own small functions on programs. -/
namespace Go.Proofs.YtinanjjhkddikaaGreat
namespace Pg
open Go.ChangeShapes Go.WideShapes Go.ChangeAt Go.RowKit St

set_option maxHeartbeats 400000 in
theorem hasClass (a : Option Addr) (n cap : Nat) (t : Int) (w : World) :
    Calls Tryz.prog 76 #[.agg #[.slice a n cap], .int .i64 t] w fun e w' => e = .returned (.bool (decide (0 ≤ t) && decide (t < (n : Int)))) ∧ Below w.heap.size w w' := by
  go_enter Tryz.func76, Tryz.ntmps76
  go_wp2_with fail
  refine (isBelow t n _).mono ?_
  rintro e w1 ⟨rfl, rfl⟩
  go_wp2
  go_ret
  exact ⟨rfl, (Below.refl _ _).alloc (Nat.le_refl _) _⟩

set_option maxHeartbeats 800000 in
theorem areTypesOf {f : Bool} (B : Nat) (a a' : Option Addr) (n cap cap' : Nat) (l : List Int) (hl : l.length ≤ 1048576) (w : World) (hi : SI f B w (.slice a' l.length cap') l) :
    Calls Tryz.prog 73 #[.agg #[.slice a n cap], .slice a' l.length cap'] w fun e w' => e = .returned (.bool (l.all (tyB n))) ∧ Below w.heap.size w w' := by
  have HI : Hid (SI f B (w.alloc (.cells #[.slice a n cap] 30)) (.slice a' l.length cap') l) := SI.on hi (Keep.of ((Below.refl _ _).alloc (Nat.le_refl _) _))
  have C0 : Hid (Cells (w.alloc (.cells #[.slice a n cap] 30)) w.heap.size [.slice a n cap]) := Cells.new w _ rfl _ _
  clear hi
  go_enter Tryz.func73, Tryz.ntmps73
  go_wp2
  generalize hW : w.alloc (.cells #[.slice a n cap] 30) = W at *
  have hwW : Below w.heap.size w W := by rw [← hW]; exact (Below.refl _ _).alloc (Nat.le_refl _) _
  clear hW
  go_loopw [9] (fun i wr => ∃ k : Nat, k ≤ l.length ∧ i = .int .i64 k ∧ Hid ((l.take k).all (tyB n) = true) ∧ Below W.heap.size W wr) (fun i _ => l.length - (intOf i).toNat)
  case atStart => exact ⟨0, Nat.zero_le _, rfl, rfl, Below.refl _ _⟩
  case round =>
    obtain ⟨k, hk, rfl, hall, hb⟩ := hrel
    by_cases hlt : k < l.length
    · obtain ⟨b, o, rfl, _, c1⟩ := (SI.on HI.out (Keep.of hb)).get hlt
      unfold IntAt at c1
      rw [Nat.mul_one] at c1
      have c0 := (C0.out.on hb).g0.1
      have HT : Hid (tyB n l[k] = true → (l.take (k + 1)).all (tyB n) = true) := fun h => take_all hlt hall.out h
      have HF : Hid (tyB n l[k] = false → l.all (tyB n) = false) := fun h => all_no hlt h
      generalize l[k] = t at *
      have hki : (k : Int) < (l.length : Int) := by omega
      have hw1 : Below w.heap.size w wr := below_over hwW hb
      by_cases ht : t = -1
      · subst ht
        have HA := HT.out (by simp [tyB])
        have HAA : Hid ((l.take (k + 1)).all (tyB n) = true) := HA
        clear HA HT HF hall
        go_wp2
        go_roundw
        case rel => exact ⟨k + 1, by omega, by go_num, HAA.out, hb⟩
        case measure => simp [intOf]; omega
      · have htb : (t != -1) = true := by simpa using ht
        go_wp2_with fail
        refine (hasClass a n cap t _).mono ?_
        rintro e w1 ⟨rfl, hb1⟩
        have hw2 : Below W.heap.size W w1 := below_over hb hb1
        clear hb1 hb c0 c1
        cases hq : (decide (0 ≤ t) && decide (t < (n : Int)))
        · have HA : Hid (l.all (tyB n) = false) := HF.out (by unfold tyB; rw [hq]; simp [ht])
          go_wp2
          go_ret
          exact ⟨retB HA.out.symm, below_over hwW hw2⟩
        · have HA : Hid ((l.take (k + 1)).all (tyB n) = true) := HT.out (by unfold tyB; rw [hq]; simp)
          clear HT HF hall
          go_wp2
          go_roundw
          case rel => exact ⟨k + 1, by omega, by go_num, HA.out, hw2⟩
          case measure => simp [intOf]; omega
    · have HN : Hid (l.all (tyB n) = true) := by
        show _ = _
        have e : l.take k = l := List.take_of_length_le (by omega)
        have := hall.out
        rw [e] at this
        exact this
      go_wp2
      go_ret
      exact ⟨retB HN.out.symm, below_over hwW hb⟩

theorem diff_no {l r : List Int} {k : Nat} (h1 : k < l.length) (h2 : k < r.length) (h : l[k] ≠ r[k]) : decide (l = r) = false := by
  simp only [decide_eq_false_iff_not]
  intro e
  subst e
  exact h rfl
theorem same_take {l r : List Int} {k : Nat} (h1 : k < l.length) (h2 : k < r.length) (h : l.take k = r.take k) (he : l[k] = r[k]) : l.take (k + 1) = r.take (k + 1) := by
  rw [List.take_succ_eq_append_getElem h1, List.take_succ_eq_append_getElem h2, h, he]

set_option maxHeartbeats 1000000 in
theorem slicesEqual {f f' : Bool} (B B' : Nat) (a a' : Option Addr) (cap cap' : Nat) (l r : List Int) (hl : l.length ≤ 1048576) (w : World) (h1 : SI f B w (.slice a l.length cap) l) (h2 : SI f' B' w (.slice a' r.length cap') r) :
    Calls Tryz.prog 89 #[.slice a l.length cap, .slice a' r.length cap'] w fun e w' => e = .returned (.bool (decide (l = r))) ∧ Below w.heap.size w w' := by
  have H1 : Hid (SI f B w (.slice a l.length cap) l) := h1
  have H2 : Hid (SI f' B' w (.slice a' r.length cap') r) := h2
  clear h1 h2
  by_cases hlen : l.length = r.length
  · have HLEN : Hid (l.length = r.length) := hlen
    rw [← hlen]
    clear hlen
    go_enter Tryz.func89, Tryz.ntmps89
    go_wp2
    go_loopw [13] (fun i wr => ∃ k : Nat, k ≤ l.length ∧ i = .int .i64 k ∧ Hid (l.take k = r.take k) ∧ Below w.heap.size w wr) (fun i _ => l.length - (intOf i).toNat)
    case atStart => exact ⟨0, Nat.zero_le _, rfl, rfl, Below.refl _ _⟩
    case round =>
      obtain ⟨k, hk, rfl, hsame, hb⟩ := hrel
      by_cases hlt : k < l.length
      · have hlr : k < r.length := by rw [← HLEN.out]; exact hlt
        obtain ⟨b, o, rfl, _, a0⟩ := (SI.on H1.out (Keep.of hb)).get hlt
        obtain ⟨b', o', rfl, _, b0⟩ := (SI.on H2.out (Keep.of hb)).get hlr
        unfold IntAt at a0 b0
        rw [Nat.mul_one] at a0 b0
        have HT : Hid (l[k] = r[k] → l.take (k + 1) = r.take (k + 1)) := fun h => same_take hlt hlr hsame.out h
        have HF : Hid (l[k] ≠ r[k] → decide (l = r) = false) := fun h => diff_no hlt hlr h
        generalize l[k] = x at *
        generalize r[k] = y at *
        clear hlr hsame
        have hki : (k : Int) < (l.length : Int) := by omega
        have hki0 : (0 : Int) ≤ (k : Int) := by omega
        have r0 := cell_regrown a0
        have s0 := cell_regrown b0
        by_cases hxy : x = y
        · subst hxy
          have HS : Hid (l.take (k + 1) = r.take (k + 1)) := HT.out rfl
          clear HT HF
          go_wp2_with fail
          refine wp_region_quiet_below (by kernel_rfl) (by kernel_rfl) ?_
          repeat (quiet_step (fail))
          refine wpQuiet_nil ?_
          intro _ hw'
          obtain ⟨⟨dq, osq⟩, hw''⟩ := hw'
          subst hw''
          have hw1 : Below w.heap.size w (Sort.grow (redrawn wr dq) osq) := below_over hb (below_regrown wr dq osq)
          clear a0 b0 r0 s0 hb
          generalize Sort.grow (redrawn wr dq) osq = w1 at *
          go_wp2
          go_roundw
          case rel => exact ⟨k + 1, by omega, by go_num, HS.out, hw1⟩
          case measure => simp [intOf]; omega
        · have HS : Hid (decide (l = r) = false) := HF.out hxy
          have hxb : (x != y) = true := by simpa using hxy
          clear HT HF
          go_wp2_with fail
          refine wp_region_quiet_below (by kernel_rfl) (by kernel_rfl) ?_
          repeat (quiet_step (fail))
          refine wpQuiet_nil ?_
          intro _ hw'
          obtain ⟨⟨dq, osq⟩, hw''⟩ := hw'
          subst hw''
          have hw1 : Below w.heap.size w (Sort.grow (redrawn wr dq) osq) := below_over hb (below_regrown wr dq osq)
          clear a0 b0 r0 s0 hb
          generalize Sort.grow (redrawn wr dq) osq = w1 at *
          go_wp2
          go_ret
          exact ⟨retB HS.out.symm, hw1⟩
      · have HN : Hid (decide (l = r) = true) := by
          show _ = _
          have h := hsame.out
          rw [List.take_of_length_le (by omega), List.take_of_length_le (by have := HLEN.out; omega)] at h
          simpa using h
        go_wp2
        go_ret
        exact ⟨retB HN.out.symm, hb⟩
  · have HN : Hid (decide (l = r) = false) := by
      show _ = _
      simp only [decide_eq_false_iff_not]
      intro e; exact hlen (by rw [e])
    have hnb : ((l.length : Int) != (r.length : Int)) = true := by
      have : ¬ (l.length : Int) = (r.length : Int) := by omega
      simpa using this
    go_enter Tryz.func89, Tryz.ntmps89
    go_wp2
    go_ret
    exact ⟨retB HN.out.symm, Below.refl _ _⟩

/-- What looking for a class's own method answers. -/
def OwnPost (B : Nat) (c : Cls) (name : Int) (w0 w : World) (e : Ending) (w' : World) : Prop :=
  ((∃ m va vc, ownF c name = some m ∧ m ∈ c.meths ∧ e = .returned (.tuple #[.agg #[.int .i64 m.name, va, .int .i64 m.gives, vc], .bool true]) ∧ MV front B w0 va vc m) ∨
   (ownF c name = none ∧ e = .returned (.tuple #[.agg #[.int .i64 0, .slice none 0 0, .int .i64 0, .slice none 0 0], .bool false]))) ∧ Below w.heap.size w w'

set_option maxRecDepth 100000 in
set_option maxHeartbeats 1000000 in
theorem ownMethod (B : Nat) (c : Cls) (q a : Option Addr) (cap af cf : Nat) (name : Int) (hn : c.meths.length ≤ 1048576) (w0 w : World) (hb0 : Below w0.heap.size w0 w) (hm : SM front B w0 (.slice a c.meths.length cap) c.meths) :
    Calls Tryz.prog 52 #[.agg #[.int .i64 c.super, .slice q af cf, .slice a c.meths.length cap], .int .i64 name] w fun e w' => OwnPost B c name w0 w e w' := by
  obtain ⟨W, hW⟩ : ∃ W, W = (w.alloc (.cells #[.int .i64 c.super, .slice q af cf, .slice a c.meths.length cap] 52)).alloc (.cells #[.int .i64 0, .slice none 0 0, .int .i64 0, .slice none 0 0] 55) := ⟨_, rfl⟩
  have hwW : Below w.heap.size w W := by rw [hW]; exact ((Below.refl _ _).alloc (Nat.le_refl _) _).alloc (by simp) _
  have HM : Hid (SM front B w0 (.slice a c.meths.length cap) c.meths) := hm
  have R0 : Hid (Cells W (w.heap.size + 1) [.int .i64 0, .slice none 0 0, .int .i64 0, .slice none 0 0]) := by rw [hW]; exact Cells.new (w.alloc _) _ (by simp) _ _
  clear hm
  go_enter Tryz.func52, Tryz.ntmps52
  go_wp2
  rw [← hW]
  clear hW
  go_loopw [11] (fun i wr => ∃ k : Nat, k ≤ c.meths.length ∧ i = .int .i64 k ∧ Hid (∀ j, j < k → ∀ m, c.meths[j]? = some m → m.name ≠ name) ∧ Below W.heap.size W wr) (fun i _ => c.meths.length - (intOf i).toNat)
  case atStart => exact ⟨0, Nat.zero_le _, rfl, fun j h => absurd h (Nat.not_lt_zero _), Below.refl _ _⟩
  case round =>
    obtain ⟨k, hk, rfl, hno, hb⟩ := hrel
    have hwr : Below w.heap.size w wr := below_over hwW hb
    by_cases hlt : k < c.meths.length
    · obtain ⟨b, o, rfl, _, va, vc, d0, d1, d2, d3, hmv⟩ := HM.out.get hlt
      obtain ⟨x1, y1, rfl⟩ := hmv.1.form
      obtain ⟨x2, y2, rfl⟩ := front.form hmv.2
      have l0 : b < w0.heap.size := cell_lt d0
      have hw0 : Below w0.heap.size w0 wr := below_over hb0 hwr
      have c0 := (hw0.cell l0).trans d0
      have c1 := (hw0.cell l0).trans d1
      have c2 := (hw0.cell l0).trans d2
      have c3 := (hw0.cell l0).trans d3
      clear hw0
      have HK : Hid (c.meths[k].name = name → ownF c name = some c.meths[k]) := fun h => find_at hno.out (List.getElem?_eq_getElem hlt) h
      have HKN : Hid (c.meths[k].name ≠ name → ∀ j, j < k + 1 → ∀ m, c.meths[j]? = some m → m.name ≠ name) := fun h j hj m hm => by
        by_cases e : j = k
        · subst e
          rw [List.getElem?_eq_getElem hlt] at hm
          simp at hm
          subst hm
          exact h
        · exact hno.out j (by omega) m hm
      have HMEM : Hid (c.meths[k] ∈ c.meths) := List.getElem_mem hlt
      have HMV : Hid (MV front B w0 (.slice x1 c.meths[k].args.length y1) (.slice x2 c.meths[k].code.length y2) c.meths[k]) := hmv
      clear hmv hno d0 d1 d2 d3
      generalize c.meths[k] = m at *
      have hki : (k : Int) < (c.meths.length : Int) := by omega
      by_cases hnm : m.name = name
      · have HO : Hid (ownF c name = some m) := HK.out hnm
        have RA := (R0.out.on hb).alloc (.cells #[.int .i64 m.name, .slice x1 m.args.length y1, .int .i64 m.gives, .slice x2 m.code.length y2] 55)
        obtain ⟨r0, q0⟩ := RA.g0
        obtain ⟨r1, q1⟩ := RA.g1
        obtain ⟨r2, q2⟩ := RA.g2
        obtain ⟨r3, q3⟩ := RA.g3
        have R5 := (((RA.s0 (.int .i64 m.name)).s1 (.slice x1 m.args.length y1)).s2 (.int .i64 m.gives)).s3 (.slice x2 m.code.length y2)
        obtain ⟨e0, _⟩ := R5.g0
        obtain ⟨e1, _⟩ := R5.g1
        obtain ⟨e2, _⟩ := R5.g2
        obtain ⟨e3, _⟩ := R5.g3
        have HWR : Hid (Below w.heap.size w ((((((wr.alloc (.cells #[.int .i64 m.name, .slice x1 m.args.length y1, .int .i64 m.gives, .slice x2 m.code.length y2] 55)).setCell ⟨w.heap.size + 1, 0, none⟩ (.int .i64 m.name)).setCell ⟨w.heap.size + 1, 1, none⟩ (.slice x1 m.args.length y1)).setCell ⟨w.heap.size + 1, 2, none⟩ (.int .i64 m.gives)).setCell ⟨w.heap.size + 1, 3, none⟩ (.slice x2 m.code.length y2)))) := ((((hwr.alloc hwr.size _).setCell (p := ⟨w.heap.size + 1, 0, none⟩) (by simp) _).setCell (p := ⟨w.heap.size + 1, 1, none⟩) (by simp) _).setCell (p := ⟨w.heap.size + 1, 2, none⟩) (by simp) _).setCell (p := ⟨w.heap.size + 1, 3, none⟩) (by simp) _
        have hnb : (m.name == name) = true := by simpa using hnm
        clear R5 RA HK HKN hb hwr hnm
        go_wp2
        refine bodyPost_ret (v := .tuple #[.agg #[.int .i64 m.name, .slice x1 m.args.length y1, .int .i64 m.gives, .slice x2 m.code.length y2], .bool true]) (by simp [results, Tryz.results52, go_sem, e0, e1, e2, e3]) rfl ?_
        exact ⟨.inl ⟨m, _, _, HO.out, HMEM.out, rfl, HMV.out⟩, HWR.out⟩
      · have HN : Hid (∀ j, j < k + 1 → ∀ m, c.meths[j]? = some m → m.name ≠ name) := HKN.out hnm
        have hnb : (m.name == name) = false := by simpa using hnm
        have HBB : Hid (Below W.heap.size W (wr.alloc (.cells #[.int .i64 m.name, .slice x1 m.args.length y1, .int .i64 m.gives, .slice x2 m.code.length y2] 55))) := hb.alloc hb.size _
        clear HK HKN hb hwr hnm
        go_wp2
        go_roundw
        case rel => exact ⟨k + 1, by omega, by go_num, HN.out, HBB.out⟩
        case measure => simp [intOf]; omega
    · have HN : Hid (ownF c name = none) := find_none (fun j hj m hm => hno.out j (by omega) m hm)
      have RA := R0.out.on hb
      obtain ⟨r0, q0⟩ := RA.g0
      obtain ⟨r1, q1⟩ := RA.g1
      obtain ⟨r2, q2⟩ := RA.g2
      obtain ⟨r3, q3⟩ := RA.g3
      have R5 := (((RA.s0 (.int .i64 0)).s1 (.slice none 0 0)).s2 (.int .i64 0)).s3 (.slice none 0 0)
      obtain ⟨e0, _⟩ := R5.g0
      obtain ⟨e1, _⟩ := R5.g1
      obtain ⟨e2, _⟩ := R5.g2
      obtain ⟨e3, _⟩ := R5.g3
      have HWR : Hid (Below w.heap.size w ((((wr.setCell ⟨w.heap.size + 1, 0, none⟩ (.int .i64 0)).setCell ⟨w.heap.size + 1, 1, none⟩ (.slice none 0 0)).setCell ⟨w.heap.size + 1, 2, none⟩ (.int .i64 0)).setCell ⟨w.heap.size + 1, 3, none⟩ (.slice none 0 0))) := (((hwr.setCell (p := ⟨w.heap.size + 1, 0, none⟩) (by simp) _).setCell (p := ⟨w.heap.size + 1, 1, none⟩) (by simp) _).setCell (p := ⟨w.heap.size + 1, 2, none⟩) (by simp) _).setCell (p := ⟨w.heap.size + 1, 3, none⟩) (by simp) _
      clear R5 RA hb hwr hno
      go_wp2
      refine bodyPost_ret (v := .tuple #[.agg #[.int .i64 0, .slice none 0 0, .int .i64 0, .slice none 0 0], .bool false]) (by simp [results, Tryz.results52, go_sem, e0, e1, e2, e3]) rfl ?_
      exact ⟨.inr ⟨HN.out, rfl⟩, HWR.out⟩

set_option maxHeartbeats 1000000 in
theorem isMethodOf (B : Nat) (m : Meth) (a : Option Addr) (n cap : Nat) (va vc : Value) (hs : SmallM m) (w : World) (hv : MV front B w va vc m) :
    Calls Tryz.prog 74 #[.agg #[.slice a n cap], .agg #[.int .i64 m.name, va, .int .i64 m.gives, vc]] w fun e w' => e = .returned (.bool (okMB n m)) ∧ Below w.heap.size w w' := by
  obtain ⟨x1, y1, rfl⟩ := hv.1.form
  obtain ⟨gc, y2, rfl, _, _, hrow, _⟩ := hv.2
  have HI : Hid (SI true B w (.slice x1 m.args.length y1) m.args) := hv.1
  have HR : Hid (Row w gc 0 m.code) := hrow
  have hs1 := hs.1
  have hs2 := hs.2
  clear hv hrow hs
  obtain ⟨W, hW⟩ : ∃ W, W = (w.alloc (.cells #[.slice a n cap] 30)).alloc (.cells #[.int .i64 m.name, .slice x1 m.args.length y1, .int .i64 m.gives, .slice (some ⟨gc, 0, none⟩) m.code.length y2] 55) := ⟨_, rfl⟩
  have hwW : Below w.heap.size w W := by rw [hW]; exact ((Below.refl _ _).alloc (Nat.le_refl _) _).alloc (by simp) _
  have P0 : Hid (Cells W w.heap.size [.slice a n cap]) := by rw [hW]; exact (Cells.new w _ rfl _ _).alloc _
  have M0 : Hid (Cells W (w.heap.size + 1) [.int .i64 m.name, .slice x1 m.args.length y1, .int .i64 m.gives, .slice (some ⟨gc, 0, none⟩) m.code.length y2]) := by rw [hW]; exact Cells.new (w.alloc _) _ (by simp) _ _
  obtain ⟨nm, hnm⟩ : ∃ nm, nm = (decide (0 ≤ m.name) && decide (m.name < 20)) := ⟨_, rfl⟩
  obtain ⟨p0, _⟩ := P0.out.g0
  obtain ⟨m0, _⟩ := M0.out.g0
  obtain ⟨m1, _⟩ := M0.out.g1
  have HOK : Hid (okMB n m = (nm && decide (m.args.length ≤ 3) && m.args.all (tyB n) && tyB n m.gives && Lay.codeOk m.code)) := by
    show _ = _
    unfold okMB
    rw [hnm]
    have e : decide (m.name < 20) = decide (m.name ≤ 19) := by rw [Bool.eq_iff_iff]; simp; omega
    rw [e]
  go_enter Tryz.func74, Tryz.ntmps74
  go_wp2_with fail
  rw [← hW]
  clear hW
  refine (isBelow m.name 20 _).mono ?_
  rw [← hnm]
  rintro e w1 ⟨rfl, rfl⟩
  clear hnm
  cases nm
  · have HF : Hid (okMB n m = false) := by show _ = _; rw [HOK.out]; simp
    go_wp2
    go_ret
    exact ⟨retB HF.out.symm, hwW⟩
  · by_cases h3 : m.args.length ≤ 3
    · have h3i : ¬ (3 : Int) < (m.args.length : Int) := by omega
      go_wp2_with fail
      refine (areTypesOf B a x1 n cap y1 m.args hs1 _ (SI.on HI.out (Keep.of hwW))).mono ?_
      rintro e w2 ⟨rfl, hb2⟩
      have hw2 : Below w.heap.size w w2 := below_over hwW hb2
      obtain ⟨p2, _⟩ := (P0.out.on hb2).g0
      obtain ⟨n2, _⟩ := (M0.out.on hb2).g2
      cases ht : m.args.all (tyB n)
      · have HF : Hid (okMB n m = false) := by show _ = _; rw [HOK.out, ht]; simp
        go_wp2
        go_ret
        exact ⟨retB HF.out.symm, hw2⟩
      · have M2 : Hid (Cells w2 (w.heap.size + 1) [.int .i64 m.name, .slice x1 m.args.length y1, .int .i64 m.gives, .slice (some ⟨gc, 0, none⟩) m.code.length y2]) := M0.out.on hb2
        clear hb2
        go_wp2_with fail
        have hsi : SI false w2.heap.size (w2.alloc (.cells #[.int .i64 m.gives] 2)) (.slice (some ⟨w2.heap.size, 0, none⟩) [m.gives].length 1) [m.gives] :=
          SI.row (Nat.le_refl _) (by simp) (fun j x hj => by
            match j, hj with
            | 0, hj => simp at hj; subst hj; simp) (fun j hj => by
            match j, hj with
            | 0, _ => exact ⟨⟨.int .i64 m.gives, by simp⟩, by simp⟩)
        refine (areTypesOf w2.heap.size a (some ⟨w2.heap.size, 0, none⟩) n cap 1 [m.gives] (by simp) _ hsi).mono ?_
        rintro e w3 ⟨rfl, hb3⟩
        have hw3 : Below w.heap.size w w3 := below_over (hw2.alloc hw2.size _) hb3
        have eg : [m.gives].all (tyB n) = tyB n m.gives := by simp
        rw [eg]
        clear hsi eg
        obtain ⟨n3, _⟩ := ((M2.out.alloc (.cells #[.int .i64 m.gives] 2)).on hb3).g3
        clear hb3
        cases hg : tyB n m.gives
        · have HF : Hid (okMB n m = false) := by show _ = _; rw [HOK.out, hg]; simp
          go_wp2
          go_ret
          exact ⟨retB HF.out.symm, hw3⟩
        · go_wp2_with fail
          refine (implCodeOk gc y2 m.code hs2 _ (HR.out.on hw3)).mono ?_
          rintro e w4 ⟨rfl, hb4⟩
          have hw4 : Below w.heap.size w w4 := below_over hw3 hb4
          have HF : Hid (okMB n m = Lay.codeOk m.code) := by show _ = _; rw [HOK.out, ht, hg]; simp [h3]
          clear hb4
          go_wp2
          go_ret
          exact ⟨retB HF.out.symm, hw4⟩
    · have HF : Hid (okMB n m = false) := by show _ = _; rw [HOK.out]; simp [h3]
      have h3i : (3 : Int) < (m.args.length : Int) := by omega
      go_wp2
      go_ret
      exact ⟨retB HF.out.symm, hwW⟩
end Pg
end Go.Proofs.YtinanjjhkddikaaGreat

/- The search asks its set of finds. -/
namespace Go.Proofs.YtinanjjhkddikaaGreat
namespace Pg
open Go.ChangeShapes Go.WideShapes Go.ChangeAt Go.RowKit St Wd
theorem zeroU (w : World) : (zeroValue 92).run Tryz.prog w = .ok (.agg #[]) w := by kernel_rfl
theorem FM.look {w : World} {b : Nat} {l : List Fd} (h : FM w b l) {f : Fd} (hf : WfF f) : (Instr.lookup 83 (.map (some b)) (fdV f) true).run Tryz.prog w = .ok (.tuple #[.agg #[], .bool (decide (f ∈ l))]) w := by
  obtain ⟨D, h1, h2⟩ := h
  obtain ⟨v, ps, hr, hv⟩ := h1.look_ok keyedF mapTF (zeroU w) unitElem_mk (keyOf_fd hf)
  obtain ⟨rfl, _⟩ := unitElem_inv hv
  rw [hr, h2.has f hf]
theorem FM.store {w : World} {b : Nat} {l : List Fd} (h : FM w b l) {f : Fd} (hf : WfF f) (hn : f ∉ l) (hl : l.length ≤ 500) : ∃ w', (Instr.mapUpdate 83 (.map (some b)) (fdV f) (.agg #[])).run Tryz.prog w = .ok () w' ∧ FM w' b (f :: l) ∧ w.mapTurned w' b := by
  obtain ⟨D, h1, h2⟩ := h
  obtain ⟨w', hr, h3, h4⟩ := h1.store keyedF mapTF (by unfold maxLen; omega) (keyOf_fd hf) unitElem_mk
  have h5 := h2.put (h1.tidy keyedF) hf hn
  exact ⟨w', hr, ⟨_, own600 h3 (by rw [h5.size]; simp; omega), h5⟩, h4⟩
set_option maxRecDepth 100000 in
set_option maxHeartbeats 4000000 in
theorem has_at (B0 sb mb : Nat) (pv v : Value) (F T : List Fd) (f : Fd) (hf : WfF f) (w : World) (hS : Srch B0 sb mb pv w v F T) :
    Calls Tryz.prog 32 #[.pointer (some ⟨sb, 0, none⟩), fdV f] w fun e w' => e = .returned (.bool (decide (f ∈ F))) ∧ Below w.heap.size w w' := by
  obtain ⟨V, hV⟩ : ∃ V, V = w.alloc (.cells #[.int .i64 f.1, .int .i64 f.2.1, .int .i64 f.2.2] 58) := ⟨_, rfl⟩
  have hwV : Below w.heap.size w V := by rw [hV]; exact (Below.refl _ _).alloc (Nat.le_refl _) _
  have FC : Hid (Cells V w.heap.size [.int .i64 f.1, .int .i64 f.2.1, .int .i64 f.2.2]) := by rw [hV]; exact Cells.new w _ rfl _ _
  have HK : Hid (∀ X, Below V.heap.size V X → Below V.heap.size V X ∧ X.cell? ⟨sb, 1, none⟩ = some (.map (some mb)) ∧ X.cell? ⟨w.heap.size, 0, none⟩ = some (.int .i64 f.1) ∧ X.cell? ⟨w.heap.size, 1, none⟩ = some (.int .i64 f.2.1) ∧ X.cell? ⟨w.heap.size, 2, none⟩ = some (.int .i64 f.2.2) ∧ (Instr.lookup 83 (.map (some mb)) (fdV f) true).run Tryz.prog X = .ok (.tuple #[.agg #[], .bool (decide (f ∈ F))]) X) := fun X hX => by
    have hwX := below_over hwV hX
    exact ⟨hX, (hS.on hwX).cells.g1.1, (FC.out.on hX).g0.1, (FC.out.on hX).g1.1, (FC.out.on hX).g2.1, (hS.on hwX).map.look hf⟩
  have KD := HK.out _ (Below.refl V.heap.size V).drew
  have KA := fun (l : Array Value) (t : TypeId) => HK.out (V.alloc (.cells l t)).drew ((Below.refl V.heap.size V).alloc (Nat.le_refl _) _).drew
  have KB := fun (l : Array Value) (t : TypeId) => HK.out (V.drew.alloc (.cells l t)) ((Below.refl V.heap.size V).drew.alloc (Nat.le_refl _) _)
  obtain ⟨f0, f1, f2⟩ := f
  dsimp only at *
  go_enter Tryz.func32, Tryz.ntmps32
  go_upto_region 1 with fail
  rw [← hV]
  clear hV
  go_region_held3 (fun X => Below V.heap.size V X ∧ X.cell? ⟨sb, 1, none⟩ = some (.map (some mb)) ∧ X.cell? ⟨w.heap.size, 0, none⟩ = some (.int .i64 f0) ∧ X.cell? ⟨w.heap.size, 1, none⟩ = some (.int .i64 f1) ∧ X.cell? ⟨w.heap.size, 2, none⟩ = some (.int .i64 f2) ∧ (Instr.lookup 83 (.map (some mb)) (fdV (f0, f1, f2)) true).run Tryz.prog X = .ok (.tuple #[.agg #[], .bool (decide ((f0, f1, f2) ∈ F))]) X)
    (first | exact KD | exact KA _ _ | exact KB _ _ | assumption)
    (fail)
  all_goals
    have hb := below_over hwV (KA #[] 92).1
    clear KD KA KB HK FC hS
    go_wp2
    go_ret
    exact ⟨rfl, hb⟩
end Pg
end Go.Proofs.YtinanjjhkddikaaGreat

/- A find is added to the search. -/
namespace Go.Proofs.YtinanjjhkddikaaGreat
namespace Pg
open Go.ChangeShapes Go.WideShapes Go.ChangeAt Go.RowKit St Wd
theorem meetS {P G : Prop} (h : P → G) (p : P) : G := h p
theorem FM.block {w w' : World} {b : Nat} {l : List Fd} (h : FM w b l) (e : w'.heap[b]? = w.heap[b]?) : FM w' b l := by
  obtain ⟨D, ⟨es, clock, h1, h2, h3, rfl⟩, hr⟩ := h
  exact ⟨_, ⟨es, clock, e.trans h1, h2, h3, rfl⟩, hr⟩
/-- What a call that adds leaves. -/
structure Adds (B0 sb mb : Nat) (pv : Value) (w : World) (v : Value) (F T : List Fd) (P : Fd → Prop) (w' : World) (v' : Value) (F' T' : List Fd) : Prop where
  st : Srch B0 sb mb pv w' v' F' T'
  ext : ExtF F T F' T'
  fr : Frs sb mb w v w' v'
  new : ∀ g ∈ F', g ∈ F ∨ P g
set_option maxRecDepth 100000 in
set_option maxHeartbeats 1000000 in
theorem add_no (B0 sb mb n cap : Nat) (a : Option Addr) (v : Value) (F T : List Fd) (f : Fd) (hin : ¬ (0 ≤ f.2.1 ∧ f.2.1 < (n : Int))) (w : World) (hS : Srch B0 sb mb (.slice a n cap) w v F T) :
    Calls Tryz.prog 53 #[.pointer (some ⟨sb, 0, none⟩), fdV f] w fun e w' => e = .returned (.tuple #[]) ∧ ∃ v' F' T', Adds B0 sb mb (.slice a n cap) w v F T (fun g => g = f ∧ 0 ≤ f.2.1 ∧ f.2.1 < (n : Int)) w' v' F' T' ∧ (0 ≤ f.2.1 → f.2.1 < (n : Int) → f ∈ F') := by
  obtain ⟨V, hV⟩ : ∃ V, V = w.alloc (.cells #[.int .i64 f.1, .int .i64 f.2.1, .int .i64 f.2.2] 58) := ⟨_, rfl⟩
  have hwV : Below w.heap.size w V := by rw [hV]; exact (Below.refl _ _).alloc (Nat.le_refl _) _
  have FC : Hid (Cells V w.heap.size [.int .i64 f.1, .int .i64 f.2.1, .int .i64 f.2.2]) := by rw [hV]; exact Cells.new w _ rfl _ _
  have HSV : Hid (Srch B0 sb mb (.slice a n cap) V v F T) := hS.on hwV
  have HK : Hid (∀ X, Below V.heap.size V X → Below V.heap.size V X ∧ X.cell? ⟨sb, 0, none⟩ = some (.slice a n cap) ∧ X.cell? ⟨w.heap.size, 0, none⟩ = some (.int .i64 f.1) ∧ X.cell? ⟨w.heap.size, 1, none⟩ = some (.int .i64 f.2.1) ∧ X.cell? ⟨w.heap.size, 2, none⟩ = some (.int .i64 f.2.2)) := fun X hX =>
    ⟨hX, (HSV.out.on hX).cells.g0.1, (FC.out.on hX).g0.1, (FC.out.on hX).g1.1, (FC.out.on hX).g2.1⟩
  have KD := HK.out _ (Below.refl V.heap.size V).drew
  obtain ⟨f0, f1, f2⟩ := f
  dsimp only at *
  go_enter Tryz.func53, Tryz.ntmps53
  go_upto_region 1 with fail
  rw [← hV]
  clear hV
  have hbool : (decide (0 ≤ f1) && decide (f1 < (n : Int))) = false := by
    cases h : (decide (0 ≤ f1) && decide (f1 < (n : Int)))
    · rfl
    · simp at h; exact absurd h hin
  obtain ⟨_, s0, s1, s2, s3⟩ := HK.out V (Below.refl _ _)
  have q0 := cell_regrown s0
  have q1 := cell_regrown s1
  have q2 := cell_regrown s2
  have q3 := cell_regrown s3
  have hcall := fun u (hu : Below V.heap.size V u) => hasClass a n cap f1 u
  rw [hbool] at hcall
  have cQ : ∀ d os, Calls Tryz.prog 76 #[.agg #[.slice a n cap], .int .i64 f1] (Sort.grow (redrawn V d) os) fun e w'' => e = .returned (.bool false) ∧ ∃ p : Regrown, w'' = Sort.grow (redrawn V p.d) p.os := fun d os => (hcall _ (below_regrown V d os)).regrown_of
  have HFIN : Hid (∀ X, Below V.heap.size V X → Adds B0 sb mb (.slice a n cap) w v F T (fun g => g = (f0, f1, f2) ∧ 0 ≤ f1 ∧ f1 < (n : Int)) X v F T) := fun X hX => ⟨hS.on (below_over hwV hX), ExtF.refl _ _, Frs.of v (below_over hwV hX), fun g hg => .inl hg⟩
  clear KD hcall s0 s1 s2 s3 HK FC HSV hS hwV
  refine wp_region_quiet_below (by kernel_rfl) (by kernel_rfl) ?_
  repeat (go_big_quiet_step ((go_at_call 76; exact cQ _ _)))
  refine wpQuiet_nil ?_
  intro _ hw'
  obtain ⟨⟨dq, osq⟩, hw''⟩ := hw'
  subst hw''
  have hfin := HFIN.out _ (below_regrown V dq osq)
  clear cQ q0 q1 q2 q3 HFIN
  generalize Sort.grow (redrawn V dq) osq = wA at *
  go_wp2
  refine bodyPost_ret (results_none rfl _ _ _) rfl ?_
  exact ⟨rfl, _, _, _, hfin, fun h1 h2 => absurd ⟨h1, h2⟩ hin⟩
set_option maxRecDepth 100000 in
set_option maxHeartbeats 8000000 in
theorem add_at (B0 sb mb n cap : Nat) (a : Option Addr) (v : Value) (F T : List Fd) (f : Fd) (hf : 0 ≤ f.2.1 → f.2.1 < (n : Int) → FewF f) (w : World) (hB0 : B0 ≤ w.heap.size) (hS : Srch B0 sb mb (.slice a n cap) w v F T) :
    Calls Tryz.prog 53 #[.pointer (some ⟨sb, 0, none⟩), fdV f] w fun e w' => e = .returned (.tuple #[]) ∧ ∃ v' F' T', Adds B0 sb mb (.slice a n cap) w v F T (fun g => g = f ∧ 0 ≤ f.2.1 ∧ f.2.1 < (n : Int)) w' v' F' T' ∧ (0 ≤ f.2.1 → f.2.1 < (n : Int) → f ∈ F') := by
  by_cases hin : 0 ≤ f.2.1 ∧ f.2.1 < (n : Int)
  case neg => exact add_no B0 sb mb n cap a v F T f hin w hS
  obtain ⟨V, hV⟩ : ∃ V, V = w.alloc (.cells #[.int .i64 f.1, .int .i64 f.2.1, .int .i64 f.2.2] 58) := ⟨_, rfl⟩
  have hwV : Below w.heap.size w V := by rw [hV]; exact (Below.refl _ _).alloc (Nat.le_refl _) _
  have FC : Hid (Cells V w.heap.size [.int .i64 f.1, .int .i64 f.2.1, .int .i64 f.2.2]) := by rw [hV]; exact Cells.new w _ rfl _ _
  have HSV : Hid (Srch B0 sb mb (.slice a n cap) V v F T) := hS.on hwV
  have HK : Hid (∀ X, Below V.heap.size V X → Below V.heap.size V X ∧ X.cell? ⟨sb, 0, none⟩ = some (.slice a n cap) ∧ X.cell? ⟨w.heap.size, 0, none⟩ = some (.int .i64 f.1) ∧ X.cell? ⟨w.heap.size, 1, none⟩ = some (.int .i64 f.2.1) ∧ X.cell? ⟨w.heap.size, 2, none⟩ = some (.int .i64 f.2.2)) := fun X hX =>
    ⟨hX, (HSV.out.on hX).cells.g0.1, (FC.out.on hX).g0.1, (FC.out.on hX).g1.1, (FC.out.on hX).g2.1⟩
  have KD := HK.out _ (Below.refl V.heap.size V).drew
  obtain ⟨f0, f1, f2⟩ := f
  dsimp only at *
  go_enter Tryz.func53, Tryz.ntmps53
  go_upto_region 1 with fail
  rw [← hV]
  clear hV
  have hin : 0 ≤ f1 ∧ f1 < (n : Int) := hin
  have hbool : (decide (0 ≤ f1) && decide (f1 < (n : Int))) = true := by simp [hin.1, hin.2]
  have hfew := hf hin.1 hin.2
  go_region_held3 (fun X => Below V.heap.size V X ∧ X.cell? ⟨sb, 0, none⟩ = some (.slice a n cap) ∧ X.cell? ⟨w.heap.size, 0, none⟩ = some (.int .i64 f0) ∧ X.cell? ⟨w.heap.size, 1, none⟩ = some (.int .i64 f1) ∧ X.cell? ⟨w.heap.size, 2, none⟩ = some (.int .i64 f2))
    (first | exact KD | assumption)
    (first
      | (go_at_call 76; refine (hasClass a n cap f1 _).mono ?_; rw [hbool]; rintro e wA ⟨rfl, hbA⟩; have KC := HK.out _ (below_over KD.1 hbA))
      | (go_at_call 32; refine (has_at B0 sb mb (.slice a n cap) v F T (f0, f1, f2) hfew.wf _ (HSV.out.on KC.1)).mono ?_; rintro e wB ⟨rfl, hbB⟩; have KE := HK.out _ (below_over KC.1 hbB)))
  have hbV : Below V.heap.size V wB := KE.1
  have hbw : Below w.heap.size w wB := below_over hwV hbV
  have HSB : Hid (Srch B0 sb mb (.slice a n cap) wB v F T) := HSV.out.on hbV
  have FB : Hid (Cells wB w.heap.size [.int .i64 f0, .int .i64 f1, .int .i64 f2]) := FC.out.on hbV
  clear KD KC KE HK hbA hbB hbV
  by_cases hmem : (f0, f1, f2) ∈ F
  · rw [decide_eq_true hmem]
    have hfin : Adds B0 sb mb (.slice a n cap) w v F T (fun g => g = (f0, f1, f2) ∧ 0 ≤ f1 ∧ f1 < (n : Int)) wB v F T := ⟨HSB.out, ExtF.refl _ _, Frs.of v hbw, fun g hg => .inl hg⟩
    clear HSV HSB FB FC hS
    go_wp2
    refine bodyPost_ret (results_none rfl _ _ _) rfl ?_
    exact ⟨rfl, _, _, _, hfin, fun _ _ => hmem⟩
  · rw [decide_eq_false hmem]
    obtain ⟨wM, hrun, hFM, hturn⟩ := (HSB.out.on (Below.refl wB.heap.size wB).drew).map.store hfew.wf hmem (by have := HSB.out.lenF; omega)
    have hgm := hturn.grown
    have hzz : wB.heap.size ≤ wM.heap.size := hgm.size
    have hm1 := HSB.out.cells.g1.1
    obtain ⟨b0, _⟩ := FB.out.g0
    obtain ⟨b1, _⟩ := FB.out.g1
    obtain ⟨b2, _⟩ := FB.out.g2
    have HSM : Hid (Cells wM sb [.slice a n cap, .map (some mb), v]) := ((HSB.out.on (Below.refl wB.heap.size wB).drew).cells).grownF hgm (fun e => HSB.out.ne (by simpa using e.symm))
    have hmbl : mb < wB.heap.size := HSB.out.map.lt
    have FM1 : Hid (Cells wM w.heap.size [.int .i64 f0, .int .i64 f1, .int .i64 f2]) := (FB.out.on (Below.refl wB.heap.size wB).drew).grownF hgm (fun e => by have := hS.map.lt; simp at e; omega)
    have HRM : Hid (RF B0 wM v T) := (HSB.out.on (Below.refl wB.heap.size wB).drew).row.kept hgm (.inr HSB.out.o2)
    have HFM : Hid (FM wM mb ((f0, f1, f2) :: F)) := hFM
    have HTM : Hid (Tcs (fun k => k = sb ∨ k = mb ∨ v.ownBlock = some k) w wM) := (Tcs.of hbw).trans (Tcs.grownF (Below.refl wB.heap.size wB).drew hgm (fun k e => .inr (.inl (by simpa using e.symm))))
    clear hturn hgm hFM HSV
    go_upto_region 2 with fail
    apply meetS
    case h =>
      intro hp
      go_region_law (fail)
      all_goals exact hp
    clear hrun hm1 b0 b1 b2
    obtain ⟨b0, _⟩ := FM1.out.g0
    obtain ⟨b1, _⟩ := FM1.out.g1
    obtain ⟨b2, _⟩ := FM1.out.g2
    have hs0 := HSM.out.g0.1
    have KM : Below wM.heap.size wM wM.drew ∧ wM.drew.cell? ⟨w.heap.size, 0, none⟩ = some (.int .i64 f0) ∧ wM.drew.cell? ⟨w.heap.size, 1, none⟩ = some (.int .i64 f1) ∧ wM.drew.cell? ⟨w.heap.size, 2, none⟩ = some (.int .i64 f2) := ⟨(Below.refl _ _).drew, b0, b1, b2⟩
    have hB0M : B0 ≤ wM.drew.heap.size := by show B0 ≤ wM.heap.size; have := hbw.size; omega
    have hlen : T.length ≤ 900 := by have := HSB.out.tl; have := HSB.out.lenF; omega
    have HPU : Hid (∀ X, X = wM.drew → Calls Tryz.prog 77 #[.iface 91 (.pointer (some ⟨sb, 2, none⟩)), .iface 58 (fdV (f0, f1, f2))] X fun e w' => e = .returned (.tuple #[]) ∧ ∃ v' T', Cells w' sb [.slice a n cap, .map (some mb), v'] ∧ RF B0 w' v' T' ∧ T'.Perm ((f0, f1, f2) :: T) ∧ (v'.ownBlock = v.ownBlock ∨ ∀ g, v'.ownBlock = some g → wM.heap.size ≤ g) ∧ Tcs (fun k => k = sb ∨ v.ownBlock = some k) wM w') := fun X hX => by
      subst hX
      refine (heapPush B0 sb (.slice a n cap) (.map (some mb)) v T (f0, f1, f2) hlen wM.drew (HSM.out.on (Below.refl _ _).drew) (HRM.out.on (Below.refl _ _).drew) hB0M HSB.out.o1).mono ?_
      rintro e w' ⟨rfl, v', T', h1, h2, h3, h4, h5⟩
      exact ⟨rfl, v', T', h1, h2, h3, h4, h5.os, h5.tape, h5.output, h5.size, h5.far⟩
    have hSne := HSB.out.ne
    have HFR : Hid (∀ X, Tcs (fun k => k = sb ∨ v.ownBlock = some k) wM X → X.cell? ⟨w.heap.size, 0, none⟩ = some (.int .i64 f0) ∧ X.cell? ⟨w.heap.size, 1, none⟩ = some (.int .i64 f1) ∧ X.cell? ⟨w.heap.size, 2, none⟩ = some (.int .i64 f2)) := fun X hX => by
      have h := FM1.out.tcs hX (fun e => by
        rcases e with e | e
        · have := cell_lt hS.cells.g0.1; dsimp only at this; omega
        · have := (hS.row.lt _ e).2; omega)
      exact ⟨h.g0.1, h.g1.1, h.g2.1⟩
    have KM' := KM.2
    clear KM
    go_upto_region 3 with fail
    go_region_held3 (fun X => X.cell? ⟨w.heap.size, 0, none⟩ = some (.int .i64 f0) ∧ X.cell? ⟨w.heap.size, 1, none⟩ = some (.int .i64 f1) ∧ X.cell? ⟨w.heap.size, 2, none⟩ = some (.int .i64 f2))
      (first | exact KM' | assumption)
      (first
        | (go_at_call 77; refine (HPU.out _ rfl).mono ?_; rintro e wP ⟨rfl, vP, TP, hsP, hrP, hpP, hvP, htP⟩; have KP := HFR.out wP htP))
    have hfin : Adds B0 sb mb (.slice a n cap) w v F T (fun g => g = (f0, f1, f2) ∧ 0 ≤ f1 ∧ f1 < (n : Int)) wP vP ((f0, f1, f2) :: F) TP := by
      have htl := hpP.length_eq
      have hTS : Tcs (fun k => k = sb ∨ k = mb ∨ v.ownBlock = some k) w wP := HTM.out.trans (htP.mono fun k h => h.elim .inl fun h => .inr (.inr h))
      have hwz := hbw.size
      refine ⟨⟨hsP, HFM.out.block (htP.far mb HFM.out.lt (fun e => ?_)), hrP, ?_, List.nodup_cons.2 ⟨hmem, HSB.out.nd⟩, ?_, HSB.out.b1, HSB.out.b2, hSne, ?_, ?_⟩, ExtF.add hmem hpP, ⟨hTS, ?_⟩, ?_⟩
      · rcases e with e | e
        · exact hSne e.symm
        · exact HSB.out.o2 e
      · intro g hg
        rcases List.mem_cons.1 hg with e | e
        · rw [e]; exact hfew
        · exact HSB.out.few g e
      · have := HSB.out.tl; simp at htl ⊢; omega
      · intro e
        rcases hvP with h | h
        · exact HSB.out.o1 (h ▸ e)
        · have := h sb e; have := cell_lt HSB.out.cells.g0.1; dsimp only at this; omega
      · intro e
        rcases hvP with h | h
        · exact HSB.out.o2 (h ▸ e)
        · have := h mb e; omega
      · rcases hvP with h | h
        · exact .inl h
        · exact .inr fun g hg => by have := h g hg; omega
      · intro g hg
        rcases List.mem_cons.1 hg with e | e
        · exact .inr ⟨e, hin.1, hin.2⟩
        · exact .inl e
    clear HPU HFR HSM HRM HFM HTM hsP hrP hpP hvP htP HSB FB FM1 hS KM' KP
    go_wp2
    go_end0
    exact ⟨rfl, _, _, _, hfin, fun _ _ => List.mem_cons_self⟩
end Pg
end Go.Proofs.YtinanjjhkddikaaGreat
