/- Contracts of the other side's parts of the layout: which rows are layouts, and the places. -/
import Derived.Test.YtnlanikjlokboaaLo5
import Derived.Deep.RegionLaw
import Derived.Laws.AppendOwn
namespace Go.Proofs.Ytnlanikjlokboaa
namespace St
open Go.ChangeShapes Go.WideShapes Go.ChangeAt Go.RowKit

theorem in01 (n : Int) : (decide ((0 : Int) ≤ n) && decide (n ≤ 1)) = (decide (n = 0) || decide (n = 1)) := by
  rw [Bool.eq_iff_iff]; simp; omega
set_option maxRecDepth 100000 in
set_option maxHeartbeats 1000000 in
theorem l3Wide (g cap g' cap' : Nat) (l : List Tx.Ins) (v : List Int) (hl : l.length ≤ 1048576) (w : World) (hr : Row w g 0 l) (hi : IRow w g' 0 v) :
    Calls Try.prog 37 #[.slice (some ⟨g, 0, none⟩) l.length cap, .slice (some ⟨g', 0, none⟩) v.length cap'] w fun e w' => e = .returned (.bool (Lay.codeOk l && Lay.wideB l v)) ∧ Below w.heap.size w w' := by
  have HR : Hid (Row w g 0 l) := hr
  have HI : Hid (IRow w g' 0 v) := hi
  clear hr hi
  cases hok : Lay.codeOk l
  · go_enter Try.func37, Try.ntmps37
    go_wp2_with fail
    refine (specCodeOk g cap l hl _ HR.out).mono ?_
    rw [hok]
    rintro e w1 ⟨rfl, hb1⟩
    go_wp2
    go_ret
    exact ⟨rfl, hb1⟩
  · rw [Bool.true_and]
    by_cases hne : (v.length : Int) = (l.length : Int)
    · have hlen : v.length = l.length := by omega
      have HL : Hid (v.length = l.length) := hlen
      rw [hlen]
      clear hne hlen
      go_enter Try.func37, Try.ntmps37
      go_wp2_with fail
      refine (specCodeOk g cap l hl _ HR.out).mono ?_
      rw [hok]
      rintro e w1 ⟨rfl, hb1⟩
      go_wp2
      go_loopw [5] (fun i wr => ∃ k : Nat, k ≤ l.length ∧ i = .int .i64 k ∧ Hid ((List.range k).all (wideP l v) = true) ∧ Below w.heap.size w wr) (fun i _ => l.length - (intOf i).toNat)
      case atStart => exact ⟨0, Nat.zero_le _, rfl, rfl, hb1⟩
      case round =>
        obtain ⟨k, hk, rfl, hall, hb⟩ := hrel
        by_cases hlt' : k < l.length
        · have hlt : k < v.length := by rw [HL.out]; exact hlt'
          obtain ⟨d0, d1, d2⟩ := HR.out.on hb k _ (List.getElem?_eq_getElem hlt')
          have i0 := HI.out.on hb k _ (List.getElem?_eq_getElem hlt)
          have HNO : Hid ((decide (v[k] = 0) || (decide (v[k] = 1) && Lay.jumpB l[k].1)) = false → Lay.wideB l v = false) := fun h => wide_no hlt (by rw [wideP, wd_at hlt, ins_at hlt']; exact h)
          have HYES : Hid ((decide (v[k] = 0) || (decide (v[k] = 1) && Lay.jumpB l[k].1)) = true → (List.range (k + 1)).all (wideP l v) = true) := fun h => range_all hall.out (by rw [wideP, wd_at hlt, ins_at hlt']; exact h)
          generalize l[k] = x at *
          generalize v[k] = n at *
          obtain ⟨op, a, b⟩ := x
          clear hlt
          have hki : (k : Int) < (l.length : Int) := by omega
          simp only [Nat.zero_add] at d0 d1 d2 i0
          go_wp2_with fail
          refine (l1In n 0 1 _).mono ?_
          rw [in01]
          rintro e w2 ⟨rfl, rfl⟩
          by_cases hn0 : n = 0
          · have HY : Hid ((List.range (k + 1)).all (wideP l v) = true) := HYES.out (by simp [hn0])
            subst hn0
            go_wp2
            go_roundw
            case rel => exact ⟨k + 1, by omega, by go_num, HY.out, hb⟩
            case measure => simp [intOf]; omega
          · by_cases hn1 : n = 1
            · subst hn1
              go_wp2_with fail
              refine (l3Jump op _).mono ?_
              rintro e w2 ⟨rfl, rfl⟩
              clear d0 d1 d2 i0
              cases hj : Lay.jumpB op
              · have HN : Hid (Lay.wideB l v = false) := HNO.out (by simp [hj])
                go_wp2
                go_ret
                exact ⟨retB HN.out.symm, hb⟩
              · have HY : Hid ((List.range (k + 1)).all (wideP l v) = true) := HYES.out (by simp [hj])
                go_wp2
                go_roundw
                case rel => exact ⟨k + 1, by omega, by go_num, HY.out, hb⟩
                case measure => simp [intOf]; omega
            · have HN : Hid (Lay.wideB l v = false) := HNO.out (by simp [hn0, hn1])
              go_wp2
              go_ret
              exact ⟨retB HN.out.symm, hb⟩
        · have HN : Hid (Lay.wideB l v = true) := by
            show Lay.wideB l v = true
            have e : k = v.length := by rw [HL.out]; omega
            have := hall.out
            rw [e] at this
            exact wide_yes HL.out this
          go_wp2
          go_ret
          exact ⟨retB HN.out.symm, hb⟩
    · have HN : Hid (Lay.wideB l v = false) := by
        show Lay.wideB l v = false
        have : decide (v.length = l.length) = false := by simp; omega
        unfold Lay.wideB
        rw [this]; simp
      go_enter Try.func37, Try.ntmps37
      go_wp2_with fail
      refine (specCodeOk g cap l hl _ HR.out).mono ?_
      rw [hok]
      rintro e w1 ⟨rfl, hb1⟩
      go_wp2
      go_ret
      exact ⟨retB HN.out.symm, hb1⟩
end St
end Go.Proofs.Ytnlanikjlokboaa
