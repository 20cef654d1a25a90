/- Contracts of the program's parts of the layout: which rows are layouts, the places, what is too far. -/
import Derived.Test.YtnlanikjlokboaaLo1
namespace Go.Proofs.Ytnlanikjlokboaa
namespace St
open Go.ChangeShapes Go.WideShapes Go.ChangeAt Go.RowKit

def wideP (l : List Tx.Ins) (v : List Int) (k : Nat) : Bool := decide (Lay.wd v k = 0) || (decide (Lay.wd v k = 1) && Lay.jumpB (Lay.ins l k).1)
theorem range_all {p : Nat → Bool} {k : Nat} (h : (List.range k).all p = true) (hp : p k = true) : (List.range (k + 1)).all p = true := by
  rw [List.range_succ, List.all_append, h]; simp [hp]
theorem range_no {p : Nat → Bool} {k n : Nat} (hk : k < n) (hp : p k = false) : (List.range n).all p = false := by
  cases hh : (List.range n).all p
  · rfl
  · have := List.all_eq_true.1 hh k (List.mem_range.2 hk)
    rw [hp] at this; simp at this
theorem wide_no {l : List Tx.Ins} {v : List Int} {k : Nat} (hk : k < v.length) (hp : wideP l v k = false) : Lay.wideB l v = false := by
  have : (List.range v.length).all (wideP l v) = false := range_no hk hp
  unfold wideP at this
  unfold Lay.wideB
  rw [this]; simp
theorem wide_yes {l : List Tx.Ins} {v : List Int} (hl : v.length = l.length) (h : (List.range v.length).all (wideP l v) = true) : Lay.wideB l v = true := by
  unfold wideP at h
  unfold Lay.wideB
  rw [h, hl]; simp
theorem wd_at {v : List Int} {k : Nat} (hk : k < v.length) : Lay.wd v k = v[k] := by simp [Lay.wd, hk]
theorem ins_at {l : List Tx.Ins} {k : Nat} (hk : k < l.length) : Lay.ins l k = l[k] := by simp [Lay.ins, hk]

set_option maxRecDepth 100000 in
set_option maxHeartbeats 1000000 in
theorem isLayout (g cap g' cap' : Nat) (l : List Tx.Ins) (v : List Int) (hl : l.length ≤ 1048576) (w : World) (hr : Row w g 0 l) (hi : IRow w g' 0 v) :
    Calls Try.prog 33 #[.slice (some ⟨g, 0, none⟩) l.length cap, .slice (some ⟨g', 0, none⟩) v.length cap'] w fun e w' => e = .returned (.bool (Lay.wideB l v)) ∧ Below w.heap.size w w' := by
  have HR : Hid (Row w g 0 l) := hr
  have HI : Hid (IRow w g' 0 v) := hi
  clear hr hi
  by_cases hne : (v.length : Int) = (l.length : Int)
  · have hlen : v.length = l.length := by omega
    have HL : Hid (v.length = l.length) := hlen
    rw [hlen]
    clear hne hlen
    go_enter Try.func33, Try.ntmps33
    go_wp2
    go_loopw [14] (fun i wr => ∃ k : Nat, k ≤ l.length ∧ i = .int .i64 k ∧ Hid ((List.range k).all (wideP l v) = true) ∧ Below w.heap.size w wr) (fun i _ => l.length - (intOf i).toNat)
    case atStart => exact ⟨0, Nat.zero_le _, rfl, rfl, Below.refl _ _⟩
    case round =>
      obtain ⟨k, hk, rfl, hall, hb⟩ := hrel
      by_cases hlt' : k < l.length
      · have hlt : k < v.length := by rw [HL.out]; exact hlt'
        obtain ⟨d0, d1, d2⟩ := HR.out.on hb k _ (List.getElem?_eq_getElem hlt')
        have i0 := HI.out.on hb k _ (List.getElem?_eq_getElem hlt)
        have HNO : Hid ((decide (v[k] = 0) || (decide (v[k] = 1) && Lay.jumpB l[k].1)) = false → Lay.wideB l v = false) := fun h => wide_no hlt (by rw [wideP, wd_at hlt, ins_at hlt']; exact h)
        have HYES : Hid ((decide (v[k] = 0) || (decide (v[k] = 1) && Lay.jumpB l[k].1)) = true → (List.range (k + 1)).all (wideP l v) = true) := fun h => range_all hall.out (by rw [wideP, wd_at hlt, ins_at hlt']; exact h)
        generalize l[k] = x at *
        generalize v[k] = n at *
        obtain ⟨op, a, b⟩ := x
        clear hlt
        have hki : (k : Int) < (l.length : Int) := by omega
        simp only [Nat.zero_add] at d0 d1 d2 i0
        by_cases hn0 : n = 0
        · have HY : Hid ((List.range (k + 1)).all (wideP l v) = true) := HYES.out (by simp [hn0])
          subst hn0
          go_wp2
          go_roundw
          case rel => exact ⟨k + 1, by omega, by go_num, HY.out, hb⟩
          case measure => simp [intOf]; omega
        · by_cases hn1 : n = 1
          · subst hn1
            go_wp2_with fail
            refine (isJump op a b _).mono ?_
            rintro e w2 ⟨rfl, hb2⟩
            have hw2 : Below w.heap.size w w2 := below_over hb hb2
            clear hb2 d0 d1 d2 i0
            cases hj : Lay.jumpB op
            · have HN : Hid (Lay.wideB l v = false) := HNO.out (by simp [hj])
              go_wp2
              go_ret
              exact ⟨retB HN.out.symm, hw2⟩
            · have HY : Hid ((List.range (k + 1)).all (wideP l v) = true) := HYES.out (by simp [hj])
              go_wp2
              go_roundw
              case rel => exact ⟨k + 1, by omega, by go_num, HY.out, hw2⟩
              case measure => simp [intOf]; omega
          · have HN : Hid (Lay.wideB l v = false) := HNO.out (by simp [hn0, hn1])
            go_wp2
            go_ret
            exact ⟨retB HN.out.symm, hb⟩
      · have HN : Hid (Lay.wideB l v = true) := by
          show Lay.wideB l v = true
          have e : k = v.length := by rw [HL.out]; omega
          have := hall.out
          rw [e] at this
          exact wide_yes HL.out this
        go_wp2
        go_ret
        exact ⟨retB HN.out.symm, hb⟩
  · have HN : Hid (Lay.wideB l v = false) := by
      show Lay.wideB l v = false
      have : decide (v.length = l.length) = false := by simp; omega
      unfold Lay.wideB
      rw [this]; simp
    go_enter Try.func33, Try.ntmps33
    go_wp2
    go_ret
    exact ⟨retB HN.out.symm, Below.refl _ _⟩
end St
end Go.Proofs.Ytnlanikjlokboaa
