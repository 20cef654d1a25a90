/- Contracts of both sides' Double. -/
import Derived.Test.YtdomclicgajihaaJHi1
import Derived.Test.YtdomclicgajihaaJHs0
import Derived.Laws.StructEq
import Derived.Deep.Cut
import Derived.Deep.LoopGhost
namespace Go.Proofs.Ytdomclicgajihaa
namespace Pg
open Go.ChangeShapes Go.WideShapes Go.ChangeAt Go.RowKit St

theorem meetD {P G : Prop} (h : P → G) (p : P) : G := h p
def eqD (x y : Tx.Ins) : Bool := (x.1 == y.1) && ((x.2.1 == y.2.1) && (x.2.2 == y.2.2))
theorem eqD_iff {x y : Tx.Ins} : eqD x y = true ↔ x = y := by
  obtain ⟨a, b, c⟩ := x
  obtain ⟨d, e, f⟩ := y
  simp [eqD]
theorem fieldsD : Try.prog.underlying 96 = some (.struct (Try.prog.fieldsOf 96)) := by kernel_rfl
theorem heldD : Try.prog.stoodInHeld 96 = false := by kernel_rfl
theorem neqD (x y : Tx.Ins) (w : World) : (binOp .neq 96 (.agg #[.int .i64 x.1, .int .i64 x.2.1, .int .i64 x.2.2]) (.agg #[.int .i64 y.1, .int .i64 y.2.1, .int .i64 y.2.2])).run Try.prog w = .ok (.bool (!(eqD x y))) w := by
  rw [run_neq_struct, run_equalIn_agg w 9999 _ _ _ fieldsD heldD]
  have hu := Try.underlying96
  have h2 := Try.underlying2
  cases h1 : (x.1 == y.1) <;> cases h3 : (x.2.1 == y.2.1) <;> cases h4 : (x.2.2 == y.2.2) <;>
    simp [Program.fieldsOf, hu, Op.eqFields, go_sem, h2, eqD, h1, h3, h4]
theorem moreD {l r : List Tx.Ins} {k : Nat} (h1 : k < l.length) (h2 : k < r.length) (h : l.take k = r.take k) (e : l[k] = r[k]) : l.take (k + 1) = r.take (k + 1) := by
  rw [List.take_succ_eq_append_getElem h1, List.take_succ_eq_append_getElem h2, h, e]
set_option maxHeartbeats 1000000 in
theorem sameCode (g g' cap cap' : Nat) (l r : List Tx.Ins) (hl : l.length ≤ 1048576) (hr : r.length ≤ 1048576) (w : World) (h1 : Row w g 0 l) (h2 : Row w g' 0 r) :
    Calls Try.prog 69 #[.slice (some ⟨g, 0, none⟩) l.length cap, .slice (some ⟨g', 0, none⟩) r.length cap'] w fun e w' => e = .returned (.bool (decide (l = r))) ∧ Below w.heap.size w w' := by
  have H1 : Hid (Row w g 0 l) := h1
  have H2 : Hid (Row w g' 0 r) := h2
  clear h1 h2
  by_cases hlen : r.length = l.length
  · have HLEN : Hid (r.length = l.length) := hlen
    rw [hlen]
    clear hlen
    go_enter Try.func69, Try.ntmps69
    go_wp2
    go_loopw [13] (fun i wr => ∃ k : Nat, k ≤ l.length ∧ i = .int .i64 (k : Int) ∧ Hid (l.take k = r.take k) ∧ Below w.heap.size w wr) (fun i _ => l.length - (intOf i).toNat)
    case atStart => exact ⟨0, Nat.zero_le _, rfl, rfl, Below.refl _ _⟩
    case round =>
      obtain ⟨k, hk, rfl, hsame, hb⟩ := hrel
      by_cases hlt : k < l.length
      · have hlr : k < r.length := by rw [HLEN.out]; exact hlt
        have hki : (k : Int) < (l.length : Int) := by omega
        obtain ⟨a0, a1, a2⟩ := (H1.out.on hb) k _ (List.getElem?_eq_getElem hlt)
        obtain ⟨b0, b1, b2⟩ := (H2.out.on hb) k _ (List.getElem?_eq_getElem hlr)
        simp only [Nat.zero_add] at a0 a1 a2 b0 b1 b2
        have HT : Hid (l[k] = r[k] → l.take (k + 1) = r.take (k + 1)) := fun h => moreD hlt hlr hsame.out h
        have HF : Hid (l[k] ≠ r[k] → decide (l = r) = false) := fun h => by
          have : ¬ l = r := fun e => h (by subst e; rfl)
          simp [this]
        clear hsame
        generalize l[k] = x at *
        generalize r[k] = y at *
        clear hlr
        have hq := neqD x y
        have hbd : Below wr.heap.size wr wr.drew := (Below.refl _ _).drew
        have hbw : Below w.heap.size w wr.drew := below_over hb hbd
        cases he : eqD x y
        · have HN : Hid (decide (l = r) = false) := HF.out (fun e => by rw [eqD_iff.2 e] at he; simp at he)
          rw [he] at hq
          clear HT HF
          go_upto_region 6 with fail
          apply meetD
          case h => intro hp; go_region_law fail; all_goals exact hp
          clear a0 a1 a2 b0 b1 b2 hq hb hbd
          generalize wr.drew = W at *
          go_wp2
          go_ret
          exact ⟨retB HN.out.symm, hbw⟩
        · have HS : Hid (l.take (k + 1) = r.take (k + 1)) := HT.out (eqD_iff.1 he)
          rw [he] at hq
          clear HT HF
          go_upto_region 6 with fail
          apply meetD
          case h => intro hp; go_region_law fail; all_goals exact hp
          clear a0 a1 a2 b0 b1 b2 hq hb hbd
          generalize wr.drew = W at *
          go_wp2
          go_roundw
          case rel => exact ⟨k + 1, by omega, by go_num, HS.out, hbw⟩
          case measure => simp [intOf]; omega
      · obtain rfl : k = l.length := by omega
        have HN : Hid (decide (l = r) = true) := by
          have h := hsame.out
          rw [List.take_length, ← HLEN.out, List.take_length] at h
          simp [Hid, h]
        clear hsame
        go_wp2
        go_ret
        exact ⟨retB HN.out.symm, hb⟩
  · have HN : Hid (decide (l = r) = false) := by
      show _ = _
      simp only [decide_eq_false_iff_not]
      intro e; exact hlen (by rw [e])
    have hnb : ((l.length : Int) != (r.length : Int)) = true := by
      have : ¬ (l.length : Int) = (r.length : Int) := by omega
      simpa using this
    go_enter Try.func69, Try.ntmps69
    go_wp2
    go_ret
    exact ⟨retB HN.out.symm, Below.refl _ _⟩
set_option maxHeartbeats 1000000 in
theorem l13Same (g g' cap cap' : Nat) (l r : List Tx.Ins) (hl : l.length ≤ 1048576) (hr : r.length ≤ 1048576) (w : World) (h1 : Row w g 0 l) (h2 : Row w g' 0 r) :
    Calls Try.prog 62 #[.slice (some ⟨g, 0, none⟩) l.length cap, .slice (some ⟨g', 0, none⟩) r.length cap'] w fun e w' => e = .returned (.bool (decide (l = r))) ∧ Below w.heap.size w w' := by
  have H1 : Hid (Row w g 0 l) := h1
  have H2 : Hid (Row w g' 0 r) := h2
  clear h1 h2
  by_cases hlen : r.length = l.length
  · have HLEN : Hid (r.length = l.length) := hlen
    rw [hlen]
    clear hlen
    go_enter Try.func62, Try.ntmps62
    go_wp2
    go_loopw [5] (fun i wr => ∃ k : Nat, k ≤ l.length ∧ i = .int .i64 (k : Int) ∧ Hid (l.take k = r.take k) ∧ Below w.heap.size w wr) (fun i _ => l.length - (intOf i).toNat)
    case atStart => exact ⟨0, Nat.zero_le _, rfl, rfl, Below.refl _ _⟩
    case round =>
      obtain ⟨k, hk, rfl, hsame, hb⟩ := hrel
      by_cases hlt : k < l.length
      · have hlr : k < r.length := by rw [HLEN.out]; exact hlt
        have hki : (k : Int) < (l.length : Int) := by omega
        obtain ⟨a0, a1, a2⟩ := (H1.out.on hb) k _ (List.getElem?_eq_getElem hlt)
        obtain ⟨b0, b1, b2⟩ := (H2.out.on hb) k _ (List.getElem?_eq_getElem hlr)
        simp only [Nat.zero_add] at a0 a1 a2 b0 b1 b2
        have HT : Hid (l[k] = r[k] → l.take (k + 1) = r.take (k + 1)) := fun h => moreD hlt hlr hsame.out h
        have HF : Hid (l[k] ≠ r[k] → decide (l = r) = false) := fun h => by
          have : ¬ l = r := fun e => h (by subst e; rfl)
          simp [this]
        clear hsame
        generalize l[k] = x at *
        generalize r[k] = y at *
        clear hlr
        have hq := neqD x y
        have hbd : Below wr.heap.size wr wr.drew := (Below.refl _ _).drew
        have hbw : Below w.heap.size w wr.drew := below_over hb hbd
        cases he : eqD x y
        · have HN : Hid (decide (l = r) = false) := HF.out (fun e => by rw [eqD_iff.2 e] at he; simp at he)
          rw [he] at hq
          clear HT HF
          go_upto_region 6 with fail
          apply meetD
          case h => intro hp; go_region_law fail; all_goals exact hp
          clear a0 a1 a2 b0 b1 b2 hq hb hbd
          generalize wr.drew = W at *
          go_wp2
          go_ret
          exact ⟨retB HN.out.symm, hbw⟩
        · have HS : Hid (l.take (k + 1) = r.take (k + 1)) := HT.out (eqD_iff.1 he)
          rw [he] at hq
          clear HT HF
          go_upto_region 6 with fail
          apply meetD
          case h => intro hp; go_region_law fail; all_goals exact hp
          clear a0 a1 a2 b0 b1 b2 hq hb hbd
          generalize wr.drew = W at *
          go_wp2
          go_roundw
          case rel => exact ⟨k + 1, by omega, by go_num, HS.out, hbw⟩
          case measure => simp [intOf]; omega
      · obtain rfl : k = l.length := by omega
        have HN : Hid (decide (l = r) = true) := by
          have h := hsame.out
          rw [List.take_length, ← HLEN.out, List.take_length] at h
          simp [Hid, h]
        clear hsame
        go_wp2
        go_ret
        exact ⟨retB HN.out.symm, hb⟩
  · have HN : Hid (decide (l = r) = false) := by
      show _ = _
      simp only [decide_eq_false_iff_not]
      intro e; exact hlen (by rw [e])
    have hnb : ((l.length : Int) != (r.length : Int)) = true := by
      have : ¬ (l.length : Int) = (r.length : Int) := by omega
      simpa using this
    go_enter Try.func62, Try.ntmps62
    go_wp2
    go_ret
    exact ⟨retB HN.out.symm, Below.refl _ _⟩
end Pg
end Go.Proofs.Ytdomclicgajihaa
