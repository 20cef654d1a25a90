/- The laws' own marks found again; machines marked. -/
import Derived.Test.YtobaeenngffndaaMz1
namespace Go.Proofs.Ytobaeenngffndaa
namespace Pg
open Go.ChangeShapes Go.WideShapes Go.ChangeAt Go.RowKit St

set_option maxRecDepth 100000 in
set_option maxHeartbeats 2000000 in
theorem heldObjects (S : Nat → Prop) (a : Option Addr) (cap m : Nat) (mi : Int) (hmi : mi = (m : Int)) (l : List Ob) (hl : l.length ≤ 1048576) (hn : m + sumN (l.map cntO1) ≤ 4000000) (w : World) (h : OZ S w (.slice a l.length cap) (marksO m l)) :
    Calls Try.prog 49 #[.slice a l.length cap, .int .i64 mi] w fun e w' => e = .returned (.int .i64 ((m + sumN (l.map cntO1) : Nat) : Int)) ∧ w = w' := by
  subst hmi
  rcases h with ⟨g, c, T, hv, h1, h2, h3, h4, h5, h6⟩ | ⟨hv, hnil⟩
  · rw [marksO, midO_len] at hv
    rw [hv]
    have HE : Hid (∀ i x, (marksO m l)[i]? = some x → OE (T i) w g (i * 2) x) := h6
    clear h1 h2 h3 h4 h5 h6 hv
    go_enter Try.func49, Try.ntmps49
    go_wp2
    go_loop [1, 5] (fun q i => ∃ (k o : Nat), k ≤ l.length ∧ i = .int .i64 k ∧ q = .int .i64 (o : Int) ∧ Hid (o = offO m l k) ∧ o ≤ 4000000) (fun _ i => l.length - (intOf i).toNat)
    case atStart => exact ⟨0, m, Nat.zero_le _, rfl, rfl, by show _ = _; simp [offO, sumN], by omega⟩
    case round =>
      obtain ⟨k, o, hk, rfl, rfl, ho, ho4⟩ := hrel
      by_cases hlt : k < l.length
      · have hki : (k : Int) < (l.length : Int) := by omega
        have HX : Hid (l[k]? = some l[k]) := List.getElem?_eq_getElem hlt
        have HON : Hid (offO m l (k + 1) = o + cntO1 l[k]) := by show _ = _; rw [offO_next m hlt, ho.out]
        have HOL : Hid (offO m l (k + 1) ≤ 4000000) := Nat.le_trans (offO_le m l (k + 1)) hn
        have HEK : Hid (OE (T k) w g (k * 2) (markO1 o l[k])) := HE.out k _ (by rw [marksO, midO_at, HX.out, ho.out]; simp [hlt])
        obtain ⟨v1, c0, c1, z0⟩ := HEK.out
        obtain ⟨a1, e1, rfl⟩ := z0.form
        replace z0 : VZ (T k 0) w (.slice a1 (vmarks (o + 1) l[k].flds.length).length e1) (vmarks (o + 1) l[k].flds.length) := z0
        replace c1 : w.cell? ⟨g, k * 2 + 1, none⟩ = some (.slice a1 (vmarks (o + 1) l[k].flds.length).length e1) := c1
        rw [vmarks_len] at z0 c1
        have HZ0 : Hid (VZ (T k 0) w (.slice a1 l[k].flds.length e1) (vmarks (o + 1) l[k].flds.length)) := z0
        have HL0 : Hid (o + 1 + 2 * l[k].flds.length ≤ 4000000) := by show _ ≤ _; have q1 := HON.out; have q2 := HOL.out; unfold cntO1 at q1; omega
        replace c0 : w.cell? ⟨g, k * 2, none⟩ = some (.int .i64 ((o : Int))) := c0
        clear z0 HEK
        go_wp2_with fail
        refine (heldVals (T k 0) a1 e1 (o + 1) l[k].flds.length _ (by push_cast; omega) HL0.out _ HZ0.out).mono ?_
        rintro e w1 ⟨rfl, hw1⟩
        subst hw1
        have hng0 : ¬ (((o + 1 + 2 * l[k].flds.length : Nat) : Int) < 0) := by omega
        have HOF : Hid (o + 1 + 2 * l[k].flds.length = offO m l (k + 1)) := by show _ = _; rw [HON.out]; unfold cntO1; omega
        have hof4 : o + 1 + 2 * l[k].flds.length ≤ 4000000 := HL0.out
        generalize o + 1 + 2 * l[k].flds.length = o2 at *
        go_wp2
        go_round
        case rel => exact ⟨k + 1, o2, by omega, by go_num, rfl, HOF.out, hof4⟩
        case measure => simp [intOf]; omega
      · have HOE : Hid (o = m + sumN (l.map cntO1)) := by show _ = _; rw [ho.out, offO_end m (by omega)]
        go_wp2
        go_ret
        exact ⟨retN (congrArg (fun t : Nat => (t : Int)) HOE.out), rfl⟩
  · have hl0 : l = [] := List.eq_nil_of_length_eq_zero (by have := midO_len m l l.length; rw [marksO] at hnil; rw [hnil] at this; simpa using this.symm)
    subst hl0
    rw [hv]
    go_enter Try.func49, Try.ntmps49
    go_wp2
    go_loop [1, 5] (fun q i => q = .int .i64 (m : Int) ∧ i = .int .i64 0) (fun _ _ => 0)
    case atStart => exact ⟨rfl, rfl⟩
    case round =>
      obtain ⟨rfl, rfl⟩ := hrel
      go_wp2
      go_ret
      exact ⟨by simp [sumN], rfl⟩
set_option maxRecDepth 100000 in
set_option maxHeartbeats 2000000 in
theorem heldFrames (S : Nat → Prop) (a : Option Addr) (cap m : Nat) (mi : Int) (hmi : mi = (m : Int)) (l : List Fr) (hl : l.length ≤ 1048576) (hn : m + sumN (l.map cntF1) ≤ 4000000) (w : World) (h : FZ S w (.slice a l.length cap) (marksF m l)) :
    Calls Try.prog 50 #[.slice a l.length cap, .int .i64 mi] w fun e w' => e = .returned (.int .i64 ((m + sumN (l.map cntF1) : Nat) : Int)) ∧ w = w' := by
  subst hmi
  rcases h with ⟨g, c, T, hv, h1, h2, h3, h4, h5, h6⟩ | ⟨hv, hnil⟩
  · rw [marksF, midF_len] at hv
    rw [hv]
    have HE : Hid (∀ i x, (marksF m l)[i]? = some x → FE (T i) w g (i * 5) x) := h6
    clear h1 h2 h3 h4 h5 h6 hv
    go_enter Try.func50, Try.ntmps50
    go_wp2
    go_loop [1, 5] (fun q i => ∃ (k o : Nat), k ≤ l.length ∧ i = .int .i64 k ∧ q = .int .i64 (o : Int) ∧ Hid (o = offF m l k) ∧ o ≤ 4000000) (fun _ i => l.length - (intOf i).toNat)
    case atStart => exact ⟨0, m, Nat.zero_le _, rfl, rfl, by show _ = _; simp [offF, sumN], by omega⟩
    case round =>
      obtain ⟨k, o, hk, rfl, rfl, ho, ho4⟩ := hrel
      by_cases hlt : k < l.length
      · have hki : (k : Int) < (l.length : Int) := by omega
        have HX : Hid (l[k]? = some l[k]) := List.getElem?_eq_getElem hlt
        have HON : Hid (offF m l (k + 1) = o + cntF1 l[k]) := by show _ = _; rw [offF_next m hlt, ho.out]
        have HOL : Hid (offF m l (k + 1) ≤ 4000000) := Nat.le_trans (offF_le m l (k + 1)) hn
        have HEK : Hid (FE (T k) w g (k * 5) (markF1 o l[k])) := HE.out k _ (by rw [marksF, midF_at, HX.out, ho.out]; simp [hlt])
        obtain ⟨v1, v2, c0, c1, c2, c3, c4, z0, z1⟩ := HEK.out
        obtain ⟨a1, e1, rfl⟩ := z0.form
        obtain ⟨a2, e2, rfl⟩ := z1.form
        replace z0 : VZ (T k 0) w (.slice a1 (vmarks (o + 3) l[k].stk.length).length e1) (vmarks (o + 3) l[k].stk.length) := z0
        replace c3 : w.cell? ⟨g, k * 5 + 3, none⟩ = some (.slice a1 (vmarks (o + 3) l[k].stk.length).length e1) := c3
        rw [vmarks_len] at z0 c3
        have HZ0 : Hid (VZ (T k 0) w (.slice a1 l[k].stk.length e1) (vmarks (o + 3) l[k].stk.length)) := z0
        have HL0 : Hid (o + 3 + 2 * l[k].stk.length ≤ 4000000) := by show _ ≤ _; have q1 := HON.out; have q2 := HOL.out; unfold cntF1 at q1; omega
        replace z1 : VZ (T k 1) w (.slice a2 (vmarks (o + 3 + 2 * l[k].stk.length) l[k].loc.length).length e2) (vmarks (o + 3 + 2 * l[k].stk.length) l[k].loc.length) := z1
        replace c4 : w.cell? ⟨g, k * 5 + 4, none⟩ = some (.slice a2 (vmarks (o + 3 + 2 * l[k].stk.length) l[k].loc.length).length e2) := c4
        rw [vmarks_len] at z1 c4
        have HZ1 : Hid (VZ (T k 1) w (.slice a2 l[k].loc.length e2) (vmarks (o + 3 + 2 * l[k].stk.length) l[k].loc.length)) := z1
        have HL1 : Hid (o + 3 + 2 * l[k].stk.length + 2 * l[k].loc.length ≤ 4000000) := by show _ ≤ _; have q1 := HON.out; have q2 := HOL.out; unfold cntF1 at q1; omega
        replace c0 : w.cell? ⟨g, k * 5, none⟩ = some (.int .i64 ((o : Int))) := c0
        replace c1 : w.cell? ⟨g, k * 5 + 1, none⟩ = some (.int .i64 ((o : Int) + 1)) := c1
        replace c2 : w.cell? ⟨g, k * 5 + 2, none⟩ = some (.int .i64 ((o : Int) + 1 + 1)) := c2
        clear z0 z1 HEK
        go_wp2_with fail
        refine (heldVals (T k 0) a1 e1 (o + 3) l[k].stk.length _ (by push_cast; omega) HL0.out _ HZ0.out).mono ?_
        rintro e w1 ⟨rfl, hw1⟩
        subst hw1
        have hng0 : ¬ (((o + 3 + 2 * l[k].stk.length : Nat) : Int) < 0) := by omega
        go_wp2_with fail
        refine (heldVals (T k 1) a2 e2 (o + 3 + 2 * l[k].stk.length) l[k].loc.length _ (by push_cast; omega) HL1.out _ HZ1.out).mono ?_
        rintro e w2 ⟨rfl, hw2⟩
        subst hw2
        have hng1 : ¬ (((o + 3 + 2 * l[k].stk.length + 2 * l[k].loc.length : Nat) : Int) < 0) := by omega
        have HOF : Hid (o + 3 + 2 * l[k].stk.length + 2 * l[k].loc.length = offF m l (k + 1)) := by show _ = _; rw [HON.out]; unfold cntF1; omega
        have hof4 : o + 3 + 2 * l[k].stk.length + 2 * l[k].loc.length ≤ 4000000 := HL1.out
        generalize o + 3 + 2 * l[k].stk.length + 2 * l[k].loc.length = o2 at *
        go_wp2
        go_round
        case rel => exact ⟨k + 1, o2, by omega, by go_num, rfl, HOF.out, hof4⟩
        case measure => simp [intOf]; omega
      · have HOE : Hid (o = m + sumN (l.map cntF1)) := by show _ = _; rw [ho.out, offF_end m (by omega)]
        go_wp2
        go_ret
        exact ⟨retN (congrArg (fun t : Nat => (t : Int)) HOE.out), rfl⟩
  · have hl0 : l = [] := List.eq_nil_of_length_eq_zero (by have := midF_len m l l.length; rw [marksF] at hnil; rw [hnil] at this; simpa using this.symm)
    subst hl0
    rw [hv]
    go_enter Try.func50, Try.ntmps50
    go_wp2
    go_loop [1, 5] (fun q i => q = .int .i64 (m : Int) ∧ i = .int .i64 0) (fun _ _ => 0)
    case atStart => exact ⟨rfl, rfl⟩
    case round =>
      obtain ⟨rfl, rfl⟩ := hrel
      go_wp2
      go_ret
      exact ⟨by simp [sumN], rfl⟩
end Pg
end Go.Proofs.Ytobaeenngffndaa
