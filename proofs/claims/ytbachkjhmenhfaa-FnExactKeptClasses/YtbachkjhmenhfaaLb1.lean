/- Contracts of the specification's LabelsOk. -/
import Derived.Test.YtbachkjhmenhfaaLb0
import Derived.Deep.QuietTactic
import Derived.BigQuiet
namespace Go.Proofs.Ytbachkjhmenhfaa
namespace Pg
open Go.ChangeShapes Go.WideShapes Go.ChangeAt Go.RowKit St

theorem drewS {B : Nat} {u w : World} (h : Below B u w) (n : Nat) : Below B u (w.drewN n) := h.trans ⟨rfl, rfl, rfl, Nat.le_refl _, fun _ _ => rfl⟩
set_option maxRecDepth 100000 in
set_option maxHeartbeats 2000000 in
theorem l15Texts_at (a : Option Addr) (cap : Nat) (l : List ByteArray) (hl : l.length ≤ 1048576) (w : World) (h : ST 0 w (.slice a l.length cap) l) :
    Calls Try.prog 50 #[.slice a l.length cap] w fun e w' => e = .returned (.bool (labB l)) ∧ Below w.heap.size w w' := by
  have H : Hid (ST 0 w (.slice a l.length cap) l) := h
  clear h
  go_enter Try.func50, Try.ntmps50
  go_wp2
  go_loopw [3] (fun i wr => ∃ k : Nat, k ≤ l.length ∧ i = .int .i64 (k : Int) ∧ Hid ((List.range k).all (okS l) = true) ∧ Below w.heap.size w wr) (fun i _ => l.length - (intOf i).toNat)
  case atStart => exact ⟨0, Nat.zero_le _, rfl, rfl, Below.refl _ _⟩
  case round =>
    obtain ⟨k, hk, rfl, hall, hb⟩ := hrel
    by_cases hlt : k < l.length
    · have hki : (k : Int) < (l.length : Int) := by omega
      obtain ⟨b, o, rfl, _, c0⟩ := (H.out.on (Keep.of hb)).get hlt
      unfold StrAt at c0
      rw [Nat.mul_one] at c0
      have HO : Hid (okS l k = (decide (1 ≤ l[k].size) && decide (l[k].size ≤ 30) && !memT l[k] (l.take k))) := okS_at hlt
      have HNX : Hid (okS l k = true → (List.range (k + 1)).all (okS l) = true) := lab_next hall.out
      have HNO : Hid (okS l k = false → labB l = false) := lab_no hlt
      obtain ⟨t, ht⟩ : ∃ t, t = l[k] := ⟨_, rfl⟩
      rw [← ht] at c0 HO
      have HTK : Hid (t = l[k]) := ht
      clear hall ht
      by_cases h1 : t.size = 0
      · have HR : Hid (labB l = false) := HNO.out (by rw [HO.out, h1]; rfl)
        have h1i : (t.size : Int) < 1 := by omega
        clear HO HNX HNO h1
        go_wp2
        go_ret
        exact ⟨by rw [HR.out]; rfl, hb⟩
      · by_cases h2 : 30 < t.size
        · have HR : Hid (labB l = false) := HNO.out (by rw [HO.out, decide_eq_false (p := t.size ≤ 30) (by omega)]; simp)
          have h1i : ¬ (t.size : Int) < 1 := by omega
          have h2i : (30 : Int) < (t.size : Int) := by omega
          clear HO HNX HNO
          go_wp2
          go_ret
          exact ⟨by rw [HR.out]; rfl, hb⟩
        · have h1i : ¬ (t.size : Int) < 1 := by omega
          have h2i : ¬ (30 : Int) < (t.size : Int) := by omega
          have HV : Hid (okS l k = !memT t (l.take k)) := by
            show _ = _
            rw [HO.out, decide_eq_true (p := 1 ≤ t.size) (by omega), decide_eq_true (p := t.size ≤ 30) (by omega)]; rfl
          clear HO h1 h2
          go_wp2
          go_loopw [4] (fun i wq => ∃ j : Nat, j ≤ k ∧ i = .int .i64 (j : Int) ∧ Hid (memT t (l.take j) = false) ∧ Below w.heap.size w wq) (fun i _ => k - (intOf i).toNat)
          case atStart => exact ⟨0, Nat.zero_le _, rfl, by show memT _ _ = _; simp [memT], hb⟩
          case round =>
            clear hb c0
            obtain ⟨j, hj, rfl, hno, hb⟩ := hrel
            by_cases hjk : j < k
            · have hji : (j : Int) < (k : Int) := by omega
              have hjl : (j : Int) < (l.length : Int) := by omega
              obtain ⟨b', o', hbo, _, d0⟩ := (H.out.on (Keep.of hb)).get (k := j) (by omega)
              injection hbo with hbo
              injection hbo with e1 e2
              subst e1 e2
              unfold StrAt at d0
              rw [Nat.mul_one] at d0
              obtain ⟨b'', o'', hbo, _, c0⟩ := (H.out.on (Keep.of hb)).get hlt
              injection hbo with hbo
              injection hbo with e1 e2
              subst e1 e2
              unfold StrAt at c0
              rw [Nat.mul_one, ← HTK.out] at c0
              have HM : Hid (memT t (l.take (j + 1)) = (memT t (l.take j) || eqT t l[j])) := memT_take (by omega)
              have HY : Hid (eqT t l[j] = true → memT t (l.take k) = true) := fun h => by
                have hq : j < (l.take k).length := by rw [List.length_take]; omega
                refine memT_yes hq ?_
                rw [List.getElem_take]; exact h
              obtain ⟨u, hu⟩ : ∃ u, u = l[j] := ⟨_, rfl⟩
              rw [← hu] at d0 HM HY
              clear hu
              have hq := eq_text u t
              rw [eqT_symm u t] at hq
              cases he : eqT t u
              · rw [he] at hq
                have HX : Hid (memT t (l.take (j + 1)) = false) := by show _ = _; rw [HM.out, hno.out, he]; rfl
                clear HM HY hno he
                go_wp2
                go_quiet (fail)
                go_wp2
                go_roundw
                case rel => exact ⟨j + 1, by omega, by go_num, HX.out, drewS hb _⟩
                case measure => simp [intOf]; omega
              · rw [he] at hq
                have HR : Hid (labB l = false) := HNO.out (by rw [HV.out, HY.out he]; rfl)
                clear HM HY hno he HNX HNO HV
                go_wp2
                go_quiet (fail)
                go_wp2
                go_ret
                exact ⟨by rw [HR.out]; rfl, drewS hb _⟩
            · obtain rfl : j = k := by omega
              have HX : Hid ((List.range (j + 1)).all (okS l) = true) := HNX.out (by rw [HV.out, hno.out]; rfl)
              clear hno HNX HNO HV
              go_wp2
              go_roundw
              case rel => exact ⟨j + 1, by omega, by go_num, HX.out, hb⟩
              case measure => simp [intOf]; omega
    · have HR : Hid (labB l = true) := by
        obtain rfl : k = l.length := by omega
        exact hall.out
      clear hall
      go_wp2
      go_ret
      exact ⟨by rw [HR.out]; rfl, hb⟩
theorem l1InC (n a b : Int) (w : World) : Calls Try.prog 49 #[.int .i64 n, .int .i64 a, .int .i64 b] w fun e w' => e = .returned (.bool (decide (a ≤ n) && decide (n ≤ b))) ∧ w' = w := by
  by_cases ha : a ≤ n
  · rw [decide_eq_true ha, Bool.true_and]
    go_enter Try.func49, Try.ntmps49
    go_wp2
    go_ret
    exact ⟨rfl, rfl⟩
  · rw [decide_eq_false ha, Bool.false_and]
    go_enter Try.func49, Try.ntmps49
    go_wp2
    go_ret
    exact ⟨rfl, rfl⟩
theorem specLabels (a1 a2 : Option Addr) (c1 c2 : Nat) (l1 l2 : List ByteArray) (h1 : l1.length ≤ 1048576) (h2 : l2.length ≤ 1048576) (w : World) (hs1 : ST 0 w (.slice a1 l1.length c1) l1) (hs2 : ST 0 w (.slice a2 l2.length c2) l2) :
    Calls Try.prog 21 #[.agg #[.slice a1 l1.length c1, .slice a2 l2.length c2]] w fun e w' => e = .returned (.bool (labsB l1 l2)) ∧ Below w.heap.size w w' := by
  have hbl : Below w.heap.size w (w.alloc (.cells #[.slice a1 l1.length c1, .slice a2 l2.length c2] 29)) := (Below.refl _ _).alloc (Nat.le_refl _) _
  have H1 : Hid (ST 0 (w.alloc (.cells #[.slice a1 l1.length c1, .slice a2 l2.length c2] 29)) (.slice a1 l1.length c1) l1) := hs1.on (Keep.of hbl)
  have H2 : Hid (ST 0 (w.alloc (.cells #[.slice a1 l1.length c1, .slice a2 l2.length c2] 29)) (.slice a2 l2.length c2) l2) := hs2.on (Keep.of hbl)
  clear hs1 hs2
  have HQ : Hid (labsB l1 l2 = ((decide ((1 : Int) ≤ (l1.length : Int)) && decide ((l1.length : Int) ≤ 6)) && ((l2.length : Int) == 20) && labB l1 && labB l2)) := by
    show _ = _
    unfold labsB
    have e1 : decide (1 ≤ l1.length) = decide ((1 : Int) ≤ (l1.length : Int)) := by rw [decide_eq_decide]; omega
    have e2 : decide (l1.length ≤ 6) = decide ((l1.length : Int) ≤ 6) := by rw [decide_eq_decide]; omega
    have e3 : decide (l2.length = 20) = ((l2.length : Int) == 20) := by rw [Bool.eq_iff_iff, decide_eq_true_eq, beq_iff_eq]; omega
    rw [e1, e2, e3]
  rw [HQ.out]
  clear HQ
  go_enter Try.func21, Try.ntmps21
  go_wp2_with fail
  refine (l1InC (l1.length : Int) 1 6 _).mono ?_
  rintro e w1 ⟨rfl, rfl⟩
  cases hq : (decide ((1 : Int) ≤ (l1.length : Int)) && decide ((l1.length : Int) ≤ 6))
  · go_wp2
    go_ret
    exact ⟨by rw [hq]; rfl, hbl⟩
  · cases hq2 : ((l2.length : Int) == 20)
    · go_wp2
      go_ret
      exact ⟨by rw [hq, hq2]; rfl, hbl⟩
    · go_wp2_with fail
      refine (l15Texts_at a1 c1 l1 h1 _ H1.out).mono ?_
      rintro e w1 ⟨rfl, hb1⟩
      have hbl1 := below_over hbl hb1
      have H3 : Hid (ST 0 w1 (.slice a2 l2.length c2) l2) := H2.out.on (Keep.of hb1)
      have hf0 := hb1.cell (p := ⟨w.heap.size, 1, none⟩) (by simp)
      have hf1 : w1.cell? ⟨w.heap.size, 1, none⟩ = some (.slice a2 l2.length c2) := by rw [hf0]; simp [go_sem]
      clear hb1 hf0 H2 H1
      cases hq3 : labB l1
      · go_wp2
        go_ret
        exact ⟨by rw [hq, hq2, hq3]; rfl, hbl1⟩
      · go_wp2_with fail
        refine (l15Texts_at a2 c2 l2 h2 _ H3.out).mono ?_
        rintro e w2 ⟨rfl, hb2⟩
        go_wp2
        go_ret
        exact ⟨by rw [hq, hq2, hq3]; rfl, below_over hbl1 hb2⟩
end Pg
end Go.Proofs.Ytbachkjhmenhfaa
