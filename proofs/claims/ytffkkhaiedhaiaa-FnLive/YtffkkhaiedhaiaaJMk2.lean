/- Which machines are right: plainly, and the program's functions. -/
import Derived.Test.YtffkkhaiedhaiaaJPf0
import Derived.BigQuiet
namespace Go.Proofs.Ytffkkhaiedhaiaa
namespace Pg
open Go.ChangeShapes Go.WideShapes Go.ChangeAt Go.RowKit St Wd

theorem retO {p q : Bool} (h : p = q) : Ending.returned (.bool p) = .returned (.bool q) := by rw [h]
theorem all_no {α : Type} {l : List α} {p : α → Bool} {k : Nat} (hk : k < l.length) (h : p l[k] = false) : l.all p = false := by
  cases h2 : l.all p
  · rfl
  · rw [List.all_eq_true.1 h2 _ (List.getElem_mem hk)] at h; cases h
theorem all_yes {α : Type} {l : List α} {p : α → Bool} {k : Nat} (hk : k < l.length) (ha : (l.take k).all p = true) (h : p l[k] = true) : (l.take (k + 1)).all p = true := by
  rw [List.take_succ_eq_append_getElem hk, List.all_append, ha]
  simp [h]
theorem all_end {α : Type} {l : List α} {p : α → Bool} {k : Nat} (hk : ¬ k < l.length) (ha : (l.take k).all p = true) : l.all p = true := by
  rw [List.take_of_length_le (by omega)] at ha
  exact ha

end Pg
end Go.Proofs.Ytffkkhaiedhaiaa

/- Which machines are right: the program's MachineOk. -/
namespace Go.Proofs.Ytffkkhaiedhaiaa
namespace Pg
open Go.ChangeShapes Go.WideShapes Go.ChangeAt Go.RowKit St Wd

theorem mach_fin_no {x : Mc} (h : (decide (0 ≤ x.fin) && decide (x.fin < 7)) = false) : machB x = false := by
  by_cases h1 : 0 ≤ x.fin
  · have : ¬ x.fin ≤ 6 := by
      simp [h1] at h
      omega
    simp [machB, this]
  · simp [machB, h1]
end Pg
end Go.Proofs.Ytffkkhaiedhaiaa

/- Which machines are right: the specification's MachineOk. -/
namespace Go.Proofs.Ytffkkhaiedhaiaa
namespace Pg
open Go.ChangeShapes Go.WideShapes Go.ChangeAt Go.RowKit St Wd

set_option maxHeartbeats 800000 in
theorem l8Value_at (x : Vl) (w : World) :
    Calls Try.prog 105 #[.agg #[.int .i64 x.1, .int .i64 x.2]] w fun e w' => e = .returned (.bool (valB x)) ∧ Below w.heap.size w w' := by
  obtain ⟨k, n⟩ := x
  have hxc : k = 1 ∨ k = 2 ∨ k = 3 ∨ (¬ k = 1 ∧ ¬ k = 2 ∧ ¬ k = 3) := by omega
  rcases hxc with rfl | rfl | rfl | ⟨h1, h2, h3⟩
  · have HV : Hid (valB (1, n) = okB n) := by show _ = _; simp [valB]
    go_enter Try.func105, Try.ntmps105
    go_wp2_with fail
    refine (specWordOk n _).mono ?_
    rintro e w1 ⟨rfl, rfl⟩
    go_wp2
    go_ret
    exact ⟨retO HV.out.symm, by go_grown⟩
  · have HV : Hid (valB (2, n) = decide (0 ≤ n)) := by show _ = _; simp [valB]
    go_enter Try.func105, Try.ntmps105
    go_wp2
    go_ret
    exact ⟨retO HV.out.symm, by go_grown⟩
  · have HV : Hid (valB (3, n) = decide (n = 0)) := by show _ = _; simp [valB]
    go_enter Try.func105, Try.ntmps105
    go_wp2
    go_ret
    exact ⟨retO HV.out.symm, by go_grown⟩
  · have HV : Hid (valB (k, n) = false) := by show _ = _; simp [valB, h1, h2, h3]
    go_enter Try.func105, Try.ntmps105
    go_wp2
    go_ret
    exact ⟨retO HV.out.symm, by go_grown⟩
set_option maxRecDepth 100000 in
set_option maxHeartbeats 1000000 in
theorem l8Values_at {f : Bool} (B : Nat) (most : Int) (a : Option Addr) (cap : Nat) (ms : List Vl) (hn : ms.length ≤ 1048576) (w : World) (hm : SV f B w (.slice a ms.length cap) ms) :
    Calls Try.prog 84 #[.slice a ms.length cap, .int .i64 most] w fun e w' => e = .returned (.bool (ms.all valB && decide ((ms.length : Int) ≤ most))) ∧ Below w.heap.size w w' := by
  have HM : Hid (SV f B w (.slice a ms.length cap) ms) := hm
  clear hm
  go_enter Try.func84, Try.ntmps84
  go_wp2
  go_loopw [5] (fun i wr => ∃ k : Nat, k ≤ ms.length ∧ i = .int .i64 k ∧ Hid ((ms.take k).all valB = true) ∧ Below w.heap.size w wr) (fun i _ => ms.length - (intOf i).toNat)
  case atStart => exact ⟨0, Nat.zero_le _, rfl, rfl, Below.refl _ _⟩
  case round =>
    obtain ⟨k, hk, rfl, hall, hb⟩ := hrel
    by_cases hlt : k < ms.length
    · obtain ⟨b, o, rfl, _, d0, d1⟩ := (SV.on HM.out (Keep.of hb)).get hlt
      have HNO : Hid (valB ms[k] = false → ms.all valB = false) := all_no hlt
      have HYE : Hid (valB ms[k] = true → (ms.take (k + 1)).all valB = true) := all_yes hlt hall.out
      generalize ms[k] = m at *
      have hki : (k : Int) < (ms.length : Int) := by omega
      clear hall
      go_wp2_with fail
      refine (l8Value_at m _).mono ?_
      rintro e w1 ⟨rfl, hb1⟩
      have hw1 : Below w.heap.size w w1 := below_over hb hb1
      clear hb1 hb d0 d1
      cases hv : valB m
      · have HN : Hid (ms.all valB = false) := HNO.out hv
        go_wp2
        go_ret
        exact ⟨retO (by rw [HN.out]; rfl), hw1⟩
      · have HY : Hid ((ms.take (k + 1)).all valB = true) := HYE.out hv
        go_wp2
        go_roundw
        case rel => exact ⟨k + 1, by omega, by go_num, HY.out, hw1⟩
        case measure => simp [intOf]; omega
    · have HN : Hid (ms.all valB = true) := all_end hlt hall.out
      go_wp2
      go_ret
      exact ⟨retO (by rw [HN.out]; rfl), hb⟩
theorem obB_is (x : Ob) : obB x = (x.flds.all valB && decide ((x.flds.length : Int) ≤ 24)) := by
  unfold obB
  rw [Bool.and_comm]
  congr 1
  by_cases h : x.flds.length ≤ 24
  · have : (x.flds.length : Int) ≤ 24 := by omega
    simp [h, this]
  · have : ¬ (x.flds.length : Int) ≤ 24 := by omega
    simp [h, this]
theorem frB_no1 {x : Fr} (h : (x.stk.all valB && decide ((x.stk.length : Int) ≤ 8)) = false) : frB x = false := by
  unfold frB
  by_cases h1 : (x.stk.length : Int) ≤ 8
  · rw [decide_eq_true h1, Bool.and_true] at h
    simp [h]
  · have : ¬ x.stk.length ≤ 8 := by omega
    simp [this]
theorem frB_no2 {x : Fr} (h : ¬ (x.loc.length : Int) = 8) : frB x = false := by
  have : ¬ x.loc.length = 8 := by omega
  simp [frB, this]
theorem frB_yes {x : Fr} (h : (x.stk.all valB && decide ((x.stk.length : Int) ≤ 8)) = true) (h2 : (x.loc.length : Int) = 8) : frB x = (x.loc.all valB && decide ((x.loc.length : Int) ≤ 8)) := by
  simp only [Bool.and_eq_true, decide_eq_true_eq] at h
  have e1 : x.stk.length ≤ 8 := by omega
  have e2 : x.loc.length = 8 := by omega
  simp [frB, e1, e2, h.1]
theorem mach_no_h {x : Mc} (h : x.heap.all obB = false) : machB x = false := by simp [machB, h]
theorem mach_no_f {x : Mc} (h : x.frames.all frB = false) : machB x = false := by simp [machB, h]
theorem mach_no_s {x : Mc} (h : x.said.all okB = false) : machB x = false := by simp [machB, h]
set_option maxRecDepth 100000 in
set_option maxHeartbeats 4000000 in
theorem specMachineOk {f : Bool} (B : Nat) (x : Mc) (a1 a2 a3 : Option Addr) (c1 c2 c3 : Nat) (hs : SmallK x) (w : World) (hm : KV f B w (.slice a1 x.heap.length c1) (.slice a2 x.frames.length c2) (.slice a3 x.said.length c3) x) :
    Calls Try.prog 54 #[.agg #[.slice a1 x.heap.length c1, .slice a2 x.frames.length c2, .slice a3 x.said.length c3, .int .i64 x.fin, .int .i64 x.code]] w fun e w' => e = .returned (.bool (machB x)) ∧ Below w.heap.size w w' := by
  have HM : Hid (KV f B w (.slice a1 x.heap.length c1) (.slice a2 x.frames.length c2) (.slice a3 x.said.length c3) x) := hm
  have HS1 : Hid (SmallO x.heap) := hs.1
  have HS2 : Hid (SmallF x.frames) := hs.2.1
  have hs3 : x.said.length ≤ 1048576 := hs.2.2
  have hl1 : x.heap.length ≤ 1048576 := hs.1.1
  have hl2 : x.frames.length ≤ 1048576 := hs.2.1.1
  clear hm hs
  by_cases h1 : (x.heap.length : Int) ≤ 50
  · by_cases h2 : (x.frames.length : Int) ≤ 30
    · by_cases h3 : (x.said.length : Int) ≤ 20000
      · obtain ⟨W, hW⟩ : ∃ W, W = w.alloc (.cells #[.slice a1 x.heap.length c1, .slice a2 x.frames.length c2, .slice a3 x.said.length c3, .int .i64 x.fin, .int .i64 x.code] 44) := ⟨_, rfl⟩
        have hwW : Below w.heap.size w W := by rw [hW]; exact (Below.refl _ _).alloc (Nat.le_refl _) _
        have P0 : Hid (Cells W w.heap.size [.slice a1 x.heap.length c1, .slice a2 x.frames.length c2, .slice a3 x.said.length c3, .int .i64 x.fin, .int .i64 x.code]) := by rw [hW]; exact Cells.new w _ rfl _ _
        go_enter Try.func54, Try.ntmps54
        go_wp2_with fail
        refine (St.l1In x.fin 0 6 _).mono ?_
        rintro e w1 ⟨rfl, rfl⟩
        rw [← hW]
        clear hW
        have r1 := P0.out.g1.1
        have r3 := P0.out.g3.1
        cases hf : decide (0 ≤ x.fin) && decide (x.fin ≤ 6)
        · have HB : Hid (machB x = false) := mach_fin_no (by
            rw [← hf]
            congr 1
            by_cases q : x.fin ≤ 6
            · have : x.fin < 7 := by omega
              simp [q, this]
            · have : ¬ x.fin < 7 := by omega
              simp [q, this])
          clear hf
          go_wp2
          go_ret
          exact ⟨retO HB.out.symm, hwW⟩
        · have HF : Hid (0 ≤ x.fin ∧ x.fin ≤ 6) := by show _ ∧ _; simpa using hf
          clear hf
          by_cases hz : x.fin = 0 ∧ x.frames.length = 0
          · have HB : Hid (machB x = false) := by show _ = _; simp [machB, hz.1, hz.2]
            have hz1 : (x.fin == 0) = true := by simp [hz.1]
            have hz2 : ((x.frames.length : Int) == 0) = true := by simp [hz.2]
            clear hz
            go_wp2
            go_ret
            exact ⟨retO HB.out.symm, hwW⟩
          · have HZ : Hid (¬ (x.fin = 0 ∧ x.frames.length = 0)) := hz
            have hzb : (x.fin == 0) = false ∨ ((x.fin == 0) = true ∧ ((x.frames.length : Int) == 0) = false) := by
              by_cases h1 : x.fin = 0
              · refine .inr ⟨by simp [h1], ?_⟩
                have : ¬ x.frames.length = 0 := fun h => hz ⟨h1, h⟩
                rw [beq_eq_false_iff_ne]
                omega
              · exact .inl (by simp [h1])
            clear hz
            have HB : Hid (machB x = (x.heap.all obB && x.frames.all frB && x.said.all okB)) := by
              show _ = _
              have e1 : x.heap.length ≤ 50 := by omega
              have e2 : x.frames.length ≤ 30 := by omega
              have e3 : x.said.length ≤ 20000 := by omega
              have e4 := HF.out.1
              have e5 := HF.out.2
              have e6 : (decide (x.fin = 0) && decide (x.frames.length = 0)) = false := by
                have := HZ.out
                simpa using this
              unfold machB
              rw [e6]
              simp [e1, e2, e3, e4, e5]
            have HZB : Hid ((x.fin == 0) = false ∨ ((x.fin == 0) = true ∧ ((x.frames.length : Int) == 0) = false)) := hzb
            clear hzb
            suffices HK : ∀ (hzq : (x.fin == 0) = false ∨ ((x.fin == 0) = true ∧ ((x.frames.length : Int) == 0) = false)), _ by
              exact HK HZB.out
            intro hzq
            rcases hzq with hz1 | ⟨hz1, hz2⟩
            all_goals
              clear HZB
              go_wp2
              go_loopw [3] (fun i wr => ∃ k : Nat, k ≤ x.heap.length ∧ i = .int .i64 k ∧ Hid ((x.heap.take k).all obB = true) ∧ Below W.heap.size W wr) (fun i _ => x.heap.length - (intOf i).toNat)
              case atStart => exact ⟨0, Nat.zero_le _, rfl, rfl, Below.refl _ _⟩
              case round =>
                obtain ⟨k, hk, rfl, hall, hb⟩ := hrel
                have hwr : Below w.heap.size w wr := below_over hwW hb
                have P1 : Hid (Cells wr w.heap.size [.slice a1 x.heap.length c1, .slice a2 x.frames.length c2, .slice a3 x.said.length c3, .int .i64 x.fin, .int .i64 x.code]) := P0.out.on hb
                have q0 := P1.out.g0.1
                by_cases hlt : k < x.heap.length
                · obtain ⟨b, o, rfl, _, v1, d0, d1, hv⟩ := (SO.on HM.out.1 (Keep.of hwr)).get hlt
                  obtain ⟨a4, c4, rfl⟩ := hv.form
                  have HV : Hid (SV f B wr (.slice a4 x.heap[k].flds.length c4) x.heap[k].flds) := hv
                  have HSM : Hid (SmallO1 x.heap[k]) := HS1.out.2 _ (List.getElem_mem hlt)
                  have HNO : Hid (obB x.heap[k] = false → x.heap.all obB = false) := all_no hlt
                  have HYE : Hid (obB x.heap[k] = true → (x.heap.take (k + 1)).all obB = true) := all_yes hlt hall.out
                  clear hv
                  generalize x.heap[k] = m at *
                  have hki : (k : Int) < (x.heap.length : Int) := by omega
                  clear hall
                  go_wp2_with fail
                  refine (l8Values_at B 24 a4 c4 m.flds HSM.out _ HV.out).mono ?_
                  rw [← obB_is m]
                  rintro e w1 ⟨rfl, hb1⟩
                  have hw1 : Below W.heap.size W w1 := below_over hb hb1
                  have hww1 : Below w.heap.size w w1 := below_over hwr hb1
                  clear hb1 hb d0 d1 HV HSM hwr
                  cases hv : obB m
                  · have HN : Hid (machB x = false) := mach_no_h (HNO.out hv)
                    go_wp2
                    go_ret
                    exact ⟨retO HN.out.symm, hww1⟩
                  · have HY : Hid ((x.heap.take (k + 1)).all obB = true) := HYE.out hv
                    go_wp2
                    go_roundw
                    case rel => exact ⟨k + 1, by omega, by go_num, HY.out, hw1⟩
                    case measure => simp [intOf]; omega
                · have HA1 : Hid (x.heap.all obB = true) := all_end hlt hall.out
                  clear hall
                  go_wp2
                  go_loopw [4] (fun i wr => ∃ k : Nat, k ≤ x.frames.length ∧ i = .int .i64 k ∧ Hid ((x.frames.take k).all frB = true) ∧ Below W.heap.size W wr) (fun i _ => x.frames.length - (intOf i).toNat)
                  case atStart => exact ⟨0, Nat.zero_le _, rfl, rfl, hb⟩
                  case round =>
                    obtain ⟨k2, hk2, rfl, hall, hb⟩ := hrel
                    have hwr : Below w.heap.size w wr := below_over hwW hb
                    have P1 : Hid (Cells wr w.heap.size [.slice a1 x.heap.length c1, .slice a2 x.frames.length c2, .slice a3 x.said.length c3, .int .i64 x.fin, .int .i64 x.code]) := P0.out.on hb
                    have q1 := P1.out.g1.1
                    by_cases hlt : k2 < x.frames.length
                    · obtain ⟨b, o, rfl, _, v1, v2, d0, d1, d2, d3, d4, hv⟩ := (SF.on HM.out.2.1 (Keep.of hwr)).get hlt
                      obtain ⟨a4, c4, rfl⟩ := hv.1.form
                      obtain ⟨a5, c5, rfl⟩ := hv.2.form
                      have HV : Hid (FV f B wr (.slice a4 x.frames[k2].stk.length c4) (.slice a5 x.frames[k2].loc.length c5) x.frames[k2]) := hv
                      have HSM : Hid (SmallF1 x.frames[k2]) := HS2.out.2 _ (List.getElem_mem hlt)
                      have HNO : Hid (frB x.frames[k2] = false → x.frames.all frB = false) := all_no hlt
                      have HYE : Hid (frB x.frames[k2] = true → (x.frames.take (k2 + 1)).all frB = true) := all_yes hlt hall.out
                      clear hv
                      generalize x.frames[k2] = m at *
                      have hki : (k2 : Int) < (x.frames.length : Int) := by omega
                      clear hall
                      go_wp2_with fail
                      refine (l8Values_at B 8 a4 c4 m.stk HSM.out.1 _ HV.out.1).mono ?_
                      rintro e w1 ⟨rfl, hb1⟩
                      have hw1 : Below W.heap.size W w1 := below_over hb hb1
                      have hww1 : Below w.heap.size w w1 := below_over hwr hb1
                      have HV1 : Hid (FV f B w1 (.slice a4 m.stk.length c4) (.slice a5 m.loc.length c5) m) := HV.out.on (Keep.of hb1)
                      have l4 : b < wr.heap.size := cell_lt d4
                      have e4 := (hb1.cell (p := ⟨b, o + k2 * 5 + 4, none⟩) l4).trans d4
                      have P2 : Hid (Cells w1 w.heap.size [.slice a1 x.heap.length c1, .slice (some ⟨b, o, none⟩) x.frames.length c2, .slice a3 x.said.length c3, .int .i64 x.fin, .int .i64 x.code]) := P1.out.on hb1
                      have q2 := P2.out.g1.1
                      clear hb1 hb d0 d1 d2 d3 d4 HV hwr l4 P1 q1
                      cases hv : (m.stk.all valB && decide ((m.stk.length : Int) ≤ 8))
                      · have HN : Hid (machB x = false) := mach_no_f (HNO.out (frB_no1 hv))
                        go_wp2
                        go_ret
                        exact ⟨retO HN.out.symm, hww1⟩
                      · have HV2 : Hid ((m.stk.all valB && decide ((m.stk.length : Int) ≤ 8)) = true) := hv
                        clear hv
                        by_cases hl8 : (m.loc.length : Int) = 8
                        · have h8 : ((m.loc.length : Int) != 8) = false := by simp [hl8]
                          have HFB : Hid (frB m = (m.loc.all valB && decide ((m.loc.length : Int) ≤ 8))) := frB_yes HV2.out hl8
                          clear hl8
                          go_wp2_with fail
                          refine (l8Values_at B 8 a5 c5 m.loc HSM.out.2 _ HV1.out.2).mono ?_
                          rw [← HFB.out]
                          rintro e w2 ⟨rfl, hb2⟩
                          have hw2 : Below W.heap.size W w2 := below_over hw1 hb2
                          have hww2 : Below w.heap.size w w2 := below_over hww1 hb2
                          clear hb2 hw1 hww1 e4 q2 HV1 HSM HV2
                          cases hv : frB m
                          · have HN : Hid (machB x = false) := mach_no_f (HNO.out hv)
                            go_wp2
                            go_ret
                            exact ⟨retO HN.out.symm, hww2⟩
                          · have HY : Hid ((x.frames.take (k2 + 1)).all frB = true) := HYE.out hv
                            go_wp2
                            go_roundw
                            case rel => exact ⟨k2 + 1, by omega, by go_num, HY.out, hw2⟩
                            case measure => simp [intOf]; omega
                        · have h8 : ((m.loc.length : Int) != 8) = true := by simp; omega
                          have HN : Hid (machB x = false) := mach_no_f (HNO.out (frB_no2 hl8))
                          clear hl8
                          go_wp2
                          go_ret
                          exact ⟨retO HN.out.symm, hww1⟩
                    · have HA2 : Hid (x.frames.all frB = true) := all_end hlt hall.out
                      clear hall
                      go_wp2
                      go_loopw [5] (fun i wr => ∃ k : Nat, k ≤ x.said.length ∧ i = .int .i64 k ∧ Hid ((x.said.take k).all okB = true) ∧ Below W.heap.size W wr) (fun i _ => x.said.length - (intOf i).toNat)
                      case atStart => exact ⟨0, Nat.zero_le _, rfl, rfl, hb⟩
                      case round =>
                        obtain ⟨k3, hk3, rfl, hall, hb⟩ := hrel
                        have hwr : Below w.heap.size w wr := below_over hwW hb
                        have P1 : Hid (Cells wr w.heap.size [.slice a1 x.heap.length c1, .slice a2 x.frames.length c2, .slice a3 x.said.length c3, .int .i64 x.fin, .int .i64 x.code]) := P0.out.on hb
                        have q2 := P1.out.g2.1
                        by_cases hlt : k3 < x.said.length
                        · obtain ⟨b, o, rfl, _, a0⟩ := (SI.on HM.out.2.2 (Keep.of hwr)).get hlt
                          have d0 : wr.cell? ⟨b, o + k3, none⟩ = some (.int .i64 x.said[k3]) := by simpa [IntAt] using a0
                          have HNO : Hid (okB x.said[k3] = false → x.said.all okB = false) := all_no hlt
                          have HYE : Hid (okB x.said[k3] = true → (x.said.take (k3 + 1)).all okB = true) := all_yes hlt hall.out
                          clear a0
                          generalize x.said[k3] = m at *
                          have hki : (k3 : Int) < (x.said.length : Int) := by omega
                          clear hall
                          go_wp2_with fail
                          refine (specWordOk m _).mono ?_
                          rintro e w1 ⟨rfl, hz⟩
                          subst hz
                          clear d0
                          cases hv : okB m
                          · have HN : Hid (machB x = false) := mach_no_s (HNO.out hv)
                            go_wp2
                            go_ret
                            exact ⟨retO HN.out.symm, hwr⟩
                          · have HY : Hid ((x.said.take (k3 + 1)).all okB = true) := HYE.out hv
                            go_wp2
                            go_roundw
                            case rel => exact ⟨k3 + 1, by omega, by go_num, HY.out, hb⟩
                            case measure => simp [intOf]; omega
                        · have HA3 : Hid (x.said.all okB = true) := all_end hlt hall.out
                          clear hall
                          go_wp2
                          go_ret
                          exact ⟨retO (by rw [HB.out, HA1.out, HA2.out, HA3.out]; rfl), hwr⟩
      · have HB : Hid (machB x = false) := by
          show _ = _
          have : ¬ x.said.length ≤ 20000 := by omega
          simp [machB, this]
        go_enter Try.func54, Try.ntmps54
        go_wp2
        go_ret
        exact ⟨retO HB.out.symm, by go_grown⟩
    · have HB : Hid (machB x = false) := by
        show _ = _
        have : ¬ x.frames.length ≤ 30 := by omega
        simp [machB, this]
      go_enter Try.func54, Try.ntmps54
      go_wp2
      go_ret
      exact ⟨retO HB.out.symm, by go_grown⟩
  · have HB : Hid (machB x = false) := by
      show _ = _
      have : ¬ x.heap.length ≤ 50 := by omega
      simp [machB, this]
    go_enter Try.func54, Try.ntmps54
    go_wp2
    go_ret
    exact ⟨retO HB.out.symm, by go_grown⟩
end Pg
end Go.Proofs.Ytffkkhaiedhaiaa
