/- Which machines are right: the specification's MachineOk. -/
import Derived.Test.YtffkkhaiedhaiaaJMk1
import Derived.Test.YtffkkhaiedhaiaaJMq1
import Derived.Test.YtffkkhaiedhaiaaJMc4
import Derived.Test.YtffkkhaiedhaiaaJMt1
import Derived.Test.YtffkkhaiedhaiaaJPs1
namespace Go.Proofs.Ytffkkhaiedhaiaa
namespace Pg
open Go.ChangeShapes Go.WideShapes Go.ChangeAt Go.RowKit St Wd

set_option maxHeartbeats 800000 in
theorem l8Value_at (x : Vl) (w : World) :
    Calls Try.prog 105 #[.agg #[.int .i64 x.1, .int .i64 x.2]] w fun e w' => e = .returned (.bool (valB x)) ∧ Below w.heap.size w w' := by
  obtain ⟨k, n⟩ := x
  have hxc : k = 1 ∨ k = 2 ∨ k = 3 ∨ (¬ k = 1 ∧ ¬ k = 2 ∧ ¬ k = 3) := by omega
  rcases hxc with rfl | rfl | rfl | ⟨h1, h2, h3⟩
  · have HV : Hid (valB (1, n) = okB n) := by show _ = _; simp [valB]
    go_enter Try.func105, Try.ntmps105
    go_wp2_with fail
    refine (specWordOk n _).mono ?_
    rintro e w1 ⟨rfl, rfl⟩
    go_wp2
    go_ret
    exact ⟨retO HV.out.symm, by go_grown⟩
  · have HV : Hid (valB (2, n) = decide (0 ≤ n)) := by show _ = _; simp [valB]
    go_enter Try.func105, Try.ntmps105
    go_wp2
    go_ret
    exact ⟨retO HV.out.symm, by go_grown⟩
  · have HV : Hid (valB (3, n) = decide (n = 0)) := by show _ = _; simp [valB]
    go_enter Try.func105, Try.ntmps105
    go_wp2
    go_ret
    exact ⟨retO HV.out.symm, by go_grown⟩
  · have HV : Hid (valB (k, n) = false) := by show _ = _; simp [valB, h1, h2, h3]
    go_enter Try.func105, Try.ntmps105
    go_wp2
    go_ret
    exact ⟨retO HV.out.symm, by go_grown⟩
set_option maxRecDepth 100000 in
set_option maxHeartbeats 1000000 in
theorem l8Values_at {f : Bool} (B : Nat) (most : Int) (a : Option Addr) (cap : Nat) (ms : List Vl) (hn : ms.length ≤ 1048576) (w : World) (hm : SV f B w (.slice a ms.length cap) ms) :
    Calls Try.prog 84 #[.slice a ms.length cap, .int .i64 most] w fun e w' => e = .returned (.bool (ms.all valB && decide ((ms.length : Int) ≤ most))) ∧ Below w.heap.size w w' := by
  have HM : Hid (SV f B w (.slice a ms.length cap) ms) := hm
  clear hm
  go_enter Try.func84, Try.ntmps84
  go_wp2
  go_loopw [5] (fun i wr => ∃ k : Nat, k ≤ ms.length ∧ i = .int .i64 k ∧ Hid ((ms.take k).all valB = true) ∧ Below w.heap.size w wr) (fun i _ => ms.length - (intOf i).toNat)
  case atStart => exact ⟨0, Nat.zero_le _, rfl, rfl, Below.refl _ _⟩
  case round =>
    obtain ⟨k, hk, rfl, hall, hb⟩ := hrel
    by_cases hlt : k < ms.length
    · obtain ⟨b, o, rfl, _, d0, d1⟩ := (SV.on HM.out (Keep.of hb)).get hlt
      have HNO : Hid (valB ms[k] = false → ms.all valB = false) := all_no hlt
      have HYE : Hid (valB ms[k] = true → (ms.take (k + 1)).all valB = true) := all_yes hlt hall.out
      generalize ms[k] = m at *
      have hki : (k : Int) < (ms.length : Int) := by omega
      clear hall
      go_wp2_with fail
      refine (l8Value_at m _).mono ?_
      rintro e w1 ⟨rfl, hb1⟩
      have hw1 : Below w.heap.size w w1 := below_over hb hb1
      clear hb1 hb d0 d1
      cases hv : valB m
      · have HN : Hid (ms.all valB = false) := HNO.out hv
        go_wp2
        go_ret
        exact ⟨retO (by rw [HN.out]; rfl), hw1⟩
      · have HY : Hid ((ms.take (k + 1)).all valB = true) := HYE.out hv
        go_wp2
        go_roundw
        case rel => exact ⟨k + 1, by omega, by go_num, HY.out, hw1⟩
        case measure => simp [intOf]; omega
    · have HN : Hid (ms.all valB = true) := all_end hlt hall.out
      go_wp2
      go_ret
      exact ⟨retO (by rw [HN.out]; rfl), hb⟩
theorem obB_is (x : Ob) : obB x = (x.flds.all valB && decide ((x.flds.length : Int) ≤ 24)) := by
  unfold obB
  rw [Bool.and_comm]
  congr 1
  by_cases h : x.flds.length ≤ 24
  · have : (x.flds.length : Int) ≤ 24 := by omega
    simp [h, this]
  · have : ¬ (x.flds.length : Int) ≤ 24 := by omega
    simp [h, this]
theorem frB_no1 {x : Fr} (h : (x.stk.all valB && decide ((x.stk.length : Int) ≤ 8)) = false) : frB x = false := by
  unfold frB
  by_cases h1 : (x.stk.length : Int) ≤ 8
  · rw [decide_eq_true h1, Bool.and_true] at h
    simp [h]
  · have : ¬ x.stk.length ≤ 8 := by omega
    simp [this]
theorem frB_no2 {x : Fr} (h : ¬ (x.loc.length : Int) = 8) : frB x = false := by
  have : ¬ x.loc.length = 8 := by omega
  simp [frB, this]
theorem frB_yes {x : Fr} (h : (x.stk.all valB && decide ((x.stk.length : Int) ≤ 8)) = true) (h2 : (x.loc.length : Int) = 8) : frB x = (x.loc.all valB && decide ((x.loc.length : Int) ≤ 8)) := by
  simp only [Bool.and_eq_true, decide_eq_true_eq] at h
  have e1 : x.stk.length ≤ 8 := by omega
  have e2 : x.loc.length = 8 := by omega
  simp [frB, e1, e2, h.1]
theorem mach_no_h {x : Mc} (h : x.heap.all obB = false) : machB x = false := by simp [machB, h]
theorem mach_no_f {x : Mc} (h : x.frames.all frB = false) : machB x = false := by simp [machB, h]
theorem mach_no_s {x : Mc} (h : x.said.all okB = false) : machB x = false := by simp [machB, h]
set_option maxRecDepth 100000 in
set_option maxHeartbeats 4000000 in
theorem specMachineOk {f : Bool} (B : Nat) (x : Mc) (a1 a2 a3 : Option Addr) (c1 c2 c3 : Nat) (hs : SmallK x) (w : World) (hm : KV f B w (.slice a1 x.heap.length c1) (.slice a2 x.frames.length c2) (.slice a3 x.said.length c3) x) :
    Calls Try.prog 54 #[.agg #[.slice a1 x.heap.length c1, .slice a2 x.frames.length c2, .slice a3 x.said.length c3, .int .i64 x.fin, .int .i64 x.code]] w fun e w' => e = .returned (.bool (machB x)) ∧ Below w.heap.size w w' := by
  have HM : Hid (KV f B w (.slice a1 x.heap.length c1) (.slice a2 x.frames.length c2) (.slice a3 x.said.length c3) x) := hm
  have HS1 : Hid (SmallO x.heap) := hs.1
  have HS2 : Hid (SmallF x.frames) := hs.2.1
  have hs3 : x.said.length ≤ 1048576 := hs.2.2
  have hl1 : x.heap.length ≤ 1048576 := hs.1.1
  have hl2 : x.frames.length ≤ 1048576 := hs.2.1.1
  clear hm hs
  by_cases h1 : (x.heap.length : Int) ≤ 50
  · by_cases h2 : (x.frames.length : Int) ≤ 30
    · by_cases h3 : (x.said.length : Int) ≤ 20000
      · obtain ⟨W, hW⟩ : ∃ W, W = w.alloc (.cells #[.slice a1 x.heap.length c1, .slice a2 x.frames.length c2, .slice a3 x.said.length c3, .int .i64 x.fin, .int .i64 x.code] 44) := ⟨_, rfl⟩
        have hwW : Below w.heap.size w W := by rw [hW]; exact (Below.refl _ _).alloc (Nat.le_refl _) _
        have P0 : Hid (Cells W w.heap.size [.slice a1 x.heap.length c1, .slice a2 x.frames.length c2, .slice a3 x.said.length c3, .int .i64 x.fin, .int .i64 x.code]) := by rw [hW]; exact Cells.new w _ rfl _ _
        go_enter Try.func54, Try.ntmps54
        go_wp2_with fail
        refine (St.l1In x.fin 0 6 _).mono ?_
        rintro e w1 ⟨rfl, rfl⟩
        rw [← hW]
        clear hW
        have r1 := P0.out.g1.1
        have r3 := P0.out.g3.1
        cases hf : decide (0 ≤ x.fin) && decide (x.fin ≤ 6)
        · have HB : Hid (machB x = false) := mach_fin_no (by
            rw [← hf]
            congr 1
            by_cases q : x.fin ≤ 6
            · have : x.fin < 7 := by omega
              simp [q, this]
            · have : ¬ x.fin < 7 := by omega
              simp [q, this])
          clear hf
          go_wp2
          go_ret
          exact ⟨retO HB.out.symm, hwW⟩
        · have HF : Hid (0 ≤ x.fin ∧ x.fin ≤ 6) := by show _ ∧ _; simpa using hf
          clear hf
          by_cases hz : x.fin = 0 ∧ x.frames.length = 0
          · have HB : Hid (machB x = false) := by show _ = _; simp [machB, hz.1, hz.2]
            have hz1 : (x.fin == 0) = true := by simp [hz.1]
            have hz2 : ((x.frames.length : Int) == 0) = true := by simp [hz.2]
            clear hz
            go_wp2
            go_ret
            exact ⟨retO HB.out.symm, hwW⟩
          · have HZ : Hid (¬ (x.fin = 0 ∧ x.frames.length = 0)) := hz
            have hzb : (x.fin == 0) = false ∨ ((x.fin == 0) = true ∧ ((x.frames.length : Int) == 0) = false) := by
              by_cases h1 : x.fin = 0
              · refine .inr ⟨by simp [h1], ?_⟩
                have : ¬ x.frames.length = 0 := fun h => hz ⟨h1, h⟩
                rw [beq_eq_false_iff_ne]
                omega
              · exact .inl (by simp [h1])
            clear hz
            have HB : Hid (machB x = (x.heap.all obB && x.frames.all frB && x.said.all okB)) := by
              show _ = _
              have e1 : x.heap.length ≤ 50 := by omega
              have e2 : x.frames.length ≤ 30 := by omega
              have e3 : x.said.length ≤ 20000 := by omega
              have e4 := HF.out.1
              have e5 := HF.out.2
              have e6 : (decide (x.fin = 0) && decide (x.frames.length = 0)) = false := by
                have := HZ.out
                simpa using this
              unfold machB
              rw [e6]
              simp [e1, e2, e3, e4, e5]
            have HZB : Hid ((x.fin == 0) = false ∨ ((x.fin == 0) = true ∧ ((x.frames.length : Int) == 0) = false)) := hzb
            clear hzb
            suffices HK : ∀ (hzq : (x.fin == 0) = false ∨ ((x.fin == 0) = true ∧ ((x.frames.length : Int) == 0) = false)), _ by
              exact HK HZB.out
            intro hzq
            rcases hzq with hz1 | ⟨hz1, hz2⟩
            all_goals
              clear HZB
              go_wp2
              go_loopw [3] (fun i wr => ∃ k : Nat, k ≤ x.heap.length ∧ i = .int .i64 k ∧ Hid ((x.heap.take k).all obB = true) ∧ Below W.heap.size W wr) (fun i _ => x.heap.length - (intOf i).toNat)
              case atStart => exact ⟨0, Nat.zero_le _, rfl, rfl, Below.refl _ _⟩
              case round =>
                obtain ⟨k, hk, rfl, hall, hb⟩ := hrel
                have hwr : Below w.heap.size w wr := below_over hwW hb
                have P1 : Hid (Cells wr w.heap.size [.slice a1 x.heap.length c1, .slice a2 x.frames.length c2, .slice a3 x.said.length c3, .int .i64 x.fin, .int .i64 x.code]) := P0.out.on hb
                have q0 := P1.out.g0.1
                by_cases hlt : k < x.heap.length
                · obtain ⟨b, o, rfl, _, v1, d0, d1, hv⟩ := (SO.on HM.out.1 (Keep.of hwr)).get hlt
                  obtain ⟨a4, c4, rfl⟩ := hv.form
                  have HV : Hid (SV f B wr (.slice a4 x.heap[k].flds.length c4) x.heap[k].flds) := hv
                  have HSM : Hid (SmallO1 x.heap[k]) := HS1.out.2 _ (List.getElem_mem hlt)
                  have HNO : Hid (obB x.heap[k] = false → x.heap.all obB = false) := all_no hlt
                  have HYE : Hid (obB x.heap[k] = true → (x.heap.take (k + 1)).all obB = true) := all_yes hlt hall.out
                  clear hv
                  generalize x.heap[k] = m at *
                  have hki : (k : Int) < (x.heap.length : Int) := by omega
                  clear hall
                  go_wp2_with fail
                  refine (l8Values_at B 24 a4 c4 m.flds HSM.out _ HV.out).mono ?_
                  rw [← obB_is m]
                  rintro e w1 ⟨rfl, hb1⟩
                  have hw1 : Below W.heap.size W w1 := below_over hb hb1
                  have hww1 : Below w.heap.size w w1 := below_over hwr hb1
                  clear hb1 hb d0 d1 HV HSM hwr
                  cases hv : obB m
                  · have HN : Hid (machB x = false) := mach_no_h (HNO.out hv)
                    go_wp2
                    go_ret
                    exact ⟨retO HN.out.symm, hww1⟩
                  · have HY : Hid ((x.heap.take (k + 1)).all obB = true) := HYE.out hv
                    go_wp2
                    go_roundw
                    case rel => exact ⟨k + 1, by omega, by go_num, HY.out, hw1⟩
                    case measure => simp [intOf]; omega
                · have HA1 : Hid (x.heap.all obB = true) := all_end hlt hall.out
                  clear hall
                  go_wp2
                  go_loopw [4] (fun i wr => ∃ k : Nat, k ≤ x.frames.length ∧ i = .int .i64 k ∧ Hid ((x.frames.take k).all frB = true) ∧ Below W.heap.size W wr) (fun i _ => x.frames.length - (intOf i).toNat)
                  case atStart => exact ⟨0, Nat.zero_le _, rfl, rfl, hb⟩
                  case round =>
                    obtain ⟨k2, hk2, rfl, hall, hb⟩ := hrel
                    have hwr : Below w.heap.size w wr := below_over hwW hb
                    have P1 : Hid (Cells wr w.heap.size [.slice a1 x.heap.length c1, .slice a2 x.frames.length c2, .slice a3 x.said.length c3, .int .i64 x.fin, .int .i64 x.code]) := P0.out.on hb
                    have q1 := P1.out.g1.1
                    by_cases hlt : k2 < x.frames.length
                    · obtain ⟨b, o, rfl, _, v1, v2, d0, d1, d2, d3, d4, hv⟩ := (SF.on HM.out.2.1 (Keep.of hwr)).get hlt
                      obtain ⟨a4, c4, rfl⟩ := hv.1.form
                      obtain ⟨a5, c5, rfl⟩ := hv.2.form
                      have HV : Hid (FV f B wr (.slice a4 x.frames[k2].stk.length c4) (.slice a5 x.frames[k2].loc.length c5) x.frames[k2]) := hv
                      have HSM : Hid (SmallF1 x.frames[k2]) := HS2.out.2 _ (List.getElem_mem hlt)
                      have HNO : Hid (frB x.frames[k2] = false → x.frames.all frB = false) := all_no hlt
                      have HYE : Hid (frB x.frames[k2] = true → (x.frames.take (k2 + 1)).all frB = true) := all_yes hlt hall.out
                      clear hv
                      generalize x.frames[k2] = m at *
                      have hki : (k2 : Int) < (x.frames.length : Int) := by omega
                      clear hall
                      go_wp2_with fail
                      refine (l8Values_at B 8 a4 c4 m.stk HSM.out.1 _ HV.out.1).mono ?_
                      rintro e w1 ⟨rfl, hb1⟩
                      have hw1 : Below W.heap.size W w1 := below_over hb hb1
                      have hww1 : Below w.heap.size w w1 := below_over hwr hb1
                      have HV1 : Hid (FV f B w1 (.slice a4 m.stk.length c4) (.slice a5 m.loc.length c5) m) := HV.out.on (Keep.of hb1)
                      have l4 : b < wr.heap.size := cell_lt d4
                      have e4 := (hb1.cell (p := ⟨b, o + k2 * 5 + 4, none⟩) l4).trans d4
                      have P2 : Hid (Cells w1 w.heap.size [.slice a1 x.heap.length c1, .slice (some ⟨b, o, none⟩) x.frames.length c2, .slice a3 x.said.length c3, .int .i64 x.fin, .int .i64 x.code]) := P1.out.on hb1
                      have q2 := P2.out.g1.1
                      clear hb1 hb d0 d1 d2 d3 d4 HV hwr l4 P1 q1
                      cases hv : (m.stk.all valB && decide ((m.stk.length : Int) ≤ 8))
                      · have HN : Hid (machB x = false) := mach_no_f (HNO.out (frB_no1 hv))
                        go_wp2
                        go_ret
                        exact ⟨retO HN.out.symm, hww1⟩
                      · have HV2 : Hid ((m.stk.all valB && decide ((m.stk.length : Int) ≤ 8)) = true) := hv
                        clear hv
                        by_cases hl8 : (m.loc.length : Int) = 8
                        · have h8 : ((m.loc.length : Int) != 8) = false := by simp [hl8]
                          have HFB : Hid (frB m = (m.loc.all valB && decide ((m.loc.length : Int) ≤ 8))) := frB_yes HV2.out hl8
                          clear hl8
                          go_wp2_with fail
                          refine (l8Values_at B 8 a5 c5 m.loc HSM.out.2 _ HV1.out.2).mono ?_
                          rw [← HFB.out]
                          rintro e w2 ⟨rfl, hb2⟩
                          have hw2 : Below W.heap.size W w2 := below_over hw1 hb2
                          have hww2 : Below w.heap.size w w2 := below_over hww1 hb2
                          clear hb2 hw1 hww1 e4 q2 HV1 HSM HV2
                          cases hv : frB m
                          · have HN : Hid (machB x = false) := mach_no_f (HNO.out hv)
                            go_wp2
                            go_ret
                            exact ⟨retO HN.out.symm, hww2⟩
                          · have HY : Hid ((x.frames.take (k2 + 1)).all frB = true) := HYE.out hv
                            go_wp2
                            go_roundw
                            case rel => exact ⟨k2 + 1, by omega, by go_num, HY.out, hw2⟩
                            case measure => simp [intOf]; omega
                        · have h8 : ((m.loc.length : Int) != 8) = true := by simp; omega
                          have HN : Hid (machB x = false) := mach_no_f (HNO.out (frB_no2 hl8))
                          clear hl8
                          go_wp2
                          go_ret
                          exact ⟨retO HN.out.symm, hww1⟩
                    · have HA2 : Hid (x.frames.all frB = true) := all_end hlt hall.out
                      clear hall
                      go_wp2
                      go_loopw [5] (fun i wr => ∃ k : Nat, k ≤ x.said.length ∧ i = .int .i64 k ∧ Hid ((x.said.take k).all okB = true) ∧ Below W.heap.size W wr) (fun i _ => x.said.length - (intOf i).toNat)
                      case atStart => exact ⟨0, Nat.zero_le _, rfl, rfl, hb⟩
                      case round =>
                        obtain ⟨k3, hk3, rfl, hall, hb⟩ := hrel
                        have hwr : Below w.heap.size w wr := below_over hwW hb
                        have P1 : Hid (Cells wr w.heap.size [.slice a1 x.heap.length c1, .slice a2 x.frames.length c2, .slice a3 x.said.length c3, .int .i64 x.fin, .int .i64 x.code]) := P0.out.on hb
                        have q2 := P1.out.g2.1
                        by_cases hlt : k3 < x.said.length
                        · obtain ⟨b, o, rfl, _, a0⟩ := (SI.on HM.out.2.2 (Keep.of hwr)).get hlt
                          have d0 : wr.cell? ⟨b, o + k3, none⟩ = some (.int .i64 x.said[k3]) := by simpa [IntAt] using a0
                          have HNO : Hid (okB x.said[k3] = false → x.said.all okB = false) := all_no hlt
                          have HYE : Hid (okB x.said[k3] = true → (x.said.take (k3 + 1)).all okB = true) := all_yes hlt hall.out
                          clear a0
                          generalize x.said[k3] = m at *
                          have hki : (k3 : Int) < (x.said.length : Int) := by omega
                          clear hall
                          go_wp2_with fail
                          refine (specWordOk m _).mono ?_
                          rintro e w1 ⟨rfl, hz⟩
                          subst hz
                          clear d0
                          cases hv : okB m
                          · have HN : Hid (machB x = false) := mach_no_s (HNO.out hv)
                            go_wp2
                            go_ret
                            exact ⟨retO HN.out.symm, hwr⟩
                          · have HY : Hid ((x.said.take (k3 + 1)).all okB = true) := HYE.out hv
                            go_wp2
                            go_roundw
                            case rel => exact ⟨k3 + 1, by omega, by go_num, HY.out, hb⟩
                            case measure => simp [intOf]; omega
                        · have HA3 : Hid (x.said.all okB = true) := all_end hlt hall.out
                          clear hall
                          go_wp2
                          go_ret
                          exact ⟨retO (by rw [HB.out, HA1.out, HA2.out, HA3.out]; rfl), hwr⟩
      · have HB : Hid (machB x = false) := by
          show _ = _
          have : ¬ x.said.length ≤ 20000 := by omega
          simp [machB, this]
        go_enter Try.func54, Try.ntmps54
        go_wp2
        go_ret
        exact ⟨retO HB.out.symm, by go_grown⟩
    · have HB : Hid (machB x = false) := by
        show _ = _
        have : ¬ x.frames.length ≤ 30 := by omega
        simp [machB, this]
      go_enter Try.func54, Try.ntmps54
      go_wp2
      go_ret
      exact ⟨retO HB.out.symm, by go_grown⟩
  · have HB : Hid (machB x = false) := by
      show _ = _
      have : ¬ x.heap.length ≤ 50 := by omega
      simp [machB, this]
    go_enter Try.func54, Try.ntmps54
    go_wp2
    go_ret
    exact ⟨retO HB.out.symm, by go_grown⟩
end Pg
end Go.Proofs.Ytffkkhaiedhaiaa

/- One step of a machine that is handed in: the specification's Stepped. -/
namespace Go.Proofs.Ytffkkhaiedhaiaa
namespace Pg
open Go.ChangeShapes Go.WideShapes Go.ChangeAt Go.RowKit St Wd

theorem smallK_of {m : Mc} (h : Core m) : SmallK m := by
  refine ⟨⟨by have := h.h50; omega, fun o ho => by have := (h.ob o ho).1; show _ ≤ _; omega⟩, ⟨by have := h.f30; omega, fun f hf => ?_⟩, by have := h.s20; omega⟩
  have h1 := (h.fr f hf).s8
  have h2 := (h.fr f hf).l8
  exact ⟨by omega, by omega⟩
theorem MX.setFin {B M : Nat} {w : World} {m : Mc} {vh vf vs : Value} {ch cf : List (List Value)} {Th Tf : Nat → Nat → Nat → Prop} (h : MX B M w m vh vf vs ch cf Th Tf) (x : Int) : MX B M (w.setCell ⟨M, 3, none⟩ (.int .i64 x)) { m with fin := x } vh vf vs ch cf Th Tf := by
  refine ⟨h.cells.set 3 _, h.low, ?_, h.ne⟩
  have hm := h.own.moved (w := w.setCell ⟨M, 3, none⟩ (.int .i64 x)) (by simp) fun k hk => set_blocks w _ _ k (h.ne k hk).symm
  exact ⟨hm.h, hm.f, hm.s, hm.hf, hm.hs, hm.fs, hm.low⟩
set_option maxRecDepth 100000 in
set_option maxHeartbeats 4000000 in
theorem specStepped_at (Bp : Nat) (p : Prg) (bp po cap : Nat) (hok : okP p = true) (hsp : SmallP p) (B0 : Nat) (m : Mc) (hmb : machB m = true) (hps : ∀ f ∈ m.frames, 0 ≤ f.pos ∧ f.pos ≤ 1000) (ah afr va : Option Addr) (chh cfr cva : Nat) (w : World)
    (hp : SK front Bp w (.slice (some ⟨bp, po, none⟩) p.length cap) p) (hk : KV true B0 w (.slice ah m.heap.length chh) (.slice afr m.frames.length cfr) (.slice va m.said.length cva) m) :
    Calls Try.prog 23 #[.agg #[.slice (some ⟨bp, po, none⟩) p.length cap], .agg #[.slice ah m.heap.length chh, .slice afr m.frames.length cfr, .slice va m.said.length cva, .int .i64 m.fin, .int .i64 m.code]] w fun e w' => ∃ vh vf vs ch cf Th Tf, e = .returned (.agg #[vh, vf, vs, .int .i64 (steppedS p m).fin, .int .i64 (steppedS p m).code]) ∧ MOwn w.heap.size w' vh vf vs (steppedS p m) ch cf Th Tf ∧ Below w.heap.size w w' := by
  have hcore := (mach_core m).1 hmb
  obtain ⟨W, hW⟩ : ∃ W, W = ((w.alloc (.cells #[.slice (some ⟨bp, po, none⟩) p.length cap] 39)).alloc (.cells #[.slice ah m.heap.length chh, .slice afr m.frames.length cfr, .slice va m.said.length cva, .int .i64 m.fin, .int .i64 m.code] 44)).alloc (.cells #[.slice none 0 0, .slice none 0 0, .slice none 0 0, .int .i64 0, .int .i64 0] 44) := ⟨_, rfl⟩
  have hwW : Below w.heap.size w W := by rw [hW]; exact (((Below.refl _ _).alloc (Nat.le_refl _) _).alloc (by simp) _).alloc (by simp; omega) _
  have P0 : Hid (Cells W w.heap.size [.slice (some ⟨bp, po, none⟩) p.length cap]) := by rw [hW]; exact ((Cells.new w _ rfl _ _).alloc _).alloc _
  have I0 : Hid (Cells W (w.heap.size + 1) [.slice ah m.heap.length chh, .slice afr m.frames.length cfr, .slice va m.said.length cva, .int .i64 m.fin, .int .i64 m.code]) := by rw [hW]; exact (Cells.new (w.alloc _) _ (by simp) _ _).alloc _
  have R0 : Hid (Cells W (w.heap.size + 1 + 1) [.slice none 0 0, .slice none 0 0, .slice none 0 0, .int .i64 0, .int .i64 0]) := by rw [hW]; exact Cells.new ((w.alloc _).alloc _) _ (by simp) _ _
  have HZ : Hid (W.heap.size = w.heap.size + 1 + 1 + 1) := by show _ = _; rw [hW]; simp
  have HP : Hid (SK front Bp w (.slice (some ⟨bp, po, none⟩) p.length cap) p) := hp
  have HK : Hid (KV true B0 w (.slice ah m.heap.length chh) (.slice afr m.frames.length cfr) (.slice va m.said.length cva) m) := hk
  have HMB : Hid (machB m = true) := hmb
  have HOK : Hid (okP p = true) := hok
  have HPS : Hid (∀ f ∈ m.frames, 0 ≤ f.pos ∧ f.pos ≤ 1000) := hps
  have HCO : Hid (Core m) := hcore.1
  have HFN : Hid (m.fin = 0 → m.frames ≠ []) := hcore.2.2.2
  have HSS : Hid (steppedS p m = if m.fin = 0 then { (stepS p m).1 with fin := (stepS p m).2 } else m) := by show _ = _; unfold steppedS; rw [hok, hmb]; rfl
  have h6 := hcore.2.2.1
  have h0 := hcore.2.1
  have i1 := I0.out.g0.1
  have i2 := I0.out.g1.1
  have i3 := I0.out.g2.1
  have i4 := I0.out.g3.1
  have i5 := I0.out.g4.1
  have p0 := P0.out.g0.1
  clear hcore hp hk hmb hok hps
  go_enter Try.func23, Try.ntmps23
  go_upto_region 1 with fail
  rw [← hW]
  clear hW
  go_wp2_with fail
  refine (specProgramOk Bp p _ cap hsp W (SK.on HP.out (Keep.of hwW))).mono ?_
  rw [HOK.out]
  rintro e w1 ⟨rfl, hb1⟩
  have hw1 : Below w.heap.size w w1 := below_over hwW hb1
  have hW1 : Below W.heap.size W w1 := hb1
  clear i1 i2 i3 i4 i5 p0 hb1
  have i1 := (I0.out.on hW1).g0.1
  have i2 := (I0.out.on hW1).g1.1
  have i3 := (I0.out.on hW1).g2.1
  have i4 := (I0.out.on hW1).g3.1
  have i5 := (I0.out.on hW1).g4.1
  go_wp2_with fail
  refine (specMachineOk B0 m ah afr va chh cfr cva (smallK_of HCO.out) w1 (HK.out.on (Keep.of hw1))).mono ?_
  rw [HMB.out]
  rintro e w2 ⟨rfl, hb2⟩
  have hw2 : Below w.heap.size w w2 := below_over hw1 hb2
  have hW2 : Below W.heap.size W w2 := below_over hW1 hb2
  clear i1 i2 i3 i4 i5 hb2 hW1 hw1
  have i1 := (I0.out.on hW2).g0.1
  have i2 := (I0.out.on hW2).g1.1
  have i3 := (I0.out.on hW2).g2.1
  have i4 := (I0.out.on hW2).g3.1
  have i5 := (I0.out.on hW2).g4.1
  go_wp2_with fail
  refine (l8Copy_at B0 m HCO.out ah afr va chh cfr cva w2 (HK.out.on (Keep.of hw2))).mono ?_
  rintro e w3 ⟨vh, vf, vs, ch, cf, Th, Tf, rfl, hown, hb3⟩
  obtain ⟨xh, yh, rfl⟩ := own_any hown.h.own
  obtain ⟨xf, yf, rfl⟩ := own_any hown.f.own
  obtain ⟨xs, ys, rfl⟩ := own_any hown.s
  have hw3 : Below w.heap.size w w3 := below_over hw2 hb3
  have hW3 : Below W.heap.size W w3 := below_over hW2 hb3
  obtain ⟨X, hX⟩ : ∃ X, X = w3.alloc (.cells #[.slice xh m.heap.length yh, .slice xf m.frames.length yf, .slice xs m.said.length ys, .int .i64 m.fin, .int .i64 m.code] 44) := ⟨_, rfl⟩
  have h3X : Below w3.heap.size w3 X := by rw [hX]; exact (Below.refl _ _).alloc (Nat.le_refl _) _
  have hwX : Below w.heap.size w X := below_over hw3 h3X
  have hWX : Below W.heap.size W X := below_over hW3 h3X
  have HMX : Hid (MX W.heap.size w3.heap.size X m (.slice xh m.heap.length yh) (.slice xf m.frames.length yf) (.slice xs m.said.length ys) ch cf Th Tf) :=
    ⟨by rw [hX]; exact Cells.new w3 _ rfl _ _, hW3.size, (hown.on h3X).base hW2.size, fun k hk => by have := hown.lt k hk; omega⟩
  have i4X := (I0.out.on hWX).g3.1
  have p0X := (P0.out.on hWX).g0.1
  clear hown hb3 i1 i2 i3 i4 i5 hW2 hw2
  go_upto_region 4 with fail
  rw [← hX]
  clear hX h3X
  by_cases hf0 : m.fin = 0
  · have HSE : Hid (steppedS p m = { (stepS p m).1 with fin := (stepS p m).2 }) := by show _ = _; rw [HSS.out, if_pos hf0]
    rw [hf0] at i4X
    have HCALL : Hid (Calls Try.prog 56 #[.agg #[.slice (some ⟨bp, po, none⟩) p.length cap], .pointer (some ⟨w3.heap.size, 0, none⟩)] X fun e w' => e = .returned (.int .i64 (stepS p m).2) ∧ MSt W.heap.size w3.heap.size w' (stepS p m).1 ∧ Below W.heap.size X w') :=
      l8Step_at Bp p bp po cap HOK.out W.heap.size w3.heap.size m HCO.out (HFN.out hf0) HPS.out X hWX.size HMX.out.st (SK.on HP.out (Keep.of hwX)) fun f hl => l8Call_at Bp p bp po cap HOK.out hsp W.heap.size w3.heap.size m HCO.out f hl
    clear HMX hf0 HSS
    go_wp2_with fail
    refine HCALL.out.mono ?_
    rintro e Y ⟨rfl, hM, hXY⟩
    obtain ⟨vh, vf, vs, ch, cf, Th, Tf, h1, h2, h3, h4⟩ := hM
    obtain ⟨xh, yh, rfl⟩ := own_any h3.h.own
    obtain ⟨xf, yf, rfl⟩ := own_any h3.f.own
    obtain ⟨xs, ys, rfl⟩ := own_any h3.s
    have hWY : Below W.heap.size W Y := hWX.trans hXY
    have hwY : Below w.heap.size w Y := below_over hwW hWY
    generalize hm1 : (stepS p m).1 = m1 at *
    generalize hx1 : (stepS p m).2 = x1 at *
    have HSE2 : Hid (steppedS p m = { m1 with fin := x1 }) := HSE.out
    clear HSE hm1 hx1 HCALL i4X p0X
    have hMX : MX W.heap.size w3.heap.size Y m1 (.slice xh m1.heap.length yh) (.slice xf m1.frames.length yf) (.slice xs m1.said.length ys) ch cf Th Tf := ⟨h1, h2, h3, h4⟩
    obtain ⟨c3, f3⟩ := h1.g3
    have HMZ : Hid (MX W.heap.size w3.heap.size (Y.setCell ⟨w3.heap.size, 3, none⟩ (.int .i64 x1)) { m1 with fin := x1 } (.slice xh m1.heap.length yh) (.slice xf m1.frames.length yf) (.slice xs m1.said.length ys) ch cf Th Tf) := hMX.setFin x1
    have hWZ : Below W.heap.size W (Y.setCell ⟨w3.heap.size, 3, none⟩ (.int .i64 x1)) := hWY.setCell hW3.size _
    clear h1 h2 h3 h4 hMX
    go_upto_region 6 with fail
    generalize Y.setCell ⟨w3.heap.size, 3, none⟩ (.int .i64 x1) = Z at *
    have hwZ : Below w.heap.size w Z := below_over hwW hWZ
    clear c3 f3
    have RX := R0.out.on hWZ
    obtain ⟨r0, q0⟩ := RX.g0
    obtain ⟨r1, q1⟩ := RX.g1
    obtain ⟨r2, q2⟩ := RX.g2
    obtain ⟨r3, q3⟩ := RX.g3
    obtain ⟨r4, q4⟩ := RX.g4
    obtain ⟨a0, _⟩ := HMZ.out.cells.g0
    obtain ⟨a1, _⟩ := HMZ.out.cells.g1
    obtain ⟨a2, _⟩ := HMZ.out.cells.g2
    obtain ⟨a3, _⟩ := HMZ.out.cells.g3
    obtain ⟨a4, _⟩ := HMZ.out.cells.g4
    dsimp only at a3 a4
    have R5 := five_cells RX (.slice xh m1.heap.length yh) (.slice xf m1.frames.length yf) (.slice xs m1.said.length ys) (.int .i64 x1) (.int .i64 m1.code)
    have HBF := five_below hwZ (show w.heap.size ≤ w.heap.size + 1 + 1 by omega) (.slice xh m1.heap.length yh) (.slice xf m1.frames.length yf) (.slice xs m1.said.length ys) (.int .i64 x1) (.int .i64 m1.code)
    have HOF : Hid (MOwn w.heap.size (((((Z.setCell ⟨w.heap.size + 1 + 1, 0, none⟩ (.slice xh m1.heap.length yh)).setCell ⟨w.heap.size + 1 + 1, 1, none⟩ (.slice xf m1.frames.length yf)).setCell ⟨w.heap.size + 1 + 1, 2, none⟩ (.slice xs m1.said.length ys)).setCell ⟨w.heap.size + 1 + 1, 3, none⟩ (.int .i64 x1)).setCell ⟨w.heap.size + 1 + 1, 4, none⟩ (.int .i64 m1.code)) (.slice xh m1.heap.length yh) (.slice xf m1.frames.length yf) (.slice xs m1.said.length ys) (steppedS p m) ch cf Th Tf) := by
      show MOwn _ _ _ _ _ _ _ _ _ _
      rw [HSE2.out]
      refine (HMZ.out.own.moved (by simp) fun k hk => ?_).base (by have := HZ.out; omega)
      have hl := HMZ.out.own.low k hk
      have hne : w.heap.size + 1 + 1 ≠ k := by have := HZ.out; omega
      rw [set_blocks _ _ _ _ hne, set_blocks _ _ _ _ hne, set_blocks _ _ _ _ hne, set_blocks _ _ _ _ hne, set_blocks _ _ _ _ hne]
    obtain ⟨e0, _⟩ := R5.g0
    obtain ⟨e1, _⟩ := R5.g1
    obtain ⟨e2, _⟩ := R5.g2
    obtain ⟨e3, _⟩ := R5.g3
    obtain ⟨e4, _⟩ := R5.g4
    have HBFH : Hid _ := HBF
    have HFE : Hid ((steppedS p m).fin = x1 ∧ (steppedS p m).code = m1.code) := by show _ ∧ _; rw [HSE2.out]; exact ⟨rfl, rfl⟩
    clear R5 RX HMZ HBF
    go_wp2
    refine bodyPost_ret (v := .agg #[.slice xh m1.heap.length yh, .slice xf m1.frames.length yf, .slice xs m1.said.length ys, .int .i64 x1, .int .i64 m1.code]) (by simp [results, Try.results23, go_sem, e0, e1, e2, e3, e4]) rfl ?_
    exact ⟨_, _, _, ch, cf, Th, Tf, by rw [HFE.out.1, HFE.out.2], HOF.out, HBFH.out⟩
  · have HSE : Hid (steppedS p m = m) := by show _ = _; rw [HSS.out, if_neg hf0]
    clear HSS
    have RX := R0.out.on hWX
    obtain ⟨r0, q0⟩ := RX.g0
    obtain ⟨r1, q1⟩ := RX.g1
    obtain ⟨r2, q2⟩ := RX.g2
    obtain ⟨r3, q3⟩ := RX.g3
    obtain ⟨r4, q4⟩ := RX.g4
    obtain ⟨a0, _⟩ := HMX.out.cells.g0
    obtain ⟨a1, _⟩ := HMX.out.cells.g1
    obtain ⟨a2, _⟩ := HMX.out.cells.g2
    obtain ⟨a3, _⟩ := HMX.out.cells.g3
    obtain ⟨a4, _⟩ := HMX.out.cells.g4
    have R5 := five_cells RX (.slice xh m.heap.length yh) (.slice xf m.frames.length yf) (.slice xs m.said.length ys) (.int .i64 m.fin) (.int .i64 m.code)
    have HBF := five_below hwX (show w.heap.size ≤ w.heap.size + 1 + 1 by omega) (.slice xh m.heap.length yh) (.slice xf m.frames.length yf) (.slice xs m.said.length ys) (.int .i64 m.fin) (.int .i64 m.code)
    have HOF : Hid (MOwn w.heap.size (((((X.setCell ⟨w.heap.size + 1 + 1, 0, none⟩ (.slice xh m.heap.length yh)).setCell ⟨w.heap.size + 1 + 1, 1, none⟩ (.slice xf m.frames.length yf)).setCell ⟨w.heap.size + 1 + 1, 2, none⟩ (.slice xs m.said.length ys)).setCell ⟨w.heap.size + 1 + 1, 3, none⟩ (.int .i64 m.fin)).setCell ⟨w.heap.size + 1 + 1, 4, none⟩ (.int .i64 m.code)) (.slice xh m.heap.length yh) (.slice xf m.frames.length yf) (.slice xs m.said.length ys) (steppedS p m) ch cf Th Tf) := by
      show MOwn _ _ _ _ _ _ _ _ _ _
      rw [HSE.out]
      refine (HMX.out.own.moved (by simp) fun k hk => ?_).base (by have := HZ.out; omega)
      have hl := HMX.out.own.low k hk
      have hne : w.heap.size + 1 + 1 ≠ k := by have := HZ.out; omega
      rw [set_blocks _ _ _ _ hne, set_blocks _ _ _ _ hne, set_blocks _ _ _ _ hne, set_blocks _ _ _ _ hne, set_blocks _ _ _ _ hne]
    obtain ⟨e0, _⟩ := R5.g0
    obtain ⟨e1, _⟩ := R5.g1
    obtain ⟨e2, _⟩ := R5.g2
    obtain ⟨e3, _⟩ := R5.g3
    obtain ⟨e4, _⟩ := R5.g4
    have HBFH : Hid _ := HBF
    have hfb : (m.fin == 0) = false := by simpa using hf0
    clear R5 RX HMX HBF
    go_wp2
    refine bodyPost_ret (v := .agg #[.slice xh m.heap.length yh, .slice xf m.frames.length yf, .slice xs m.said.length ys, .int .i64 m.fin, .int .i64 m.code]) (by simp [results, Try.results23, go_sem, e0, e1, e2, e3, e4]) rfl ?_
    exact ⟨_, _, _, ch, cf, Th, Tf, by rw [HSE.out], HOF.out, HBFH.out⟩
end Pg
end Go.Proofs.Ytffkkhaiedhaiaa
