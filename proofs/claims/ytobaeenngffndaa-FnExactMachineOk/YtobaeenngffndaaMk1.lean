/- Which machines are right: the program's MachineOk. -/
import Derived.Test.YtobaeenngffndaaMk0
namespace Go.Proofs.Ytobaeenngffndaa
namespace Pg
open Go.ChangeShapes Go.WideShapes Go.ChangeAt Go.RowKit St Wd

theorem mach_fin_no {x : Mc} (h : (decide (0 ≤ x.fin) && decide (x.fin < 7)) = false) : machB x = false := by
  by_cases h1 : 0 ≤ x.fin
  · have : ¬ x.fin ≤ 6 := by
      simp [h1] at h
      omega
    simp [machB, this]
  · simp [machB, h1]
set_option maxRecDepth 100000 in
set_option maxHeartbeats 2000000 in
theorem implMachineOk {f : Bool} (B : Nat) (x : Mc) (a1 a2 a3 : Option Addr) (c1 c2 c3 : Nat) (hs : SmallK x) (w : World) (hm : KV f B w (.slice a1 x.heap.length c1) (.slice a2 x.frames.length c2) (.slice a3 x.said.length c3) x) :
    Calls Try.prog 8 #[.agg #[.slice a1 x.heap.length c1, .slice a2 x.frames.length c2, .slice a3 x.said.length c3, .int .i64 x.fin, .int .i64 x.code]] w fun e w' => e = .returned (.bool (machB x)) ∧ Below w.heap.size w w' := by
  have HM : Hid (KV f B w (.slice a1 x.heap.length c1) (.slice a2 x.frames.length c2) (.slice a3 x.said.length c3) x) := hm
  have HS1 : Hid (SmallO x.heap) := hs.1
  have HS2 : Hid (SmallF x.frames) := hs.2.1
  have hs3 : x.said.length ≤ 1048576 := hs.2.2
  have hl1 : x.heap.length ≤ 1048576 := hs.1.1
  have hl2 : x.frames.length ≤ 1048576 := hs.2.1.1
  clear hm hs
  go_enter Try.func8, Try.ntmps8
  go_wp2_with fail
  refine (isBelow x.fin 7 _).mono ?_
  rintro e w1 ⟨rfl, rfl⟩
  cases hf : decide (0 ≤ x.fin) && decide (x.fin < 7)
  · have HB : Hid (machB x = false) := mach_fin_no hf
    clear hf
    go_wp2
    go_ret
    exact ⟨retO HB.out.symm, by go_grown⟩
  · have hf1 : 0 ≤ x.fin ∧ x.fin ≤ 6 := by
      simp at hf
      omega
    have HF : Hid (0 ≤ x.fin ∧ x.fin ≤ 6) := hf1
    clear hf hf1
    by_cases hz : x.fin = 0 ∧ x.frames.length = 0
    · have HB : Hid (machB x = false) := by show _ = _; simp [machB, hz.1, hz.2]
      have hz1 : (x.fin == 0) = true := by simp [hz.1]
      have hz2 : ((x.frames.length : Int) == 0) = true := by simp [hz.2]
      clear hz
      go_wp2
      go_ret
      exact ⟨retO HB.out.symm, by go_grown⟩
    · have HZ : Hid (¬ (x.fin = 0 ∧ x.frames.length = 0)) := hz
      have hzb : (x.fin == 0) = false ∨ ((x.fin == 0) = true ∧ ((x.frames.length : Int) == 0) = false) := by
        by_cases h1 : x.fin = 0
        · refine .inr ⟨by simp [h1], ?_⟩
          have : ¬ x.frames.length = 0 := fun h => hz ⟨h1, h⟩
          rw [beq_eq_false_iff_ne]
          omega
        · exact .inl (by simp [h1])
      clear hz
      by_cases h1 : (x.heap.length : Int) ≤ 50
      · by_cases h2 : (x.frames.length : Int) ≤ 30
        · by_cases h3 : (x.said.length : Int) ≤ 20000
          · have HB : Hid (machB x = (x.heap.all obB && x.frames.all frB && x.said.all okB)) := by
              show _ = _
              have e1 : x.heap.length ≤ 50 := by omega
              have e2 : x.frames.length ≤ 30 := by omega
              have e3 : x.said.length ≤ 20000 := by omega
              have e4 := HF.out.1
              have e5 := HF.out.2
              have e6 : (decide (x.fin = 0) && decide (x.frames.length = 0)) = false := by
                have := HZ.out
                simpa using this
              unfold machB
              rw [e6]
              simp [e1, e2, e3, e4, e5]
            rcases hzb with hz1 | ⟨hz1, hz2⟩
            all_goals
              go_wp2_with fail
              refine (areAllObject B a1 c1 x.heap HS1.out _ (SO.on HM.out.1 (Keep.of (by go_grown)))).mono ?_
              rintro e w1 ⟨rfl, hb1⟩
              have hw1 : Below w.heap.size w w1 := below_over (by go_grown) hb1
              have A1 : Hid (Cells w1 w.heap.size [.slice a1 x.heap.length c1, .slice a2 x.frames.length c2, .slice a3 x.said.length c3, .int .i64 x.fin, .int .i64 x.code]) := (Cells.new w _ rfl _ _).on hb1
              have r1 := A1.out.g1.1
              clear hb1
              cases hq : x.heap.all obB
              · go_wp2
                go_ret
                exact ⟨retO (by rw [HB.out, hq]; rfl), hw1⟩
              · have HQ : Hid (x.heap.all obB = true) := hq
                clear hq
                go_wp2_with fail
                refine (areAllFrame B a2 c2 x.frames HS2.out _ (SF.on HM.out.2.1 (Keep.of hw1))).mono ?_
                rintro e w2 ⟨rfl, hb2⟩
                have hw2 : Below w.heap.size w w2 := below_over hw1 hb2
                have A2 : Hid (Cells w2 w.heap.size [.slice a1 x.heap.length c1, .slice a2 x.frames.length c2, .slice a3 x.said.length c3, .int .i64 x.fin, .int .i64 x.code]) := A1.out.on hb2
                have r2 := A2.out.g2.1
                clear hb2 r1 A1
                cases hq : x.frames.all frB
                · go_wp2
                  go_ret
                  exact ⟨retO (by rw [HB.out, HQ.out, hq]; rfl), hw2⟩
                · have HQ2 : Hid (x.frames.all frB = true) := hq
                  clear hq
                  go_wp2_with fail
                  refine (areAllInt64 B a3 c3 x.said hs3 _ (SI.on HM.out.2.2 (Keep.of hw2))).mono ?_
                  rintro e w3 ⟨rfl, hb3⟩
                  have hw3 : Below w.heap.size w w3 := below_over hw2 hb3
                  clear hb3
                  go_wp2
                  go_ret
                  exact ⟨retO (by rw [HB.out, HQ.out, HQ2.out]; rfl), hw3⟩
          · have HB : Hid (machB x = false) := by
              show _ = _
              have : ¬ x.said.length ≤ 20000 := by omega
              simp [machB, this]
            rcases hzb with hz1 | ⟨hz1, hz2⟩
            all_goals
              go_wp2
              go_ret
              exact ⟨retO HB.out.symm, by go_grown⟩
        · have HB : Hid (machB x = false) := by
            show _ = _
            have : ¬ x.frames.length ≤ 30 := by omega
            simp [machB, this]
          rcases hzb with hz1 | ⟨hz1, hz2⟩
          all_goals
            go_wp2
            go_ret
            exact ⟨retO HB.out.symm, by go_grown⟩
      · have HB : Hid (machB x = false) := by
          show _ = _
          have : ¬ x.heap.length ≤ 50 := by omega
          simp [machB, this]
        rcases hzb with hz1 | ⟨hz1, hz2⟩
        all_goals
          go_wp2
          go_ret
          exact ⟨retO HB.out.symm, by go_grown⟩
end Pg
end Go.Proofs.Ytobaeenngffndaa
