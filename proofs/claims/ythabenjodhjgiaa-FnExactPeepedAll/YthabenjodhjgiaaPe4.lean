/- Contracts: the specification's PeepAt, Peeps and PeepedAll. -/
import Derived.Test.YthabenjodhjgiaaPe2
import Derived.Deep.Cut
import Derived.Lib.QuietBelow
import Derived.BigQuiet
namespace Go.Proofs.Ythabenjodhjgiaa
namespace Pg
open Go.ChangeShapes Go.WideShapes Go.ChangeAt Go.RowKit St Wd

theorem ld_hasP {code : List Tx.Ins} (k : Nat) (hk : k < 40) : decide ((k : Int) ∈ risL (ldB code code.length) 40) = ldB code code.length k := by
  cases h : ldB code code.length k
  · simp only [decide_eq_false_iff_not]
    intro hm
    obtain ⟨j, _, hj, e⟩ := risL_mem.1 hm
    obtain rfl : k = j := by omega
    rw [h] at hj; simp at hj
  · simp only [decide_eq_true_eq]
    exact risL_mem.2 ⟨k, hk, h, rfl⟩
set_option maxRecDepth 100000 in
set_option maxHeartbeats 2000000 in
theorem l11At_at (g cap gl cl : Nat) (code : List Tx.Ins) (hok : Lay.codeOk code = true) (n : Int) (hn : n ≤ 1000) (w : World) (hrow : Row w g 0 code) (hls : IRow w gl 0 (risL (ldB code code.length) 40)) :
    Calls Try.prog 44 #[.slice (some ⟨g, 0, none⟩) code.length cap, .slice (some ⟨gl, 0, none⟩) (risL (ldB code code.length) 40).length cl, .int .i64 n] w fun e w' => e = .returned (.bool (isPeepB code n)) ∧ Below w.heap.size w w' := by
  have hl40 := (Lay.ok_len hok).2
  have hlr := risL_len (ldB code code.length) 40
  have HLS : Hid (IRow w gl 0 (risL (ldB code code.length) 40)) := hls
  have HR : Hid (Row w g 0 code) := hrow
  clear hls hrow hok
  by_cases h0 : 0 ≤ n
  · obtain ⟨k, rfl⟩ := Int.eq_ofNat_of_zero_le h0
    have hge : decide ((k : Int) ≥ 0) = true := by simp
    by_cases h2 : k + 2 < code.length
    · have h2i : (k : Int) + 2 < (code.length : Int) := by omega
      have hd2 : decide ((k : Int) + 2 < (code.length : Int)) = true := by simpa using h2i
      have HLD : Hid (decide ((k : Int) + 1 ∈ risL (ldB code code.length) 40) = ldB code code.length (k + 1)) := by
        have := ld_hasP (code := code) (k + 1) (by omega)
        have hcast : (((k + 1 : Nat)) : Int) = (k : Int) + 1 := by omega
        rw [hcast] at this
        exact this
      have cH : ∀ d os, Calls Try.prog 57 #[.slice (some ⟨gl, 0, none⟩) (risL (ldB code code.length) 40).length cl, .int .i64 ((k : Int) + 1)] (Sort.grow (redrawn w d) os) fun e w'' => e = .returned (.bool (ldB code code.length (k + 1))) ∧ ∃ p : Regrown, w'' = Sort.grow (redrawn w p.d) p.os := by
        intro d os
        refine (l1Has gl cl (risL (ldB code code.length) 40) ((k : Int) + 1) (by omega) _ (HLS.out.on (below_regrown w d os))).mono ?_
        rw [HLD.out]
        rintro e _ ⟨rfl, rfl⟩
        exact ⟨rfl, ⟨d, os⟩, rfl⟩
      cases h1 : ldB code code.length (k + 1)
      · have HE : Hid (isPeepB code (k : Int) = pairB (insF code k) (insF code (k + 1))) := by show _ = _; rw [isPeepB_at h2, peepB_ld h2 h1]
        rw [h1] at cH
        obtain ⟨d0, d1, d2⟩ := HR.out k _ (ins_is (by omega))
        obtain ⟨e0, e1, e2⟩ := HR.out (k + 1) _ (ins_is (by omega))
        simp only [Nat.zero_add] at d0 d1 d2 e0 e1 e2
        generalize insF code k = x at *
        obtain ⟨xo, xa, xb⟩ := x
        generalize insF code (k + 1) = y at *
        obtain ⟨yo, ya, yb⟩ := y
        dsimp only at d0 d1 d2 e0 e1 e2
        have r0 := cell_regrown d0
        have r1 := cell_regrown d1
        have r2 := cell_regrown d2
        have r3 := cell_regrown e0
        have r4 := cell_regrown e1
        have r5 := cell_regrown e2
        have cP : ∀ d os, Calls Try.prog 65 #[.agg #[.int .i64 xo, .int .i64 xa, .int .i64 xb], .agg #[.int .i64 yo, .int .i64 ya, .int .i64 yb]] (Sort.grow (redrawn w d) os) fun e w'' => e = .returned (.bool (pairB (xo, xa, xb) (yo, ya, yb))) ∧ ∃ p : Regrown, w'' = Sort.grow (redrawn w p.d) p.os := fun d os => (l11Pair_at xo xa xb yo ya yb _).regrown_of
        clear d0 d1 d2 e0 e1 e2 h1 HLD HLS HR
        generalize pairB (xo, xa, xb) (yo, ya, yb) = bq at *
        have hkl : (k : Int) < (code.length : Int) := by omega
        go_enter Try.func44, Try.ntmps44
        go_wp2_with fail
        refine wp_region_quiet_below (by kernel_rfl) (by kernel_rfl) ?_
        repeat (go_big_quiet_step ((first | (go_at_call 57; exact cH _ _) | (go_at_call 65; exact cP _ _))))
        refine wpQuiet_nil ?_
        intro _ hw'
        obtain ⟨⟨dq, osq⟩, hw''⟩ := hw'
        subst hw''
        have hbq := below_regrown w dq osq
        clear cH cP r0 r1 r2 r3 r4 r5
        generalize Sort.grow (redrawn w dq) osq = w4 at *
        go_wp2
        go_ret
        exact ⟨retB HE.out.symm, hbq⟩
      · have HE : Hid (isPeepB code (k : Int) = false) := by show _ = _; rw [isPeepB_at h2, peepB_ld' h1]
        rw [h1] at cH
        clear h1 HLD HLS HR
        go_enter Try.func44, Try.ntmps44
        go_wp2_with fail
        refine wp_region_quiet_below (by kernel_rfl) (by kernel_rfl) ?_
        repeat (go_big_quiet_step ((go_at_call 57; exact cH _ _)))
        refine wpQuiet_nil ?_
        intro _ hw'
        obtain ⟨⟨dq, osq⟩, hw''⟩ := hw'
        subst hw''
        have hbq := below_regrown w dq osq
        clear cH
        generalize Sort.grow (redrawn w dq) osq = w4 at *
        go_wp2
        go_ret
        exact ⟨retB HE.out.symm, hbq⟩
    · have h2i : ¬ (k : Int) + 2 < (code.length : Int) := by omega
      have hd2 : decide ((k : Int) + 2 < (code.length : Int)) = false := by simpa using h2i
      have hki : (k : Int) ≤ 1000 := hn
      have HE : Hid (isPeepB code (k : Int) = false) := isPeepB_no (by omega)
      clear HLS HR h2
      go_enter Try.func44, Try.ntmps44
      go_wp2_with fail
      refine wp_region_quiet_below (by kernel_rfl) (by kernel_rfl) ?_
      repeat (go_big_quiet_step (fail))
      refine wpQuiet_nil ?_
      intro _ hw'
      obtain ⟨⟨dq, osq⟩, hw''⟩ := hw'
      subst hw''
      have hbq := below_regrown w dq osq
      generalize Sort.grow (redrawn w dq) osq = w4 at *
      go_wp2
      go_ret
      exact ⟨retB HE.out.symm, hbq⟩
  · have hge : decide (n ≥ 0) = false := by simp; omega
    have HE : Hid (isPeepB code n = false) := isPeepB_no (fun h => h0 h.1)
    clear HLS HR
    go_enter Try.func44, Try.ntmps44
    go_wp2_with fail
    refine wp_region_quiet_below (by kernel_rfl) (by kernel_rfl) ?_
    repeat (go_big_quiet_step (fail))
    refine wpQuiet_nil ?_
    intro _ hw'
    obtain ⟨⟨dq, osq⟩, hw''⟩ := hw'
    subst hw''
    have hbq := below_regrown w dq osq
    generalize Sort.grow (redrawn w dq) osq = w4 at *
    go_wp2
    go_ret
    exact ⟨retB HE.out.symm, hbq⟩
set_option maxRecDepth 100000 in
set_option maxHeartbeats 2000000 in
theorem l11Do_at (g cap k : Nat) (code : List Tx.Ins) (h2 : k + 2 < code.length) (h1000 : code.length ≤ 1000) (w : World) (hg : g < w.heap.size) (hrow : Row w g 0 code) (hroom : Room w g (code.length * 3)) :
    Calls Try.prog 46 #[.slice (some ⟨g, 0, none⟩) code.length cap, .int .i64 (k : Int)] w fun e w' => e = .returned (.tuple #[]) ∧ LeftP g code k w w' := by
  have hki : (k : Int) + 2 < (code.length : Int) := by omega
  have hli : (code.length : Int) ≤ 1000 := by omega
  have HL : Hid (∀ t, t = toI code k → LeftP g code k w ((((((w.setCell ⟨g, k * 3, none⟩ (.int .i64 11)).setCell ⟨g, k * 3 + 1, none⟩ (.int .i64 t)).setCell ⟨g, k * 3 + 2, none⟩ (.int .i64 0)).setCell ⟨g, (k + 1) * 3, none⟩ (.int .i64 11)).setCell ⟨g, (k + 1) * 3 + 1, none⟩ (.int .i64 ((k : Int) + 2))).setCell ⟨g, (k + 1) * 3 + 2, none⟩ (.int .i64 0))) := fun t ht => left_of (Below.refl _ _) hg hrow hroom t ht
  obtain ⟨d0, d1, d2⟩ := hrow k _ (ins_is (by omega))
  obtain ⟨e0, e1, e2⟩ := hrow (k + 1) _ (ins_is (by omega))
  simp only [Nat.zero_add] at d0 d1 d2 e0 e1 e2
  obtain ⟨_, z0⟩ := hroom (k * 3) (by omega)
  obtain ⟨_, z1⟩ := hroom (k * 3 + 1) (by omega)
  obtain ⟨_, z2⟩ := hroom (k * 3 + 2) (by omega)
  obtain ⟨_, z3⟩ := hroom ((k + 1) * 3) (by omega)
  obtain ⟨_, z4⟩ := hroom ((k + 1) * 3 + 1) (by omega)
  obtain ⟨_, z5⟩ := hroom ((k + 1) * 3 + 2) (by omega)
  clear hrow hroom
  by_cases hz : (insF code (k + 1)).1 = 12 ∧ (insF code k).2.1 = 0
  · have HT : Hid ((insF code (k + 1)).2.1 = toI code k) := by show _ = _; simp [toI, hz]
    rw [hz.1] at e0
    rw [hz.2] at d1
    clear hz
    generalize (insF code (k + 1)).2.1 = A at *
    go_enter Try.func46, Try.ntmps46
    go_wp2
    go_end0
    exact ⟨rfl, HL.out _ HT.out⟩
  · have HT : Hid ((k : Int) + 2 = toI code k) := by show _ = _; simp only [toI, if_neg hz]
    have hz' : ((insF code (k + 1)).1 == 12) = false ∨ (((insF code (k + 1)).1 == 12) = true ∧ ((insF code k).2.1 == 0) = false) := by
      cases h : ((insF code (k + 1)).1 == 12)
      · exact .inl rfl
      · refine .inr ⟨rfl, ?_⟩
        cases h' : ((insF code k).2.1 == 0)
        · rfl
        · simp only [beq_iff_eq] at h h'; exact absurd ⟨h, h'⟩ hz
    clear hz
    generalize (insF code (k + 1)).1 = op at *
    generalize (insF code k).2.1 = A0 at *
    rcases hz' with h1 | ⟨h1, h3⟩
    all_goals
      go_enter Try.func46, Try.ntmps46
      go_wp2
      go_end0
      exact ⟨rfl, HL.out _ HT.out⟩
end Pg
end Go.Proofs.Ythabenjodhjgiaa
