/- Contracts: what comes out of three steps; a copy of three steps; the program's Folded. -/
import Derived.Test.YthabenjodhjgiaaFo1
import Derived.Lib.QuietBelow
import Derived.BigQuiet
import Derived.Deep.RegionLaw
namespace Go.Proofs.Ythabenjodhjgiaa
namespace Pg
open Go.ChangeShapes Go.WideShapes Go.ChangeAt Go.RowKit St Wd

theorem push_ok {code : List Tx.Ins} (hok : Lay.codeOk code = true) {k : Nat} (hk : k < code.length) (h : (insF code k).1 = 1) : okB (insF code k).2.1 = true := by
  have := Lay.ok_at hok (ins_is hk)
  unfold Tx.okI at this
  rw [if_pos h] at this
  simp only [Bool.and_eq_true, decide_eq_true_eq] at this
  simp [okB, this.1]
theorem foldB_end {code : List Tx.Ins} {k : Nat} (h : ¬ k + 3 < code.length) : foldB code k = false := by unfold foldB; simp [h]
theorem foldB_ld {code : List Tx.Ins} {k : Nat} (h : ldB code code.length (k + 1) = true ∨ ldB code code.length (k + 2) = true) : foldB code k = false := by
  unfold foldB
  rcases h with h | h <;> simp [h]
theorem foldB_op {code : List Tx.Ins} {k : Nat} (h : (insF code k).1 ≠ 1 ∨ (insF code (k + 1)).1 ≠ 1) : foldB code k = false := by
  unfold foldB
  rcases h with h | h <;> simp [h]
theorem foldB_is {code : List Tx.Ins} {k : Nat} (h : k + 3 < code.length) (h1 : ldB code code.length (k + 1) = false) (h2 : ldB code code.length (k + 2) = false) (h3 : (insF code k).1 = 1) (h4 : (insF code (k + 1)).1 = 1) :
    foldB code k = okW (insF code (k + 2)).1 (insF code (k + 1)).2.1 := by
  unfold foldB okW
  simp only [h, h1, h2, h3, h4]
  simp
def folW (code : List Tx.Ins) (k : Nat) : Int := if foldB code k then outI code k else 0
set_option maxRecDepth 100000 in
set_option maxHeartbeats 2000000 in
theorem outcomeAt_at (g cap : Nat) (code : List Tx.Ins) (hok : Lay.codeOk code = true) (k : Nat) (hk : k < code.length) (w : World) (hrow : Row w g 0 code) :
    Calls Try.prog 64 #[.slice (some ⟨g, 0, none⟩) code.length cap, .agg (chi 40 (ldB code code.length)).toArray, .int .i64 (k : Int)] w fun e w' => e = .returned (.tuple #[.int .i64 (folW code k), .bool (foldB code k)]) ∧ Below w.heap.size w w' := by
  have hl40 := (Lay.ok_len hok).2
  have lg : g < w.heap.size := cell_lt (hrow 0 _ (ins_is (Lay.ok_len hok).1)).1
  obtain ⟨W, hW⟩ : ∃ W, W = w.alloc (.cells (chi 40 (ldB code code.length)).toArray 57) := ⟨_, rfl⟩
  have hbW : Below w.heap.size w W := by rw [hW]; exact (Below.refl _ _).alloc (Nat.le_refl _) _
  have HC : Hid (Cells (w.alloc (.cells (chi 40 (ldB code code.length)).toArray 57)) w.heap.size (chi 40 (ldB code code.length))) := Cells.new w _ rfl _ _
  have HR : Hid (Row (w.alloc (.cells (chi 40 (ldB code code.length)).toArray 57)) g 0 code) := by rw [← hW]; exact hrow.on hbW
  have hbL : Below w.heap.size w (w.alloc (.cells (chi 40 (ldB code code.length)).toArray 57)) := by rw [← hW]; exact hbW
  clear hW hbW hrow
  have hkl : (k : Int) < (code.length : Int) := by omega
  by_cases h3 : k + 3 < code.length
  · have h3i : (k : Int) + 3 < (code.length : Int) := by omega
    have h4i : (k : Int) + 2 < 40 := by omega
    have HF : Hid (∀ x, x = false → foldB code k = x → folW code k = 0 ∧ foldB code k = false) := fun x hx h => by rw [hx] at h; exact ⟨by simp [folW, h], h⟩
    obtain ⟨c1, _⟩ := HC.out (k + 1) _ (chi_at _ (by omega))
    obtain ⟨c2, _⟩ := HC.out (k + 2) _ (chi_at _ (by omega))
    cases h1 : ldB code code.length (k + 1)
    · rw [h1] at c1
      cases h2 : ldB code code.length (k + 2)
      · rw [h2] at c2
        obtain ⟨d0, d1, d2⟩ := HR.out k _ (ins_is hk)
        obtain ⟨e0, e1, e2⟩ := HR.out (k + 1) _ (ins_is (by omega))
        obtain ⟨f0, f1, f2⟩ := HR.out (k + 2) _ (ins_is (by omega))
        simp only [Nat.zero_add] at d0 d1 e0 e1 f0
        clear d2 e2 f1 f2
        by_cases h5 : (insF code k).1 = 1
        · by_cases h6 : (insF code (k + 1)).1 = 1
          · have HE := foldB_is h3 h1 h2 h5 h6
            have HW : Hid (foldB code k = okW (insF code (k + 2)).1 (insF code (k + 1)).2.1 ∧ folW code k = wrkF (insF code (k + 2)).1 (insF code k).2.1 (insF code (k + 1)).2.1) := ⟨HE, by unfold folW wrkF; rw [HE]; rfl⟩
            have ha := push_ok hok hk h5
            have hb := push_ok hok (k := k + 1) (by omega) h6
            rw [h5] at d0
            rw [h6] at e0
            clear HE h5 h6 h1 h2 HF
            generalize (insF code (k + 2)).1 = op at *
            generalize (insF code k).2.1 = va at *
            generalize (insF code (k + 1)).2.1 = vb at *
            have cW : ∀ d os, Calls Try.prog 76 #[.int .i64 op, .int .i64 va, .int .i64 vb] (Sort.grow (redrawn (w.alloc (.cells (chi 40 (ldB code code.length)).toArray 57)) d) os) fun e w'' => e = .returned (.tuple #[.int .i64 (wrkF op va vb), .bool (okW op vb)]) ∧ ∃ p : Regrown, w'' = Sort.grow (redrawn (w.alloc (.cells (chi 40 (ldB code code.length)).toArray 57)) p.d) p.os := by
              intro d os
              refine (workedOut_at op va vb ha hb _).mono ?_
              rintro e w1 ⟨rfl, rfl⟩
              exact ⟨rfl, ⟨d, os⟩, rfl⟩
            have r0 := cell_regrown f0
            have r1 := cell_regrown d1
            have r2 := cell_regrown e1
            go_enter Try.func64, Try.ntmps64
            go_wp2_with fail
            refine wp_region_quiet_below (by kernel_rfl) (by kernel_rfl) ?_
            repeat (go_big_quiet_step ((go_at_call 76; exact cW _ _)))
            refine wpQuiet_nil ?_
            intro _ hw'
            obtain ⟨⟨dq, osq⟩, hw''⟩ := hw'
            subst hw''
            have hbq := below_over hbL (below_regrown (w.alloc (.cells (chi 40 (ldB code code.length)).toArray 57)) dq osq)
            clear cW r0 r1 r2 c1 c2 d0 d1 e0 e1 f0 HC HR
            generalize Sort.grow (redrawn (w.alloc (.cells (chi 40 (ldB code code.length)).toArray 57)) dq) osq = w4 at *
            go_wp2
            go_ret2
            exact ⟨ret2B HW.out.2.symm HW.out.1.symm, hbq⟩
          · have HG : Hid (folW code k = 0 ∧ foldB code k = false) := HF.out _ rfl (foldB_op (.inr h6))
            rw [h5] at d0
            have h6' : ((insF code (k + 1)).1 == 1) = false := by simp [h6]
            generalize (insF code (k + 1)).1 = op1 at *
            clear h1 h2 h5 HF
            go_enter Try.func64, Try.ntmps64
            go_wp2
            go_ret2
            exact ⟨ret2B HG.out.1.symm HG.out.2.symm, hbL⟩
        · have HG : Hid (folW code k = 0 ∧ foldB code k = false) := HF.out _ rfl (foldB_op (.inl h5))
          have h5' : ((insF code k).1 == 1) = false := by simp [h5]
          generalize (insF code k).1 = op0 at *
          clear h1 h2 HF
          go_enter Try.func64, Try.ntmps64
          go_wp2
          go_ret2
          exact ⟨ret2B HG.out.1.symm HG.out.2.symm, hbL⟩
      · rw [h2] at c2
        have HG : Hid (folW code k = 0 ∧ foldB code k = false) := HF.out _ rfl (foldB_ld (.inr h2))
        clear h1 h2 HF HR HC
        go_enter Try.func64, Try.ntmps64
        go_wp2
        go_ret2
        exact ⟨ret2B HG.out.1.symm HG.out.2.symm, hbL⟩
    · rw [h1] at c1
      have HG : Hid (folW code k = 0 ∧ foldB code k = false) := HF.out _ rfl (foldB_ld (.inl h1))
      clear h1 c2 HF HR HC
      go_enter Try.func64, Try.ntmps64
      go_wp2
      go_ret2
      exact ⟨ret2B HG.out.1.symm HG.out.2.symm, hbL⟩
  · have h3i : ¬ (k : Int) + 3 < (code.length : Int) := by omega
    have h3j : (code.length : Int) ≤ (k : Int) + 3 := by omega
    have HG : Hid (folW code k = 0 ∧ foldB code k = false) := ⟨by simp [folW, foldB_end h3], foldB_end h3⟩
    clear h3 HR HC
    go_enter Try.func64, Try.ntmps64
    go_wp2
    go_ret2
    exact ⟨ret2B HG.out.1.symm HG.out.2.symm, hbL⟩
end Pg
end Go.Proofs.Ythabenjodhjgiaa
