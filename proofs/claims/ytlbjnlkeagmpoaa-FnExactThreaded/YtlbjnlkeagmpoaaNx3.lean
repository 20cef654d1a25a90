/- Contracts: both sides' Nexts. -/
import Derived.Test.YtlbjnlkeagmpoaaNx2
namespace Go.Proofs.Ytlbjnlkeagmpoaa
namespace Pg
open Go.ChangeShapes Go.WideShapes Go.ChangeAt Go.RowKit St

/-- Is it a place of code that is right? -/
def atB (l : List Tx.Ins) (n : Int) : Bool := Lay.codeOk l && (decide (0 ≤ n) && decide (n < (l.length : Int)))
def nexA (l : List Tx.Ins) (n : Int) : List Int := if atB l n then risL (nxB l n.toNat) 40 else []
theorem nexA_len (l : List Tx.Ins) (n : Int) : (nexA l n).length ≤ 41 := by
  unfold nexA
  split
  · have := risL_len (nxB l n.toNat) 40; omega
  · simp
theorem nextsF_rise (code : List Tx.Ins) (k : Nat) : Rise (nextsF code k) := by
  unfold nextsF
  dsimp only
  have h : ∀ b : Bool, Rise (if b = true then [(k : Int) + 1] else []) := fun b => by cases b <;> simp
  by_cases hc : (insF code k).1 ≠ 11 ∧ (insF code k).1 ≠ 20 ∧ k + 1 < code.length
  · rw [if_pos hc]
    split
    · exact putL_rise (by simp) _
    · simp
  · rw [if_neg hc]
    split
    · exact putL_rise (by simp) _
    · simp
theorem nextsF_mem {code : List Tx.Ins} (hok : Lay.codeOk code = true) {k : Nat} (hk : k < code.length) (x : Int) : x ∈ nextsF code k ↔ ∃ j : Nat, nxB code k j = true ∧ x = (j : Int) := by
  have hj := fun h => jump_in hok hk h
  unfold nextsF nxB waysF
  dsimp only
  generalize insF code k = i at *
  obtain ⟨op, A, B⟩ := i
  dsimp only at *
  by_cases h20 : op = 20
  · subst h20; simp
  · by_cases h11 : op = 11
    · subst h11
      obtain ⟨a0, a1⟩ := hj (.inl rfl)
      simp [mem_putL]
      constructor
      · rintro rfl; exact ⟨x.toNat, by omega, by omega⟩
      · rintro ⟨j, h1, h2⟩; omega
    · by_cases h12 : op = 12
      · subst h12
        obtain ⟨a0, a1⟩ := hj (.inr rfl)
        by_cases hl : k + 1 < code.length
        · simp [mem_putL, hl]
          constructor
          · rintro (rfl | rfl)
            · exact ⟨k + 1, ⟨.inr rfl, hl⟩, by omega⟩
            · exact ⟨x.toNat, ⟨.inl rfl, by omega⟩, by omega⟩
          · rintro ⟨j, ⟨h1 | h1, h2⟩, h3⟩
            · right; omega
            · left; omega
        · simp [mem_putL, hl]
          constructor
          · rintro rfl; exact ⟨x.toNat, ⟨.inl rfl, by omega⟩, by omega⟩
          · rintro ⟨j, ⟨h1 | h1, h2⟩, h3⟩ <;> omega
      · by_cases hl : k + 1 < code.length
        · simp [h20, h11, h12, hl]
          constructor
          · rintro rfl; exact ⟨k + 1, ⟨rfl, hl⟩, by omega⟩
          · rintro ⟨j, ⟨h1, h2⟩, h3⟩; omega
        · simp [h20, h11, h12, hl]
theorem nexts_ris {code : List Tx.Ins} (hok : Lay.codeOk code = true) {k : Nat} (hk : k < code.length) : nextsF code k = risL (nxB code k) 40 := by
  have hl := (Lay.ok_len hok).2
  refine rise_ext (nextsF_rise code k) (risL_rise _ _) fun x => ?_
  rw [nextsF_mem hok hk, risL_mem]
  constructor
  · rintro ⟨j, h, e⟩
    refine ⟨j, ?_, h, e⟩
    unfold nxB at h
    simp only [Bool.and_eq_true, decide_eq_true_eq] at h
    omega
  · rintro ⟨j, _, h, e⟩; exact ⟨j, h, e⟩

set_option maxRecDepth 100000 in
set_option maxHeartbeats 1000000 in
theorem l9At_at (g cap : Nat) (l : List Tx.Ins) (n : Int) (hl : l.length ≤ 1048576) (w : World) (hr : Row w g 0 l) :
    Calls Try.prog 26 #[.slice (some ⟨g, 0, none⟩) l.length cap, .int .i64 n] w fun e w' => e = .returned (.bool (atB l n)) ∧ Below w.heap.size w w' := by
  have HR : Hid (Row w g 0 l) := hr
  clear hr
  go_enter Try.func26, Try.ntmps26
  go_wp2_with fail
  refine (specCodeOk g cap l hl w HR.out).mono ?_
  rintro e w1 ⟨rfl, hb1⟩
  cases hok : Lay.codeOk l
  · have HE : Hid (atB l n = false) := by show _ = _; simp [atB, hok]
    clear hok
    go_wp2
    go_ret
    exact ⟨retB HE.out.symm, hb1⟩
  · by_cases h0 : 0 ≤ n
    · have HE : Hid (atB l n = decide (n < (l.length : Int))) := by show _ = _; simp [atB, hok, h0]
      clear hok
      go_wp2
      go_ret
      exact ⟨retB HE.out.symm, hb1⟩
    · have HE : Hid (atB l n = false) := by show _ = _; simp [atB, hok, h0]
      clear hok
      go_wp2
      go_ret
      exact ⟨retB HE.out.symm, hb1⟩
end Pg
end Go.Proofs.Ytlbjnlkeagmpoaa
