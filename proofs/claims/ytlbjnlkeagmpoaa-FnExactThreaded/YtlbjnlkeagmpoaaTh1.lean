/- What stays, and what is swept, plainly. -/
import Derived.Test.YtlbjnlkeagmpoaaTh0
import Derived.Test.YtlbjnlkeagmpoaaNx6
namespace Go.Proofs.Ytlbjnlkeagmpoaa
namespace Pg
open Go.ChangeShapes Go.WideShapes Go.ChangeAt Go.RowKit St

/-- Is it a jump to the next one? -/
def nxtB (code : List Tx.Ins) (k : Nat) : Bool := decide ((insF code k).1 = 11) && decide ((insF code k).2.1 = (k : Int) + 1)
noncomputable def stB (code : List Tx.Ins) (k : Nat) : Bool := rchB code k && !(nxtB code k)
noncomputable def staA (l : List Tx.Ins) : List Int := if Lay.codeOk l then risL (stB l) 40 else []
theorem staA_len (l : List Tx.Ins) : (staA l).length ≤ 41 := by
  unfold staA
  split
  · have := risL_len (stB l) 40; omega
  · simp
theorem stB_lt {code : List Tx.Ins} (h0 : 0 < code.length) {k : Nat} (h : stB code k = true) : k < code.length := by
  unfold stB at h
  simp only [Bool.and_eq_true] at h
  exact (rchB_iff.1 h.1).lt h0
theorem stB_no {code : List Tx.Ins} {k : Nat} (h : nxtB code k = true) : stB code k = false := by simp [stB, h]
theorem stB_yes {code : List Tx.Ins} {k : Nat} (h : nxtB code k = false) : stB code k = rchB code k := by simp [stB, h]
/-- From a reached one on there is one that stays. -/
theorem stay_from {code : List Tx.Ins} (hok : Lay.codeOk code = true) : ∀ (d k : Nat), code.length - k ≤ d → rchB code k = true → ∃ j, k ≤ j ∧ stB code j = true
  | 0, k, hd, hk => by
    have := (rchB_iff.1 hk).lt (Lay.ok_len hok).1
    omega
  | d + 1, k, hd, hk => by
    have hl := (rchB_iff.1 hk).lt (Lay.ok_len hok).1
    cases hn : nxtB code k
    · exact ⟨k, Nat.le_refl _, by rw [stB_yes hn]; exact hk⟩
    · have hn' := hn
      unfold nxtB at hn'
      simp only [Bool.and_eq_true, decide_eq_true_eq] at hn'
      have hj := jump_in hok hl (.inl hn'.1)
      have hk1 : rchB code (k + 1) = true := rchB_iff.2 (.step (rchB_iff.1 hk) (by
        unfold nxB
        simp only [Bool.and_eq_true, decide_eq_true_eq]
        refine ⟨?_, by omega⟩
        unfold waysF
        simp [hn'.1, hn'.2]))
      obtain ⟨j, h1, h2⟩ := stay_from hok d (k + 1) (by omega) hk1
      exact ⟨j, by omega, h2⟩
/-- How many are ahead. -/
def ahd (P : Nat → Bool) (n : Nat) : Nat := (risL P n).length
theorem ahd_succ (P : Nat → Bool) (n : Nat) : ahd P (n + 1) = ahd P n + (if P n then 1 else 0) := by
  unfold ahd
  rw [risL_succ, List.length_append]
  split <;> rfl
theorem ahd_le (P : Nat → Bool) (n : Nat) : ahd P n ≤ n := risL_len P n
theorem risL_split (P : Nat → Bool) (n : Nat) : ∀ d, ∃ r, risL P (n + d) = risL P n ++ r ∧ ∀ x ∈ r, (n : Int) ≤ x
  | 0 => ⟨[], by simp, by simp⟩
  | d + 1 => by
    obtain ⟨r, h1, h2⟩ := risL_split P n d
    refine ⟨r ++ (if P (n + d) then [((n + d : Nat) : Int)] else []), ?_, ?_⟩
    · rw [← Nat.add_assoc, risL_succ, h1, List.append_assoc]
    · intro x hx
      rcases List.mem_append.1 hx with h | h
      · exact h2 x h
      · split at h
        · rw [List.mem_singleton.1 h]; omega
        · simp at h
/-- Ahead of the place all are less, at it (where there is one) no more. -/
theorem ahd_lt {P : Nat → Bool} {n m i : Nat} (hnm : n ≤ m) (hi : i < ahd P n) : ∃ x : Int, (risL P m)[i]? = some x ∧ x < n := by
  obtain ⟨r, h1, _⟩ := risL_split P n (m - n)
  rw [show n + (m - n) = m from by omega] at h1
  have hi' : i < (risL P n).length := hi
  refine ⟨(risL P n)[i], ?_, ?_⟩
  · rw [h1, List.getElem?_append_left hi', List.getElem?_eq_getElem hi']
  · obtain ⟨j, hj, _, e⟩ := risL_mem.1 (List.getElem_mem hi')
    rw [e]; omega
theorem ahd_ge {P : Nat → Bool} {n m : Nat} (hnm : n ≤ m) (hi : ahd P n < (risL P m).length) : ∃ x : Int, (risL P m)[ahd P n]? = some x ∧ (n : Int) ≤ x := by
  obtain ⟨r, h1, h2⟩ := risL_split P n (m - n)
  rw [show n + (m - n) = m from by omega] at h1
  refine ⟨(risL P m)[ahd P n], List.getElem?_eq_getElem hi, ?_⟩
  have : (risL P m)[ahd P n]? = r[0]? := by
    rw [h1, List.getElem?_append_right (show (risL P n).length ≤ ahd P n from Nat.le_refl _)]
    simp [ahd]
  rw [List.getElem?_eq_getElem hi] at this
  exact h2 _ (List.mem_of_getElem? this.symm)
theorem ahd_there {P : Nat → Bool} {n m j : Nat} (hj : j < m) (hn : n ≤ j) (hp : P j = true) : ahd P n < (risL P m).length := by
  obtain ⟨r, h1, _⟩ := risL_split P n (m - n)
  rw [show n + (m - n) = m from by omega] at h1
  rw [h1, List.length_append]
  have hm : (j : Int) ∈ risL P m := risL_mem.2 ⟨j, hj, hp, rfl⟩
  rw [h1] at hm
  rcases List.mem_append.1 hm with h | h
  · obtain ⟨i, hi, _, e⟩ := risL_mem.1 h
    omega
  · have := List.length_pos_of_mem h
    unfold ahd; omega
/-- A step, its jump to the new number. -/
noncomputable def swpI (code : List Tx.Ins) (k : Nat) : Tx.Ins :=
  if Lay.jumpB (insF code k).1 then ((insF code k).1, (ahd (stB code) (insF code k).2.1.toNat : Int), (insF code k).2.2) else insF code k
noncomputable def swpF (code : List Tx.Ins) : List Tx.Ins := (risL (stB code) 40).map fun x => swpI code x.toNat
noncomputable def swpA (l : List Tx.Ins) : List Tx.Ins := if Lay.codeOk l then swpF l else []
theorem swpF_len (code : List Tx.Ins) : (swpF code).length = (risL (stB code) 40).length := by simp [swpF]
theorem swpA_len (l : List Tx.Ins) : (swpA l).length ≤ 41 := by
  unfold swpA
  split
  · rw [swpF_len]; have := risL_len (stB l) 40; omega
  · simp
theorem swp_succ {code : List Tx.Ins} {k : Nat} (hk : k < (risL (stB code) 40).length) : ((risL (stB code) 40).take (k + 1)).map (fun x => swpI code x.toNat) = ((risL (stB code) 40).take k).map (fun x => swpI code x.toNat) ++ [swpI code ((risL (stB code) 40)[k]).toNat] := by
  rw [List.take_succ_eq_append_getElem hk, List.map_append]
  rfl
/-- A jump that stays goes to where one stays behind. -/
theorem jump_stay {code : List Tx.Ins} (hok : Lay.codeOk code = true) {k : Nat} (hs : rchB code k = true) (hj : Lay.jumpB (insF code k).1 = true) :
    0 ≤ (insF code k).2.1 ∧ (insF code k).2.1 < code.length ∧ ahd (stB code) (insF code k).2.1.toNat < (risL (stB code) 40).length := by
  have hl := (rchB_iff.1 hs).lt (Lay.ok_len hok).1
  have hj' : (insF code k).1 = 11 ∨ (insF code k).1 = 12 := by
    rcases jump_cases (insF code k).1 with h | h | h
    · exact .inl h.1
    · exact .inr h.1
    · rw [h.2.2] at hj; simp at hj
  obtain ⟨h0, h1⟩ := jump_in hok hl hj'
  obtain ⟨a, ha⟩ := Int.eq_ofNat_of_zero_le h0
  refine ⟨h0, h1, ?_⟩
  rw [ha, Int.toNat_natCast]
  have hr : rchB code a = true := rchB_iff.2 (.step (rchB_iff.1 hs) (by
    unfold nxB
    simp only [Bool.and_eq_true, decide_eq_true_eq]
    refine ⟨?_, by omega⟩
    unfold waysF
    rcases hj' with h | h <;> simp [h, ha]))
  obtain ⟨j, h2, h3⟩ := stay_from hok _ a (Nat.le_refl _) hr
  have := stB_lt (Lay.ok_len hok).1 h3
  have := (Lay.ok_len hok).2
  exact ahd_there (by omega) h2 h3

end Pg
end Go.Proofs.Ytlbjnlkeagmpoaa
