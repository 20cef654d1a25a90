/- Two that come to nothing, and stores that nobody loads, plainly. -/
import Derived.Test.YthabenjodhjgiaaFo0
namespace Go.Proofs.Ythabenjodhjgiaa
namespace Pg
open Go.ChangeShapes Go.WideShapes Go.ChangeAt Go.RowKit St Wd

/-- Do the two come to nothing? -/
def pairB (x y : Tx.Ins) : Bool :=
  if y.1 = 9 then decide (x.1 = 1 ∨ x.1 = 2 ∨ x.1 = 13 ∨ x.1 = 8) else
  if y.1 = 10 then decide (x.1 = 10) else
  if y.1 = 4 ∨ y.1 = 5 then decide (x.1 = 1 ∧ x.2.1 = 0) else
  if y.1 = 6 ∨ y.1 = 7 then decide (x.1 = 1 ∧ x.2.1 = 1) else decide (y.1 = 12 ∧ x.1 = 1)
theorem pair_busy {x y : Tx.Ins} (h : pairB x y = true) : x.1 ≠ 11 ∧ y.1 ≠ 11 := by
  unfold pairB at h
  constructor
  · intro e
    rw [e] at h
    repeat' split at h <;> simp at h
  · intro e
    rw [e] at h
    simp at h
/-- Do two come to nothing at i? -/
def peepB (code : List Tx.Ins) (i : Nat) : Bool := decide (i + 2 < code.length) && (!(ldB code code.length (i + 1)) && pairB (insF code i) (insF code (i + 1)))
theorem peepB_lt {code : List Tx.Ins} {i : Nat} (h : peepB code i = true) : i + 2 < code.length := by
  unfold peepB at h
  simp only [Bool.and_eq_true, decide_eq_true_eq] at h
  exact h.1
theorem peepB_pair {code : List Tx.Ins} {i : Nat} (h : peepB code i = true) : pairB (insF code i) (insF code (i + 1)) = true := by
  unfold peepB at h
  simp only [Bool.and_eq_true, decide_eq_true_eq] at h
  exact h.2.2
def toI (code : List Tx.Ins) (i : Nat) : Int := if (insF code (i + 1)).1 = 12 ∧ (insF code i).2.1 = 0 then (insF code (i + 1)).2.1 else (i : Int) + 2
def peepAt (code : List Tx.Ins) (i : Nat) : List Tx.Ins := (code.set i (11, toI code i, 0)).set (i + 1) (11, (i : Int) + 2, 0)
theorem peepAt_len (code : List Tx.Ins) (i : Nat) : (peepAt code i).length = code.length := by simp [peepAt]
theorem toI_in {code : List Tx.Ins} (hok : Lay.codeOk code = true) {i : Nat} (hi : i + 2 < code.length) : 0 ≤ toI code i ∧ toI code i < (code.length : Int) := by
  unfold toI
  split
  · rename_i h
    exact jump_in hok (k := i + 1) (by omega) (.inr h.1)
  · omega
theorem peepAt_ok {code : List Tx.Ins} (hok : Lay.codeOk code = true) {i : Nat} (hi : i + 2 < code.length) : Lay.codeOk (peepAt code i) = true := by
  have hl := (Lay.ok_len hok).2
  have ht := toI_in hok hi
  have hj : ∀ t : Int, 0 ≤ t → t < (code.length : Int) → Tx.okT (11, t, 0) = true := by
    intro t h0 h1
    unfold Tx.okT Tx.okI Tx.limA Tx.limB
    simp
    omega
  unfold peepAt
  refine codeOk_set (codeOk_set hok _ (hj _ ht.1 ht.2) ?_) _ (hj _ (by omega) (by omega)) ?_
  · intro _; exact ht.2
  · intro _; simp; omega
theorem peepAt_busy {code : List Tx.Ins} {i : Nat} (h : peepB code i = true) : busyN (peepAt code i) < busyN code := by
  have hlt := peepB_lt h
  obtain ⟨h1, h2⟩ := pair_busy (peepB_pair h)
  unfold busyN peepAt
  have e0 := ins_is (code := code) (k := i) (by omega)
  have e1 := ins_is (code := code) (k := i + 1) (by omega)
  refine Nat.lt_of_lt_of_le (countP_set_lt (by simp) _ _ (insF code (i + 1)) ?_ (by simpa using h2)) (countP_set_le (by simp) _ _)
  rw [List.getElem?_set_ne (by omega)]; exact e1
/-- The first place at which two come to nothing. -/
def firstP (code : List Tx.Ins) : Option Nat := (List.range code.length).find? (peepB code)
theorem peep_ris {code : List Tx.Ins} (h40 : code.length ≤ 40) : risL (peepB code) 40 = risL (peepB code) code.length := by
  refine rise_ext (risL_rise _ _) (risL_rise _ _) fun x => ?_
  rw [risL_mem, risL_mem]
  constructor
  · rintro ⟨j, _, h, e⟩; exact ⟨j, by have := peepB_lt h; omega, h, e⟩
  · rintro ⟨j, _, h, e⟩; exact ⟨j, by omega, h, e⟩
/-- The first of the places that rise. -/
theorem ris_first {P : Nat → Bool} {x : Int} {r : List Int} : ∀ {n : Nat}, risL P n = x :: r → ∃ k : Nat, x = (k : Int) ∧ k < n ∧ P k = true := by
  intro n h
  have hm : x ∈ risL P n := by rw [h]; exact List.mem_cons_self
  obtain ⟨j, a, b, c⟩ := risL_mem.1 hm
  exact ⟨j, c, a, b⟩
/-- PeepAt the first, as long as there are any. -/
def pepAll : Nat → List Tx.Ins → List Tx.Ins
  | 0, code => code
  | n + 1, code => match risL (peepB code) 40 with | [] => code | x :: _ => pepAll n (peepAt code x.toNat)
theorem pepAll_more : ∀ (n : Nat) (code : List Tx.Ins), busyN code ≤ n → ∀ m, n ≤ m → pepAll m code = pepAll n code
  | 0, code, h, m, _ => by
    have e : risL (peepB code) 40 = [] := by
      cases e : risL (peepB code) 40 with
      | nil => rfl
      | cons x r =>
        obtain ⟨k, _, _, hk⟩ := ris_first e
        have := peepAt_busy hk; omega
    cases m with
    | zero => rfl
    | succ m => simp [pepAll, e]
  | n + 1, code, h, m, hm => by
    obtain ⟨m, rfl⟩ : ∃ k, m = k + 1 := ⟨m - 1, by omega⟩
    simp only [pepAll]
    cases e : risL (peepB code) 40 with
    | nil => rfl
    | cons x r =>
      obtain ⟨k, rfl, _, hk⟩ := ris_first e
      have := peepAt_busy hk
      simp only [Int.toNat_natCast]
      exact pepAll_more n _ (by omega) m (by omega)
def pepF (code : List Tx.Ins) : List Tx.Ins := pepAll (busyN code) code
theorem pepF_step {code : List Tx.Ins} {k : Nat} {r : List Int} (h : risL (peepB code) 40 = (k : Int) :: r) : pepF code = pepF (peepAt code k) := by
  obtain ⟨k', e, _, hk⟩ := ris_first h
  obtain rfl : k = k' := by omega
  have hb := peepAt_busy hk
  unfold pepF
  obtain ⟨m, hm⟩ : ∃ j, busyN code = j + 1 := ⟨busyN code - 1, by omega⟩
  rw [hm]
  simp only [pepAll, h, Int.toNat_natCast]
  exact pepAll_more _ _ (Nat.le_refl _) _ (by omega)
theorem pepF_end {code : List Tx.Ins} (h : risL (peepB code) 40 = []) : pepF code = code := by
  unfold pepF
  cases busyN code with
  | zero => rfl
  | succ n => simp [pepAll, h]
theorem busyN_len (c : List Tx.Ins) : busyN c ≤ c.length := by unfold busyN; exact List.countP_le_length
theorem pepAll_len : ∀ (n : Nat) (c : List Tx.Ins), (pepAll n c).length = c.length := by
  intro n
  induction n with
  | zero => intro c; rfl
  | succ n ih =>
    intro c
    simp only [pepAll]
    split
    · rfl
    · rw [ih, peepAt_len]
/-- What the five functions answer. -/
def isPeepB (l : List Tx.Ins) (n : Int) : Bool := (decide (0 ≤ n) && decide (n < (l.length : Int) - 2)) && peepB l n.toNat
def patA (l : List Tx.Ins) (n : Int) : List Tx.Ins := if Lay.codeOk l then (if isPeepB l n then peepAt l n.toNat else l) else []
def patB (l : List Tx.Ins) (n : Int) : Bool := Lay.codeOk l && isPeepB l n
def pepsA (l : List Tx.Ins) : List Int := if Lay.codeOk l then risL (peepB l) 40 else []
def palA (l : List Tx.Ins) : List Tx.Ins := if Lay.codeOk l then pepF l else []
theorem patA_len (l : List Tx.Ins) (n : Int) : (patA l n).length ≤ 41 := by
  unfold patA
  split
  · rename_i h
    have := (Lay.ok_len h).2
    split
    · rw [peepAt_len]; omega
    · omega
  · simp
theorem pepsA_len (l : List Tx.Ins) : (pepsA l).length ≤ 41 := by
  unfold pepsA
  split
  · have := risL_len (peepB l) 40; omega
  · simp
theorem palA_len (l : List Tx.Ins) : (palA l).length ≤ 41 := by
  unfold palA
  split
  · rename_i h
    have := (Lay.ok_len h).2
    unfold pepF
    rw [pepAll_len]; omega
  · simp
end Pg
end Go.Proofs.Ythabenjodhjgiaa
