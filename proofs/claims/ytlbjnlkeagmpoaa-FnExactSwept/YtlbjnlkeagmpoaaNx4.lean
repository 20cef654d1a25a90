/- Contracts: leaders, on both sides. -/
import Derived.Test.YtlbjnlkeagmpoaaNx3
namespace Go.Proofs.Ytlbjnlkeagmpoaa
namespace Pg
open Go.ChangeShapes Go.WideShapes Go.ChangeAt Go.RowKit St

theorem Cells.only {b k : Nat} {u v : World} {vs : List Value} (h : Cells u k vs) (ho : Only b u v) (hne : k ≠ b) : Cells v k vs := fun i x hx => by
  obtain ⟨h1, h2⟩ := h i x hx
  have hbk := ho.block k hne
  exact ⟨(World.cell?_of_block (w := u) hbk).trans h1, (World.frozen?_of_block (w := u) hbk).trans h2⟩
theorem Lst.form {w : World} {v : Value} {l : List Int} (h : Lst w v l) : ∃ g c, v = .slice (some ⟨g, 0, none⟩) l.length c := by
  obtain ⟨g, c, hv, _⟩ := h
  exact ⟨g, c, hv⟩
theorem Cells.lt {k : Nat} {u : World} {x : Value} {vs : List Value} (h : Cells u k (x :: vs)) : k < u.heap.size := cell_lt (h 0 x rfl).1
theorem Cells.lt' {k n : Nat} {u : World} {P : Nat → Bool} (h : Cells u k (chi n P)) (hn : 0 < n) : k < u.heap.size := cell_lt (h 0 _ (chi_at P hn)).1

/-- What step i makes a leader. -/
def endB (op : Int) : Bool := Lay.jumpB op || decide (op = 20)
def ld1 (code : List Tx.Ins) (i j : Nat) : Bool :=
  (Lay.jumpB (insF code i).1 && (decide ((insF code i).2.1 = (j : Int)) && decide (j < code.length))) || (endB (insF code i).1 && (decide ((i : Int) + 1 = (j : Int)) && decide (j < code.length)))
def ldB (code : List Tx.Ins) : Nat → Nat → Bool
  | 0, j => decide (j = 0)
  | k + 1, j => ldB code k j || ld1 code k j
def ldS (code : List Tx.Ins) (i : Nat) (l : List Int) : List Int :=
  let b := if Lay.jumpB (insF code i).1 then putL l (insF code i).2.1 else l
  if endB (insF code i).1 && decide (i + 1 < code.length) then putL b ((i : Int) + 1) else b
def ldL (code : List Tx.Ins) : Nat → List Int
  | 0 => [0]
  | k + 1 => ldS code k (ldL code k)
theorem ldL_rise (code : List Tx.Ins) : ∀ k, Rise (ldL code k)
  | 0 => by simp [ldL]
  | k + 1 => by
    have h := ldL_rise code k
    have h1 : Rise (if Lay.jumpB (insF code k).1 then putL (ldL code k) (insF code k).2.1 else ldL code k) := by split; exact putL_rise h _; exact h
    unfold ldL ldS
    dsimp only
    split
    · exact putL_rise h1 _
    · exact h1
theorem ldL_len (code : List Tx.Ins) : ∀ k, (ldL code k).length ≤ 2 * k + 1
  | 0 => by simp [ldL]
  | k + 1 => by
    have h := ldL_len code k
    have h1 : (if Lay.jumpB (insF code k).1 then putL (ldL code k) (insF code k).2.1 else ldL code k).length ≤ 2 * k + 2 := by
      split
      · have := putL_len (ldL code k) (insF code k).2.1; omega
      · omega
    unfold ldL ldS
    dsimp only
    split
    · have := putL_len (if Lay.jumpB (insF code k).1 then putL (ldL code k) (insF code k).2.1 else ldL code k) ((k : Int) + 1); omega
    · omega
theorem ldL_mem {code : List Tx.Ins} (hok : Lay.codeOk code = true) : ∀ k, k ≤ code.length → ∀ x, x ∈ ldL code k ↔ ∃ j : Nat, ldB code k j = true ∧ x = (j : Int)
  | 0, _, x => by
    simp only [ldL, ldB, List.mem_singleton, decide_eq_true_eq]
    constructor
    · rintro rfl; exact ⟨0, rfl, rfl⟩
    · rintro ⟨j, rfl, rfl⟩; rfl
  | k + 1, hk, x => by
    have ih := ldL_mem hok k (by omega) x
    have hj := fun h => jump_in hok (k := k) (by omega) h
    unfold ldL ldS ldB ld1
    dsimp only
    generalize insF code k = i at *
    obtain ⟨op, A, B⟩ := i
    dsimp only at *
    have hm : x ∈ (if Lay.jumpB op then putL (ldL code k) A else ldL code k) ↔ ∃ j : Nat, (ldB code k j || (Lay.jumpB op && (decide (A = (j : Int)) && decide (j < code.length)))) = true ∧ x = (j : Int) := by
      by_cases hjb : Lay.jumpB op = true
      · obtain ⟨a0, a1⟩ := hj (by unfold Lay.jumpB at hjb; simpa using hjb)
        rw [if_pos hjb, mem_putL, ih]
        simp only [hjb, Bool.true_and, Bool.or_eq_true, Bool.and_eq_true, decide_eq_true_eq]
        constructor
        · rintro (⟨j, h1, h2⟩ | rfl)
          · exact ⟨j, .inl h1, h2⟩
          · exact ⟨x.toNat, .inr ⟨by omega, by omega⟩, by omega⟩
        · rintro ⟨j, h1 | ⟨h1, h2⟩, h3⟩
          · exact .inl ⟨j, h1, h3⟩
          · right; omega
      · rw [if_neg hjb, ih]
        simp only [Bool.not_eq_true] at hjb
        simp only [hjb, Bool.false_and, Bool.or_false]
    by_cases he : (endB op && decide (k + 1 < code.length)) = true
    · rw [if_pos he, mem_putL, hm]
      simp only [Bool.and_eq_true, decide_eq_true_eq] at he
      simp only [he.1, Bool.true_and, Bool.or_eq_true, Bool.and_eq_true, decide_eq_true_eq]
      constructor
      · rintro (⟨j, h1, h2⟩ | rfl)
        · rcases h1 with h1 | h1
          · exact ⟨j, .inl h1, h2⟩
          · exact ⟨j, .inr (.inl h1), h2⟩
        · exact ⟨k + 1, .inr (.inr ⟨by omega, he.2⟩), by omega⟩
      · rintro ⟨j, h1 | h1 | ⟨h1, h2⟩, h3⟩
        · exact .inl ⟨j, .inl h1, h3⟩
        · exact .inl ⟨j, .inr h1, h3⟩
        · right; omega
    · rw [if_neg he, hm]
      constructor
      · rintro ⟨j, h1, h2⟩
        refine ⟨j, ?_, h2⟩
        rw [← Bool.or_assoc, h1, Bool.true_or]
      · rintro ⟨j, h1, h2⟩
        refine ⟨j, ?_, h2⟩
        rw [← Bool.or_assoc, Bool.or_eq_true] at h1
        rcases h1 with h1 | h1
        · exact h1
        · exfalso
          apply he
          simp only [Bool.and_eq_true, decide_eq_true_eq] at h1 ⊢
          exact ⟨h1.1, by omega⟩
theorem ld_ris {code : List Tx.Ins} (hok : Lay.codeOk code = true) : ldL code code.length = risL (ldB code code.length) 40 := by
  have hl := Lay.ok_len hok
  have hb : ∀ k j, k ≤ code.length → ldB code k j = true → j < code.length := by
    intro k
    induction k with
    | zero => intro j _ h; simp [ldB] at h; omega
    | succ k ih =>
      intro j hk h
      simp only [ldB, ld1, Bool.or_eq_true, Bool.and_eq_true, decide_eq_true_eq] at h
      rcases h with h | h | h
      · exact ih j (by omega) h
      · exact h.2.2
      · exact h.2.2
  refine rise_ext (ldL_rise code _) (risL_rise _ _) fun x => ?_
  rw [ldL_mem hok _ (Nat.le_refl _), risL_mem]
  constructor
  · rintro ⟨j, h, e⟩; exact ⟨j, by have := hb _ j (Nat.le_refl _) h; omega, h, e⟩
  · rintro ⟨j, _, h, e⟩; exact ⟨j, h, e⟩
def ldrA (l : List Tx.Ins) : List Int := if Lay.codeOk l then risL (ldB l l.length) 40 else []
theorem ldrA_len (l : List Tx.Ins) : (ldrA l).length ≤ 41 := by
  unfold ldrA
  split
  · have := risL_len (ldB l l.length) 40; omega
  · simp

end Pg
end Go.Proofs.Ytlbjnlkeagmpoaa
