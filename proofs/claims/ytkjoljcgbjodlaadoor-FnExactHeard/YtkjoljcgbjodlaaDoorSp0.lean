/- The contract of the other side's cutting of a text at a byte. -/
import Derived.Test.YtkjoljcgbjodlaaDoorShow4
import Derived.Test.YtkjoljcgbjodlaaDoorLaw0
import Derived.Test.YtkjoljcgbjodlaaDoorBox0
namespace Go.Proofs.YtkjoljcgbjodlaaDoor
namespace St
open Go.ChangeShapes Go.WideShapes Go.ChangeAt Go.RowKit

/-- The pieces that are done, and the piece that is begun. -/
def spF (c : UInt8) (l : List UInt8) : List (List UInt8) × List UInt8 :=
  l.foldl (fun p x => if x = c then (p.1 ++ [p.2], []) else (p.1, p.2 ++ [x])) ([], [])
theorem spF_snoc (c x : UInt8) (l : List UInt8) : spF c (l ++ [x]) = if x = c then ((spF c l).1 ++ [(spF c l).2], []) else ((spF c l).1, (spF c l).2 ++ [x]) := by simp [spF]
theorem spF_split (c : UInt8) (l : List UInt8) : (spF c l).1 ++ [(spF c l).2] = Tx.splitC c l := by
  suffices h : ∀ (l : List UInt8) (o : List (List UInt8)) (u : List UInt8), c ∉ u → (l.foldl (fun p x => if x = c then (p.1 ++ [p.2], []) else (p.1, p.2 ++ [x])) (o, u)).1 ++ [(l.foldl (fun p x => if x = c then (p.1 ++ [p.2], []) else (p.1, p.2 ++ [x])) (o, u)).2] = o ++ Tx.splitC c (u ++ l) by
    simpa [spF] using h l [] [] (by simp)
  intro l
  induction l with
  | nil => intro o u hu; simp [Tx.splitC_none hu]
  | cons x l ih =>
    intro o u hu
    simp only [List.foldl_cons]
    by_cases hx : x = c
    · subst hx
      rw [if_pos rfl, ih _ _ (by simp), Tx.splitC_app hu]; simp
    · rw [if_neg hx, ih _ _ (by simp only [List.mem_append, List.mem_singleton, not_or]; exact ⟨hu, fun e => hx e.symm⟩)]; simp
theorem spF_len (c : UInt8) (l : List UInt8) : (spF c l).1.length ≤ l.length ∧ (spF c l).2.length ≤ l.length := by
  suffices h : ∀ (l : List UInt8) (o : List (List UInt8)) (u : List UInt8), (l.foldl (fun p x => if x = c then (p.1 ++ [p.2], []) else (p.1, p.2 ++ [x])) (o, u)).1.length ≤ o.length + l.length ∧ (l.foldl (fun p x => if x = c then (p.1 ++ [p.2], []) else (p.1, p.2 ++ [x])) (o, u)).2.length ≤ u.length + l.length by
    simpa [spF] using h l [] []
  intro l
  induction l with
  | nil => intro o u; simp
  | cons x l ih =>
    intro o u
    simp only [List.foldl_cons, List.length_cons]
    by_cases hx : x = c
    · rw [if_pos hx]; have := ih (o ++ [u]) []; simp only [List.length_append, List.length_singleton, List.length_nil] at this; omega
    · rw [if_neg hx]; have := ih o (u ++ [x]); simp only [List.length_append, List.length_singleton] at this; omega
/-- The piece that is begun is the text's end. -/
theorem spF_end (c : UInt8) (l : List UInt8) : (spF c l).2 = l.drop (l.length - (spF c l).2.length) := by
  suffices h : ∃ q, l = q ++ (spF c l).2 by
    obtain ⟨q, hq⟩ := h
    have hl : l.length = q.length + (spF c l).2.length := by
      have := congrArg List.length hq; rw [List.length_append] at this; exact this
    have e : l.length - (spF c l).2.length = q.length := by omega
    rw [e]
    generalize (spF c l).2 = u at hq
    subst hq; simp
  suffices h : ∀ (l : List UInt8) (o : List (List UInt8)) (u : List UInt8), ∃ q, u ++ l = q ++ (l.foldl (fun p x => if x = c then (p.1 ++ [p.2], []) else (p.1, p.2 ++ [x])) (o, u)).2 by
    simpa [spF] using h l [] []
  intro l
  induction l with
  | nil => intro o u; exact ⟨[], by simp⟩
  | cons x l ih =>
    intro o u
    simp only [List.foldl_cons]
    by_cases hx : x = c
    · rw [if_pos hx]
      obtain ⟨q, hq⟩ := ih (o ++ [u]) []
      exact ⟨u ++ x :: q, by simp only [List.nil_append] at hq; rw [List.append_assoc, List.cons_append, ← hq]⟩
    · rw [if_neg hx]
      obtain ⟨q, hq⟩ := ih o (u ++ [x])
      exact ⟨q, by rw [← hq]; simp⟩

def strs (p : List (List UInt8)) : List Value := p.map fun x => .string ⟨x.toArray⟩
end St
end Go.Proofs.YtkjoljcgbjodlaaDoor
