/- Stores that nobody loads, plainly. -/
import Derived.Test.YtlbjnlkeagmpoaaLv6
import Derived.Test.YtlbjnlkeagmpoaaNx7
namespace Go.Proofs.Ytlbjnlkeagmpoaa
namespace Pg
open Go.ChangeShapes Go.WideShapes Go.ChangeAt Go.RowKit St

/-- A reached store whose local nobody wants behind it. -/
noncomputable def deadB (l : List Tx.Ins) (k : Nat) : Bool := rchB l k && (decide ((insF l k).1 = 3) && !(outF l k (lvB l) (insF l k).2.1.toNat))
theorem deadB_rch {l : List Tx.Ins} {k : Nat} (h : deadB l k = true) : rchB l k = true := by
  unfold deadB at h
  simp only [Bool.and_eq_true] at h
  exact h.1
theorem deadB_lt {l : List Tx.Ins} (h0 : 0 < l.length) {k : Nat} (h : deadB l k = true) : k < l.length := (rchB_iff.1 (deadB_rch h)).lt h0
noncomputable def dedA (l : List Tx.Ins) : List Int := if Lay.codeOk l then risL (deadB l) 40 else []
theorem dedA_len (l : List Tx.Ins) : (dedA l).length ≤ 41 := by
  unfold dedA
  split
  · have := risL_len (deadB l) 40; omega
  · simp
/-- What is left of the reached ones that were gone through. -/
noncomputable def dedP (l : List Tx.Ins) (r : List Int) : List Int := r.filter fun x => deadB l x.toNat
theorem dedP_succ {l : List Tx.Ins} {r : List Int} {k : Nat} (hk : k < r.length) : dedP l (r.take (k + 1)) = dedP l (r.take k) ++ (if deadB l r[k].toNat then [r[k]] else []) := by
  unfold dedP
  rw [List.take_succ_eq_append_getElem hk, List.filter_append]
  cases h : deadB l r[k].toNat <;> simp [h]
theorem dedP_all {l : List Tx.Ins} : dedP l (risL (rchB l) 40) = risL (deadB l) 40 := by
  have hr : Rise (dedP l (risL (rchB l) 40)) := by
    unfold dedP
    exact List.Pairwise.filter _ (risL_rise _ _)
  refine rise_ext hr (risL_rise _ _) fun x => ?_
  unfold dedP
  rw [List.mem_filter, risL_mem, risL_mem]
  constructor
  · rintro ⟨⟨j, a, b, rfl⟩, c⟩; exact ⟨j, a, by simpa using c, rfl⟩
  · rintro ⟨j, a, b, rfl⟩; exact ⟨⟨j, a, deadB_rch b, rfl⟩, by simpa using b⟩
/-- All of these OpPop. -/
def popsF (l : List Tx.Ins) (d : List Int) : List Tx.Ins := d.foldl (fun c x => c.set x.toNat (9, 0, 0)) l
theorem pops_len (d : List Int) : ∀ l : List Tx.Ins, (popsF l d).length = l.length := by
  induction d with
  | nil => intro l; rfl
  | cons x d ih => intro l; unfold popsF at ih ⊢; rw [List.foldl_cons, ih]; simp
theorem pops_succ (l : List Tx.Ins) {d : List Int} {k : Nat} (hk : k < d.length) : popsF l (d.take (k + 1)) = (popsF l (d.take k)).set d[k].toNat (9, 0, 0) := by
  unfold popsF
  rw [List.take_succ_eq_append_getElem hk, List.foldl_append]
  rfl
noncomputable def unsA (l : List Tx.Ins) : List Tx.Ins := if Lay.codeOk l then popsF l (risL (deadB l) 40) else []
theorem unsA_len (l : List Tx.Ins) : (unsA l).length ≤ 41 := by
  unfold unsA
  split
  · rename_i h
    have := (Lay.ok_len h).2
    rw [pops_len]; omega
  · simp
/-- One bit of eight. -/
theorem bit_is (P : Nat → Bool) {a : Nat} (ha : a < 8) : bn P 8 / 2 ^ a % 2 = if P a then 1 else 0 := by
  have h := bn_test P a 8
  rw [Nat.testBit_eq_decide_div_mod_eq] at h
  have h8 : decide (a < 8) = true := by simpa using ha
  rw [h8, Bool.true_and] at h
  cases hp : P a
  · rw [hp] at h
    simp at h
    simp [h]
  · rw [hp] at h
    simp at h
    simp [h]
end Pg
end Go.Proofs.Ytlbjnlkeagmpoaa
