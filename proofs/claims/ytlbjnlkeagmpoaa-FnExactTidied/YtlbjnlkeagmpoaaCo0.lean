/- Rows of steps that a call has made: copied, grown, one step written anew. -/
import Derived.Test.YtlbjnlkeagmpoaaNx4
import Derived.Test.YtlbjnlkeagmpoaaGot0
namespace Go.Proofs.Ytlbjnlkeagmpoaa
namespace Pg
open Go.ChangeShapes Go.WideShapes Go.ChangeAt Go.RowKit St

/-- A row of steps that the call has made and that may grow. -/
def GrowC (B : Nat) (w : World) (v : Value) (l : List Tx.Ins) : Prop := w.ownsRow B 38 3 v l.length (flat l) ∧ v ≠ .slice none 0 0
theorem GrowC.got {B : Nat} {w : World} {v : Value} {l : List Tx.Ins} (h : GrowC B w v l) : Got B w v l := got_of h.1 h.2
theorem GrowC.on {B : Nat} {u v : World} {x : Value} {l : List Tx.Ins} (h : GrowC B u x l) (hb : Below u.heap.size u v) : GrowC B v x l := ⟨ownOn h.1 hb, h.2⟩
theorem GrowC.base {B B' : Nat} {w : World} {v : Value} {l : List Tx.Ins} (h : GrowC B w v l) (hB : B' ≤ B) : GrowC B' w v l := ⟨ownBase h.1 hB, h.2⟩
theorem GrowC.form {B : Nat} {w : World} {v : Value} {l : List Tx.Ins} (h : GrowC B w v l) : ∃ g cap, v = .slice (some ⟨g, 0, none⟩) l.length cap := by
  obtain ⟨g, cap, hv, _⟩ := h.got
  exact ⟨g, cap, hv⟩
theorem growC_nil (w : World) : GrowC w.heap.size (w.alloc (.cells #[] 38)) (.slice (some ⟨w.heap.size, 0, none⟩) 0 0) [] := by
  refine ⟨?_, by simp⟩
  have h : (w.alloc (.cells #[] 38)).ownsRow w.heap.size 38 3 (.slice (some ⟨w.heap.size, 0, none⟩) 0 0) 0 [] := World.ownsRow_made w #[] 0 (Nat.le_refl _) (by decide) (by simp)
  simpa [flat] using h
theorem wpList_growC {w : World} {ops : Array Oper} {rest : List Oper} {o : Oper} {a : Act} {Q : Exit → Act → World → Prop} (hgd : o.guard = none) (s x : Operand)
    (ho : o.op = .call { callee := .builtin .append, args := #[s, x], argTypes := #[25, 25] })
    (B : Nat) (v : Value) (l : List Tx.Ins) (hs : a.eval s = v) (hg : GrowC B w v l) (hB : B ≤ w.heap.size)
    (g of c : Nat) (r : List Tx.Ins) (hx : a.eval x = .slice (some ⟨g, of, none⟩) r.length c) (hr : Row w g of r) (hlen : l.length + r.length ≤ 1000)
    (h : ∀ v' w', GrowC B w' v' (l ++ r) → w.grownBy w' v.ownBlock → Below B w w' → wpList Try.prog ops Q rest (a.put o.dst v') w') : wpList Try.prog ops Q (o :: rest) a w := by
  obtain ⟨i0, hif, hz0, hz1, hz2⟩ := info_parts infoI
  refine wpList_append_own w hgd s x 25 ho B 38 i0 (.agg #[.int .i64 0, .int .i64 0, .int .i64 0]) 3 24 Try.underlying25 hif hz0 hz1 hz2 rfl (by decide) v l.length (flat l) hs hg.1 ⟨g, of, none⟩ r.length c (flat r) hx (flat_len r) hr.flat (flat_one r) (by unfold maxLen; omega) (by omega) hB ?_
  intro v' w' hown hgrow hnil
  refine h v' w' ⟨?_, ?_⟩ hgrow ((Below.refl _ _).grown hgrow hB (fun k hk => (hg.1.lt k hk).1))
  · rw [List.length_append, flat_append]; exact hown
  · intro e; exact hg.2 (hnil.1 e).1
/-- One step of a row written anew. -/
theorem row_set3 {w : World} {g k : Nat} {l : List Tx.Ins} (hroom : Room w g (l.length * 3)) (hr : Row w g 0 l) (x : Tx.Ins) :
    Row (((w.setCell ⟨g, k * 3, none⟩ (.int .i64 x.1)).setCell ⟨g, k * 3 + 1, none⟩ (.int .i64 x.2.1)).setCell ⟨g, k * 3 + 2, none⟩ (.int .i64 x.2.2)) g 0 (l.set k x) := by
  have ne : ∀ a b : Nat, a ≠ b → (⟨g, a, none⟩ : Addr) ≠ ⟨g, b, none⟩ := fun a b h e => h (congrArg Addr.off e)
  intro j y hj
  rw [List.getElem?_set] at hj
  rw [Nat.zero_add]
  by_cases e : k = j
  · subst e
    by_cases hk : k < l.length
    · rw [if_pos rfl, if_pos hk] at hj
      injection hj with hj
      subst hj
      obtain ⟨⟨x0, h0⟩, _⟩ := hroom (k * 3) (by omega)
      obtain ⟨⟨x1, h1⟩, _⟩ := hroom (k * 3 + 1) (by omega)
      obtain ⟨⟨x2, h2⟩, _⟩ := hroom (k * 3 + 2) (by omega)
      refine ⟨?_, ?_, ?_⟩
      · rw [World.cell?_setCell_other _ _ _ _ (ne _ _ (by omega)), World.cell?_setCell_other _ _ _ _ (ne _ _ (by omega))]
        exact World.cell?_setCell_same _ _ _ h0
      · rw [World.cell?_setCell_other _ _ _ _ (ne _ _ (by omega))]
        exact World.cell?_setCell_same _ _ _ ((World.cell?_setCell_other _ _ _ _ (ne _ _ (by omega))).trans h1)
      · exact World.cell?_setCell_same _ _ _ ((World.cell?_setCell_other _ _ _ _ (ne _ _ (by omega))).trans ((World.cell?_setCell_other _ _ _ _ (ne _ _ (by omega))).trans h2))
    · rw [if_pos rfl, if_neg hk] at hj
      simp at hj
  · rw [if_neg e] at hj
    obtain ⟨a0, a1, a2⟩ := hr j y hj
    rw [Nat.zero_add] at a0 a1 a2
    refine ⟨?_, ?_, ?_⟩
    · rw [World.cell?_setCell_other _ _ _ _ (ne _ _ (by omega)), World.cell?_setCell_other _ _ _ _ (ne _ _ (by omega)), World.cell?_setCell_other _ _ _ _ (ne _ _ (by omega))]; exact a0
    · rw [World.cell?_setCell_other _ _ _ _ (ne _ _ (by omega)), World.cell?_setCell_other _ _ _ _ (ne _ _ (by omega)), World.cell?_setCell_other _ _ _ _ (ne _ _ (by omega))]; exact a1
    · rw [World.cell?_setCell_other _ _ _ _ (ne _ _ (by omega)), World.cell?_setCell_other _ _ _ _ (ne _ _ (by omega)), World.cell?_setCell_other _ _ _ _ (ne _ _ (by omega))]; exact a2
/-- The second number of one step written anew. -/
theorem row_setA {w : World} {g k : Nat} {l : List Tx.Ins} (hr : Row w g 0 l) {x : Tx.Ins} (hx : l[k]? = some x) (A : Int) : Row (w.setCell ⟨g, k * 3 + 1, none⟩ (.int .i64 A)) g 0 (l.set k (x.1, A, x.2.2)) := by
  have ne : ∀ a b : Nat, a ≠ b → (⟨g, a, none⟩ : Addr) ≠ ⟨g, b, none⟩ := fun a b h e => h (congrArg Addr.off e)
  intro j y hj
  rw [List.getElem?_set] at hj
  rw [Nat.zero_add]
  by_cases e : k = j
  · subst e
    rw [if_pos rfl, if_pos (List.getElem?_eq_some_iff.1 hx).1] at hj
    injection hj with hj
    subst hj
    obtain ⟨a0, a1, a2⟩ := hr k x hx
    rw [Nat.zero_add] at a0 a1 a2
    exact ⟨(World.cell?_setCell_other _ _ _ _ (ne _ _ (by omega))).trans a0, World.cell?_setCell_same _ _ _ a1, (World.cell?_setCell_other _ _ _ _ (ne _ _ (by omega))).trans a2⟩
  · rw [if_neg e] at hj
    obtain ⟨a0, a1, a2⟩ := hr j y hj
    rw [Nat.zero_add] at a0 a1 a2
    exact ⟨(World.cell?_setCell_other _ _ _ _ (ne _ _ (by omega))).trans a0, (World.cell?_setCell_other _ _ _ _ (ne _ _ (by omega))).trans a1, (World.cell?_setCell_other _ _ _ _ (ne _ _ (by omega))).trans a2⟩
end Pg
end Go.Proofs.Ytlbjnlkeagmpoaa
