/- Appends onto a list of numbers of one's own; what the program counts ahead of a list. -/
import Derived.Test.YtbgbddahniacbaaGreatDoorJGw0
import Derived.Test.YtbgbddahniacbaaGreatDoorJPc0
import Derived.Laws.AppendOwnNone
namespace Go.Proofs.YtbgbddahniacbaaGreatDoor
namespace Pg
open Go.ChangeShapes Go.WideShapes Go.ChangeAt Go.RowKit St

end Pg
end Go.Proofs.YtbgbddahniacbaaGreatDoor

/- An append onto a list of one's own, as a law of the walk; what the program counts. -/
namespace Go.Proofs.YtbgbddahniacbaaGreatDoor
namespace Pg
open Go.ChangeShapes Go.WideShapes Go.ChangeAt Go.RowKit St

theorem counted_at (B : Nat) (z : Option Addr) (c : Nat) (l : List Int) (hl : l.length ≤ 900) (w : World) (h : SI true B w (.slice z l.length c) l) :
    Calls Tryz.prog 52 #[.slice z l.length c] w fun e w' => ∃ v, e = .returned v ∧ Grow w.heap.size w' v ((l.length : Int) :: l) ∧ Below w.heap.size w w' := by
  have H : Hid (SI true B w (.slice z l.length c) l) := h
  clear h
  go_enter Tryz.func52, Tryz.ntmps52
  go_wp2_with (at_builtin; refine wpList_grow rfl _ _ rfl w.heap.size _ _ rfl (grow_lit1 w (l.length : Int)) (by simp) z c B l rfl (SI.on H.out (Keep.of ((Below.refl _ _).alloc (Nat.le_refl _) _))) (by simp; omega) ?_)
  intro v' w1 hg hk
  have hb : Below w.heap.size w w1 := ((Below.refl _ _).alloc (Nat.le_refl _) _).trans hk.below
  have HG : Hid (Grow w.heap.size w1 v' ((l.length : Int) :: l)) := hg
  clear hg hk
  go_wp2
  go_ret
  exact ⟨_, rfl, HG.out, hb⟩

/-- The line of a class, as numbers. -/
def mtL (m : Meth) : List Int := m.name :: (m.args.length : Int) :: (m.args ++ [m.gives, (m.code.length : Int)])
def headL0 (c : Cls) : List Int := c.super :: (c.fields.length : Int) :: c.fields
def headL (c : Cls) (k : Nat) : List Int := (c.super :: (c.fields.length : Int) :: (c.fields ++ [(c.meths.length : Int)])) ++ (c.meths.take k).flatMap mtL
theorem headL_step {c : Cls} {k : Nat} (hk : k < c.meths.length) : headL c (k + 1) = headL c k ++ mtL c.meths[k] := by
  unfold headL
  rw [List.take_succ_eq_append_getElem hk, List.flatMap_append]
  simp
theorem mtL_len {m : Meth} (h : m.args.length ≤ 3) : (mtL m).length ≤ 7 := by
  simp only [mtL, List.length_cons, List.length_append, List.length_nil]; omega
theorem headL_len {c : Cls} (hf : c.fields.length ≤ 4) (hm : ∀ m ∈ c.meths, m.args.length ≤ 3) : ∀ k, k ≤ c.meths.length → (headL c k).length ≤ 7 + 7 * k := by
  intro k
  induction k with
  | zero => intro _; simp only [headL, List.take_zero, List.flatMap_nil, List.append_nil, List.length_cons, List.length_append, List.length_nil]; omega
  | succ k ih =>
    intro hk
    rw [headL_step (by omega), List.length_append]
    have h1 := ih (by omega)
    have h2 := mtL_len (hm _ (List.getElem_mem (show k < c.meths.length by omega)))
    omega
/-- What is shown of a class that is right is small. -/
structure FewC (c : Cls) : Prop where
  super : -1 ≤ c.super ∧ c.super ≤ 1000
  flen : c.fields.length ≤ 4
  fields : ∀ x ∈ c.fields, -1 ≤ x ∧ x ≤ 1000
  mlen : c.meths.length ≤ 4
  args : ∀ m ∈ c.meths, m.args.length ≤ 3
  ok : ∀ m ∈ c.meths, (0 ≤ m.name ∧ m.name ≤ 1000) ∧ (∀ x ∈ m.args, -1 ≤ x ∧ x ≤ 1000) ∧ (-1 ≤ m.gives ∧ m.gives ≤ 1000) ∧ Lay.codeOk m.code = true
theorem FewC.nums {c : Cls} (h : FewC c) (hc : ∀ m ∈ c.meths, m.code.length ≤ 1000) (k : Nat) : ∀ x ∈ headL c k, -2147483648 ≤ x ∧ x ≤ 2147483647 := by
  intro x hx
  have hs := h.super
  have hfl := h.flen
  have hml := h.mlen
  simp only [headL, List.mem_append, List.mem_cons, List.mem_flatMap, List.not_mem_nil, or_false] at hx
  rcases hx with (rfl | rfl | hx | rfl) | ⟨m, hm, hx⟩
  · omega
  · omega
  · have := h.fields x hx; omega
  · omega
  · have hm' := List.mem_of_mem_take hm
    have h1 := h.ok m hm'
    have h2 := h.args m hm'
    have h3 := hc m hm'
    simp only [mtL, List.mem_cons, List.mem_append, List.not_mem_nil, or_false] at hx
    rcases hx with rfl | rfl | hx | rfl | rfl
    · omega
    · omega
    · have := h1.2.1 x hx; omega
    · have := h1.2.2.1; omega
    · omega
end Pg
end Go.Proofs.YtbgbddahniacbaaGreatDoor
