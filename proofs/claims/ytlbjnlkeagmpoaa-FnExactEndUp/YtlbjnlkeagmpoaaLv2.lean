/- Contracts: what is live behind a step and ahead of it, as the program tells it. -/
import Derived.Test.YtlbjnlkeagmpoaaLv1
import Derived.Test.YtlbjnlkeagmpoaaNx7
namespace Go.Proofs.Ytlbjnlkeagmpoaa
namespace Pg
open Go.ChangeShapes Go.WideShapes Go.ChangeAt Go.RowKit St

theorem flat_range {w : World} {b k : Nat} {L : Lvs} (h : Cells w b (chi 320 (flatP L))) (hk : k < 40) : w.rangeAt b (k * 8) (chi 8 (L k)) := fun j v hv => by
  have hj : j < 8 := by have := (List.getElem?_eq_some_iff.1 hv).1; rwa [chi_len] at this
  rw [chi_at _ hj] at hv
  injection hv with hv
  subst hv
  rw [← flat_at L k j hj]
  exact (h _ _ (chi_at _ (by omega))).1
theorem block_setCells {b k : Nat} (hne : k ≠ b) : ∀ (vs : List Value) (o : Nat) (v : World), (v.setCells b o vs).heap[k]? = v.heap[k]?
  | [], _, _ => rfl
  | x :: r, o, v => by
    rw [World.setCells, block_setCells hne r (o + 1)]
    exact Below.heap_setCell v ⟨b, o, none⟩ x k hne
theorem ris_any (P : Nat → Bool) (L : Lvs) (v : Nat) : (risL P 40).any (fun x => L x.toNat v) = (List.range 40).any fun j => P j && L j v := by
  rw [Bool.eq_iff_iff, List.any_eq_true, List.any_eq_true]
  constructor
  · rintro ⟨x, hx, hl⟩
    obtain ⟨j, hj, hp, rfl⟩ := risL_mem.1 hx
    exact ⟨j, List.mem_range.2 hj, by rw [hp]; simpa using hl⟩
  · rintro ⟨j, hj, hl⟩
    rw [Bool.and_eq_true] at hl
    exact ⟨(j : Int), risL_mem.2 ⟨j, List.mem_range.1 hj, hl.1, rfl⟩, by simpa using hl.2⟩
def partL (L : Lvs) (l : List Int) (m v : Nat) : Bool := (l.take m).any fun x => L x.toNat v
theorem partL_succ (L : Lvs) {l : List Int} {m : Nat} (hm : m < l.length) (v : Nat) : (partL L l m v || L l[m].toNat v) = partL L l (m + 1) v := by
  unfold partL
  rw [List.take_succ_eq_append_getElem hm, List.any_append]
  simp

end Pg
end Go.Proofs.Ytlbjnlkeagmpoaa
