/- Contract: what is live, as the program finds it: rounds from the last step on, till nothing changes. -/
import Derived.Test.YtlbjnlkeagmpoaaLv3
import Derived.Test.YtlbjnlkeagmpoaaRf0
import Derived.Sort.LoopGhostIn
namespace Go.Proofs.Ytlbjnlkeagmpoaa
namespace Pg
open Go.ChangeShapes Go.WideShapes Go.ChangeAt Go.RowKit Go.Shelf St
attribute [local go_sem] Oper.semAt_some

/-- A round from the last step on. -/
def swpL (code : List Tx.Ins) (L : Lvs) (js : List Nat) : Lvs := js.foldl (fun L j => setL L j (liveF code j L)) L
theorem swpL_snoc (code : List Tx.Ins) (L : Lvs) (js : List Nat) (j : Nat) : swpL code L (js ++ [j]) = setL (swpL code L js) j (liveF code j (swpL code L js)) := by
  unfold swpL; rw [List.foldl_append]; rfl
theorem swpL_end {code : List Tx.Ins} {B : Lvs} : ∀ (n : Nat) {L : Lvs}, SwL code B L n → n ≤ code.length → SwL code B (swpL code L (List.range n).reverse) 0
  | 0, L, h, _ => h
  | n + 1, L, h, hn => by
    have := swpL_end n (h.step (by omega)) (by omega)
    rw [List.range_succ, List.reverse_append]
    exact this
theorem row_blk {w w' : World} {g o : Nat} {l : List Tx.Ins} (h : Row w g o l) (hb : w'.heap[g]? = w.heap[g]?) : Row w' g o l := fun j x hj => by
  obtain ⟨h0, h1, h2⟩ := h j x hj
  exact ⟨(World.cell?_of_block (a := ⟨g, o + j * 3, none⟩) hb).trans h0, (World.cell?_of_block (a := ⟨g, o + j * 3 + 1, none⟩) hb).trans h1, (World.cell?_of_block (a := ⟨g, o + j * 3 + 2, none⟩) hb).trans h2⟩
theorem wpListIn_alloc_chi {F : Fence} {m : Nat} {w : World} {ops : Array Oper} {rest : List Oper} {o : Oper} {a : Act} {Q : Exit → Act → World → Prop} (hgd : o.guard = none) (t : TypeId) (ho : o.op = .alloc t) (n : Nat)
    (hz : (Try.prog.info? t).map (fun i => (i.zero, i.size)) = some (some (.agg (chi n fun _ => false).toArray), n))
    (h : wpListIn F m Try.prog ops Q rest (a.put o.dst (.pointer (some ⟨w.heap.size, 0, none⟩))) (w.alloc (.cells (chi n fun _ => false).toArray t))) : wpListIn F m Try.prog ops Q (o :: rest) a w := by
  refine wpListIn_plain hgd fun K hK => ?_
  have hz1 := (zero_of_info hz).1 w
  unfold Oper.wpIn
  refine ⟨?_, ?_⟩
  · simp [Oper.about, ho]
  · rw [Oper.semAt_plain F _ _ (by rw [ho]; intro c hc'; cases hc')]
    unfold execOp
    simp [ho, Instr.alloc, hz1, Sem.run_bind, newVar, go_sem]
    exact hK _ _ h

theorem KeepsOthers.setCells {b : Nat} : ∀ (vs : List Value) (o : Nat) {W W' : World}, KeepsOthers W W' → KeepsOthers W (W'.setCells b o vs)
  | [], _, _, _, h => h
  | _ :: r, o, _, _, h => KeepsOthers.setCells r (o + 1) (h.trans (KeepsOthers.setCell _ _ _))
theorem Cells.putFar' {w : World} {k b : Nat} {vs : List Value} (h : Cells w k vs) (o : Nat) (us : List Value) (hn : k ≠ b) : Cells (w.setCells b o us) k vs := fun i x hx => by
  have h1 := World.rangeAt_setCells_apart h.range b o us (.inl hn) i x hx
  rw [Nat.zero_add] at h1
  exact ⟨h1, by rw [World.frozen?_setCells]; exact (h i x hx).2⟩
theorem Cells.putMid {w : World} {b k : Nat} {L : Lvs} (h : Cells w b (chi 320 (flatP L))) (hk : k < 40) (r : Nat → Bool) : Cells (w.setCells b (k * 8) (chi 8 r)) b (chi 320 (flatP (setL L k r))) := fun q x hx => by
  have hq : q < 320 := by have := (List.getElem?_eq_some_iff.1 hx).1; rwa [chi_len] at this
  rw [chi_at _ hq] at hx
  injection hx with hx
  subst hx
  obtain ⟨h1, h2⟩ := h q _ (chi_at _ hq)
  refine ⟨?_, by rw [World.frozen?_setCells]; exact h2⟩
  rw [flat_set]
  split
  · rename_i e
    have ht : w.there b (k * 8) (chi 8 r).length := fun j hj => by
      rw [chi_len] at hj
      obtain ⟨g1, g2⟩ := h (k * 8 + j) _ (chi_at _ (by omega))
      exact ⟨by rw [g1]; rfl, g2⟩
    have := World.rangeAt_setCells_same w b (k * 8) (chi 8 r) ht (q % 8) _ (chi_at r (Nat.mod_lt _ (by decide)))
    rw [show k * 8 + q % 8 = q by omega] at this
    exact this
  · rename_i e
    rw [World.cell?_setCells_out b (chi 8 r) (k * 8) w ⟨b, q, none⟩ (fun _ _ => by
      rw [chi_len]
      show q < k * 8 ∨ k * 8 + 8 ≤ q
      omega)]
    exact h1
theorem flat_there {w : World} {b k n : Nat} {L : Lvs} (h : Cells w b (chi 320 (flatP L))) (hk : k < 40) (hn : n = 8) : w.there b (k * 8) n := fun j hj => by
  obtain ⟨g1, g2⟩ := h (k * 8 + j) _ (chi_at _ (by omega))
  exact ⟨by rw [g1]; rfl, g2⟩
/-- Two arrays of sets of locals, held against each other. -/
def alikeV (P Q : Nat → Bool) : Bool := (List.range 40).all fun i => alike 8 (fun v => P (i * 8 + v)) (fun v => Q (i * 8 + v))
theorem alikeV_iff {P Q : Nat → Bool} : alikeV P Q = true ↔ ∀ q, q < 320 → P q = Q q := by
  unfold alikeV
  rw [List.all_eq_true]
  constructor
  · intro h q hq
    have := alike_iff.1 (h (q / 8) (List.mem_range.2 (by omega))) (q % 8) (Nat.mod_lt _ (by decide))
    rw [show q / 8 * 8 + q % 8 = q by omega] at this
    exact this
  · intro h i hi
    exact alike_iff.2 fun v hv => h _ (by have := List.mem_range.1 hi; omega)
end Pg
end Go.Proofs.Ytlbjnlkeagmpoaa
