/- Contracts: what comes out of three steps; a copy of three steps; the program's Folded. -/
import Derived.Test.YtffkkhaiedhaiaaJKm0
import Derived.Lib.QuietBelow
import Derived.BigQuiet
import Derived.Deep.RegionLaw
import Derived.Deep.Cut
import Derived.Deep.RegionHeld3
namespace Go.Proofs.Ytffkkhaiedhaiaa
namespace Pg
open Go.ChangeShapes Go.WideShapes Go.ChangeAt Go.RowKit St Wd

theorem push_ok {code : List Tx.Ins} (hok : Lay.codeOk code = true) {k : Nat} (hk : k < code.length) (h : (insF code k).1 = 1) : okB (insF code k).2.1 = true := by
  have := Lay.ok_at hok (ins_is hk)
  unfold Tx.okI at this
  rw [if_pos h] at this
  simp only [Bool.and_eq_true, decide_eq_true_eq] at this
  simp [okB, this.1]
theorem foldB_end {code : List Tx.Ins} {k : Nat} (h : ¬ k + 3 < code.length) : foldB code k = false := by unfold foldB; simp [h]
theorem foldB_ld {code : List Tx.Ins} {k : Nat} (h : ldB code code.length (k + 1) = true ∨ ldB code code.length (k + 2) = true) : foldB code k = false := by
  unfold foldB
  rcases h with h | h <;> simp [h]
theorem foldB_op {code : List Tx.Ins} {k : Nat} (h : (insF code k).1 ≠ 1 ∨ (insF code (k + 1)).1 ≠ 1) : foldB code k = false := by
  unfold foldB
  rcases h with h | h <;> simp [h]
theorem foldB_is {code : List Tx.Ins} {k : Nat} (h : k + 3 < code.length) (h1 : ldB code code.length (k + 1) = false) (h2 : ldB code code.length (k + 2) = false) (h3 : (insF code k).1 = 1) (h4 : (insF code (k + 1)).1 = 1) :
    foldB code k = okW (insF code (k + 2)).1 (insF code (k + 1)).2.1 := by
  unfold foldB okW
  simp only [h, h1, h2, h3, h4]
  simp
def folW (code : List Tx.Ins) (k : Nat) : Int := if foldB code k then outI code k else 0
end Pg
end Go.Proofs.Ytffkkhaiedhaiaa

/- Contracts: the program's Folded. -/
namespace Go.Proofs.Ytffkkhaiedhaiaa
namespace Pg
open Go.ChangeShapes Go.WideShapes Go.ChangeAt Go.RowKit St Wd

/-- copy of three steps into the middle of a row. -/
theorem run_copy3 (w : World) (ty : TypeId) (g off dLen dCap sb sc : Nat) (hd : 3 ≤ dLen) (cs : List Value) (h9 : cs.length = 9) (hsrc : w.rangeAt sb 0 cs) (ht : w.there g off 9) (h1 : ∀ v ∈ cs, v.oneCell' = true) :
    (Builtin.copy_ #[24, 24] ty #[.slice (some ⟨g, off, none⟩) dLen dCap, .slice (some ⟨sb, 0, none⟩) 3 sc]).run Try.prog w = .ok (goInt 3) (w.setCells g off cs) := by
  obtain ⟨i0, hi, _, hz1, _⟩ := info_parts infoI
  have hl : (loadCells ⟨sb, 0, none⟩ 9).run Try.prog w = .ok cs.toArray w := by
    rw [← h9]
    exact run_loadCells_list (P := Try.prog) w ⟨sb, 0, none⟩ cs (fun j v hv => by rw [Addr.add_mid]; exact hsrc j v hv)
  have hst := run_storeCells_cells (P := Try.prog) g off cs 0 w (fun j hj => by simpa using (ht j (by omega)).1) (fun j hj => by simpa using (ht j (by omega)).2) h1
  have hm : Nat.min 3 dLen = 3 := Nat.min_eq_left hd
  simp only [Nat.add_zero] at hst
  simp [Builtin.copy_, run_underlying Try.underlying24, Builtin.lenOf, Builtin.firstCells, sizeOf, typeInfo, hi, hz1, hm, hl, hst]
theorem stepCopy3 {ops : Array Oper} {o : Oper} {a : Act} {w : World} {K : Act → World → Prop} {Q : Exit → Act → World → Prop} {E : Prop} (hgd : o.guard = none) (d s : Operand)
    (ho : o.op = .call { callee := .builtin .copy, args := #[d, s], argTypes := #[24, 24] })
    (g off dLen dCap sb sc : Nat) (hd : a.eval d = .slice (some ⟨g, off, none⟩) dLen dCap) (hs : a.eval s = .slice (some ⟨sb, 0, none⟩) 3 sc) (h3 : 3 ≤ dLen)
    (cs : List Value) (h9 : cs.length = 9) (hsrc : w.rangeAt sb 0 cs) (ht : w.there g off 9) (h1 : ∀ v ∈ cs, v.oneCell' = true)
    (h : K (a.put o.dst (goInt 3)) (w.setCells g off cs)) : if Region.wanted o (yielded ops a.tmps) = true then Oper.wp Try.prog o a w K Q else E := by
  have hw : Region.wanted o (yielded ops a.tmps) = true := by simp [Region.wanted, hgd]
  rw [if_pos hw]
  have hrun := run_copy3 w o.type g off dLen dCap sb sc h3 cs h9 hsrc ht h1
  unfold Oper.wp
  simp [execOp, ho, resolve, invoke, builtin, hd, hs, hrun, Result.andThen]
  exact h
theorem GrowC.form2 {B : Nat} {w : World} {v : Value} {l : List Tx.Ins} (h : GrowC B w v l) : ∃ g cap, v = .slice (some ⟨g, 0, none⟩) l.length cap ∧ l.length ≤ cap := by
  obtain ⟨h1, h2⟩ := h
  obtain ⟨_, ⟨h, _⟩ | ⟨g, cap, cur, rfl, hB, _, hcap, _⟩⟩ := h1
  · exact absurd h h2
  · exact ⟨g, cap, rfl, hcap⟩
theorem room_setC {w : World} {g n : Nat} (h : Room w g n) (a : Addr) (v : Value) : Room (w.setCell a v) g n := fun i hi => by
  obtain ⟨⟨x, hx⟩, hf⟩ := h i hi
  refine ⟨?_, by rw [World.frozen?_setCell]; exact hf⟩
  by_cases e : (⟨g, i, none⟩ : Addr) = a
  · subst e; exact ⟨v, World.cell?_setCell_same _ _ _ hx⟩
  · exact ⟨x, (World.cell?_setCell_other _ _ _ _ (fun h => e h.symm)).trans hx⟩
/-- Three steps of a row written anew, one behind the other. -/
theorem got_copy3 {w : World} {B g cp k : Nat} {l : List Tx.Ins} (hroom : Room w g (l.length * 3)) (hr : Row w g 0 l) (hB : B ≤ g) (hg : g < w.heap.size) (x y z : Tx.Ins) :
    Got B (w.setCells g (k * 3) [.int .i64 x.1, .int .i64 x.2.1, .int .i64 x.2.2, .int .i64 y.1, .int .i64 y.2.1, .int .i64 y.2.2, .int .i64 z.1, .int .i64 z.2.1, .int .i64 z.2.2]) (.slice (some ⟨g, 0, none⟩) l.length cp) (((l.set k x).set (k + 1) y).set (k + 2) z) := by
  have h1 := row_set3 (k := k) hroom hr x
  have r1 := room_setC (room_setC (room_setC hroom ⟨g, k * 3, none⟩ (.int .i64 x.1)) ⟨g, k * 3 + 1, none⟩ (.int .i64 x.2.1)) ⟨g, k * 3 + 2, none⟩ (.int .i64 x.2.2)
  have h2 := row_set3 (k := k + 1) (by rw [List.length_set]; exact r1) h1 y
  have r2 := room_setC (room_setC (room_setC r1 ⟨g, (k + 1) * 3, none⟩ (.int .i64 y.1)) ⟨g, (k + 1) * 3 + 1, none⟩ (.int .i64 y.2.1)) ⟨g, (k + 1) * 3 + 2, none⟩ (.int .i64 y.2.2)
  have h3 := row_set3 (k := k + 2) (by rw [List.length_set, List.length_set]; exact r2) h2 z
  have r3 := room_setC (room_setC (room_setC r2 ⟨g, (k + 2) * 3, none⟩ (.int .i64 z.1)) ⟨g, (k + 2) * 3 + 1, none⟩ (.int .i64 z.2.1)) ⟨g, (k + 2) * 3 + 2, none⟩ (.int .i64 z.2.2)
  have e1 : (k + 1) * 3 = k * 3 + 1 + 1 + 1 := by omega
  have e2 : (k + 2) * 3 = k * 3 + 1 + 1 + 1 + 1 + 1 + 1 := by omega
  rw [e1, e2] at h3 r3
  refine ⟨g, cp, by simp, hB, ?_, h3, ?_⟩
  · rw [size_setCells]; exact hg
  · rw [List.length_set, List.length_set, List.length_set]; exact r3
noncomputable def folA (l : List Tx.Ins) : List Tx.Ins := if Lay.codeOk l then (foldsF l).1 else []
end Pg
end Go.Proofs.Ytffkkhaiedhaiaa

/- Contracts: the specification's Folded. -/
namespace Go.Proofs.Ytffkkhaiedhaiaa
namespace Pg
open Go.ChangeShapes Go.WideShapes Go.ChangeAt Go.RowKit St Wd

theorem foldB_three {code : List Tx.Ins} {k : Nat} (h : (decide (4 ≤ (insF code (k + 2)).1) && decide ((insF code (k + 2)).1 ≤ 7)) = false) : foldB code k = false := by
  unfold foldB
  have : ¬ (4 ≤ (insF code (k + 2)).1 ∧ (insF code (k + 2)).1 ≤ 7) := fun hh => by simp [hh.1, hh.2] at h
  simp [this]
theorem foldB_zero {code : List Tx.Ins} {k : Nat} (h : (insF code (k + 2)).1 = 7) (h' : (insF code (k + 1)).2.1 = 0) : foldB code k = false := by
  unfold foldB
  simp [h, h']
theorem foldB_yes {code : List Tx.Ins} {k : Nat} (h : k + 3 < code.length) (h1 : ldB code code.length (k + 1) = false) (h2 : ldB code code.length (k + 2) = false) (h3 : (insF code k).1 = 1) (h4 : (insF code (k + 1)).1 = 1)
    (h5 : (decide (4 ≤ (insF code (k + 2)).1) && decide ((insF code (k + 2)).1 ≤ 7)) = true) (h6 : ¬ ((insF code (k + 2)).1 = 7 ∧ (insF code (k + 1)).2.1 = 0)) : foldB code k = true := by
  rw [foldB_is h h1 h2 h3 h4]
  unfold okW
  simp only [Bool.and_eq_true, decide_eq_true_eq] at h5
  simp only [h5, h6]
  simp
/-- One step of a row of one's own written anew: the row, the room, nothing below. -/
theorem set_one {B : Nat} {u w : World} {g k n : Nat} {l : List Tx.Ins} (hn : l.length = n) (hroom : Room w g (n * 3)) (hr : Row w g 0 l) (hb : Below B u w) (hB : B ≤ g) (x : Tx.Ins) :
    Row (((w.setCell ⟨g, k * 3, none⟩ (.int .i64 x.1)).setCell ⟨g, k * 3 + 1, none⟩ (.int .i64 x.2.1)).setCell ⟨g, k * 3 + 2, none⟩ (.int .i64 x.2.2)) g 0 (l.set k x) ∧
      Room (((w.setCell ⟨g, k * 3, none⟩ (.int .i64 x.1)).setCell ⟨g, k * 3 + 1, none⟩ (.int .i64 x.2.1)).setCell ⟨g, k * 3 + 2, none⟩ (.int .i64 x.2.2)) g (n * 3) ∧
      Below B u (((w.setCell ⟨g, k * 3, none⟩ (.int .i64 x.1)).setCell ⟨g, k * 3 + 1, none⟩ (.int .i64 x.2.1)).setCell ⟨g, k * 3 + 2, none⟩ (.int .i64 x.2.2)) := by
  subst hn
  exact ⟨row_set3 hroom hr x, room_setC (room_setC (room_setC hroom _ _) _ _) _ _, ((hb.setCell hB _).setCell hB _).setCell hB _⟩
theorem folA_len (l : List Tx.Ins) : (folA l).length ≤ 41 := by
  unfold folA
  split
  · rename_i h
    have := (Lay.ok_len h).2
    rw [folds_len]; omega
  · simp
end Pg
end Go.Proofs.Ytffkkhaiedhaiaa
