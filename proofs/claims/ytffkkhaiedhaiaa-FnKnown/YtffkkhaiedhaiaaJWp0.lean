/- Contracts of the laws' own copying of programs. -/
import Derived.Test.YtffkkhaiedhaiaaJGr0
import Derived.Test.YtffkkhaiedhaiaaJPg2
import Derived.Test.YtffkkhaiedhaiaaJMw0
import Derived.Test.YtffkkhaiedhaiaaJSu0
namespace Go.Proofs.Ytffkkhaiedhaiaa
namespace Pg
open Go.ChangeShapes Go.WideShapes Go.ChangeAt Go.RowKit St

end Pg
end Go.Proofs.Ytffkkhaiedhaiaa

/- Contracts of the laws' own copying of programs: rows of methods, classes, programs. -/
namespace Go.Proofs.Ytffkkhaiedhaiaa
namespace Pg
open Go.ChangeShapes Go.WideShapes Go.ChangeAt Go.RowKit St

theorem ne_off {g a b : Nat} (h : a ≠ b) : (⟨g, a, none⟩ : Addr) ≠ ⟨g, b, none⟩ := fun e => h (congrArg Addr.off e)
theorem MAt.far {K : Way} {B g o i : Nat} {w : World} {m : Meth} (h : MAt K B w g o m) (hg : g < B) (hi : i < o ∨ o + 3 < i) (v : Value) : MAt K B (w.setCell ⟨g, i, none⟩ v) g o m := by
  obtain ⟨va, vc, h0, h1, h2, h3, h4⟩ := h
  exact ⟨va, vc, (World.cell?_setCell_other _ _ _ _ (ne_off (by omega))).trans h0, (World.cell?_setCell_other _ _ _ _ (ne_off (by omega))).trans h1, (World.cell?_setCell_other _ _ _ _ (ne_off (by omega))).trans h2, (World.cell?_setCell_other _ _ _ _ (ne_off (by omega))).trans h3, h4.on (Keep.set w (p := ⟨g, i, none⟩) hg v)⟩
theorem CAt.far {K : Way} {B g o i : Nat} {w : World} {m : Cls} (h : CAt K B w g o m) (hg : g < B) (hi : i < o ∨ o + 2 < i) (v : Value) : CAt K B (w.setCell ⟨g, i, none⟩ v) g o m := by
  obtain ⟨va, vc, h0, h1, h2, h4⟩ := h
  exact ⟨va, vc, (World.cell?_setCell_other _ _ _ _ (ne_off (by omega))).trans h0, (World.cell?_setCell_other _ _ _ _ (ne_off (by omega))).trans h1, (World.cell?_setCell_other _ _ _ _ (ne_off (by omega))).trans h2, h4.on (Keep.set w (p := ⟨g, i, none⟩) hg v)⟩
/-- All is short. -/
def SmallM (m : Meth) : Prop := m.args.length ≤ 1048576 ∧ m.code.length ≤ 1048576
def SmallC (c : Cls) : Prop := c.fields.length ≤ 1048576 ∧ c.meths.length ≤ 1048576 ∧ ∀ m ∈ c.meths, SmallM m
def SmallP (p : Prg) : Prop := p.length ≤ 1048576 ∧ ∀ c ∈ p, SmallC c
theorem SmallP.of {p : Prg} (h : szP p ≤ 1048576) : SmallP p := by
  refine ⟨by unfold szP at h; omega, fun c hc => ?_⟩
  have h1 := szC_le hc
  have e : szC c = c.fields.length + szMs c.meths := rfl
  have e2 : szMs c.meths = c.meths.length + sumN (c.meths.map szM) := rfl
  refine ⟨by omega, by omega, fun m hm => ?_⟩
  have h2 := szM_le hm
  have e3 : szM m = m.args.length + m.code.length := rfl
  exact ⟨by omega, by omega⟩

end Pg
end Go.Proofs.Ytffkkhaiedhaiaa

/- What the law of the ways wants, plainly: straight code goes on step by step; the program of one code; how far a frame may be. -/
namespace Go.Proofs.Ytffkkhaiedhaiaa
namespace Pg
open Go.ChangeShapes Go.WideShapes Go.ChangeAt Go.RowKit St Wd

theorem mainP_ok {a : List Tx.Ins} (h : Lay.codeOk a = true) : okP (mainP a) = true := by
  have hl := (Lay.ok_len h)
  simp [okP, mainP, okAt, okCB, okK, okMB, tyB, agreeF, mainOk, ownF, h, List.range_succ]
theorem mainP_small {a : List Tx.Ins} (h : a.length ≤ 1048576) : SmallP (mainP a) := by
  refine ⟨by simp [mainP], fun c hc => ?_⟩
  simp only [mainP, List.mem_singleton] at hc
  subst hc
  refine ⟨by simp, by simp, fun m hm => ?_⟩
  simp only [List.mem_singleton] at hm
  subst hm
  exact ⟨by simp, h⟩
theorem main_mach (a : List Tx.Ins) : machB (startM (mainP a)) = true := by
  simp [machB, startM, mainP, fieldsR, obB, frB, valF, valB, frmV, okB]
/-- No frame is further than the code. -/
def PosI (a : List Tx.Ins) (m : Mc) : Prop := ∀ f ∈ m.frames, f.pos ≤ (a.length : Int)
theorem PosI.start {a : List Tx.Ins} (h : 1 ≤ a.length) : PosI a (startM (mainP a)) := fun f hf => by
  simp only [startM, List.mem_singleton] at hf
  subst hf
  show (0 : Int) ≤ _
  omega
theorem pos_step {a : List Tx.Ins} (hok : Lay.codeOk a = true) {m : Mc} (h : WayI a m) (hp : PosI a m) {f : Fr} (hl : m.frames.getLast? = some f) (h0 : (stepS (mainP a) m).2 = 0) : PosI a (stepS (mainP a) m).1 := by
  have hsp := last_split hl
  have hfm : f ∈ m.frames := by rw [hsp]; simp
  obtain ⟨f1, f2, f3, f4⟩ := h.all f hfm
  have hfl : f.pos < (a.length : Int) := by
    rcases Int.lt_or_le f.pos a.length with h1 | h1
    · exact h1
    · rw [way_end hl h1] at h0; simp at h0
  obtain ⟨k, hk⟩ := Int.eq_ofNat_of_zero_le f3
  have hkl : k < a.length := by omega
  have hkn : f.pos.toNat = k := by omega
  have hstep : ∃ own, stepS (mainP a) m = stepI (mainP a) m f own (insF a k) := by
    unfold stepS at h0 ⊢
    rw [hl] at h0 ⊢
    dsimp only at h0 ⊢
    split
    · rename_i hn; rw [hn] at h0; simp at h0
    · rename_i own ho
      obtain ⟨_, _, rfl⟩ := own_main ho
      refine ⟨⟨0, [], -1, a⟩, ?_⟩
      rw [if_neg (by dsimp only; omega), hkn]
      unfold insF
      rw [List.getD_eq_getElem?_getD]
  obtain ⟨own, hs⟩ := hstep
  have hop := Lay.ok_at hok (ins_is hkl)
  have hop2 := Tx.ok_op hop
  rw [hs] at h0 ⊢
  have hdl : ∀ g ∈ m.frames.dropLast, g.pos ≤ (a.length : Int) := fun g hg => hp g (mem_dropLast hg)
  intro x hx
  cases step_kind (mainP a) m f own (insF a k) hop2.2 hop2.1 with
  | ends he => exact absurd h0 he
  | on f' _ hfr hc hn hp' =>
    rw [hfr] at hx
    rcases List.mem_append.1 hx with hx | hx
    · exact hdl x hx
    · simp at hx; subst hx
      rcases hp' with ⟨hp', _⟩ | ⟨hp', hj⟩
      · omega
      · have := jump_in hok hkl hj; omega
  | call f' g _ h17 hfr hc hn hp' hg ho hm =>
    rw [hfr] at hx
    rcases List.mem_append.1 hx with hx | hx
    · rcases List.mem_append.1 hx with hx | hx
      · exact hdl x hx
      · simp at hx; subst hx; omega
    · simp at hx; subst hx
      have := hg.2.1; omega
  | give b b' _ h20 hb hfr hc hn hp' =>
    rw [hfr] at hx
    rcases List.mem_append.1 hx with hx | hx
    · exact hdl x (mem_dropLast hx)
    · simp at hx; subst hx
      have hbm : b ∈ m.frames.dropLast := List.mem_of_getLast? hb
      have := (h.low b hbm).1
      omega
end Pg
end Go.Proofs.Ytffkkhaiedhaiaa
