/- Contracts of the laws' own copying of programs: rows of methods, classes, programs. -/
import Derived.Test.YtffkkhaiedhaiaaJPg3
import Derived.Test.YtffkkhaiedhaiaaJLv0
import Derived.Test.YtffkkhaiedhaiaaJNx7
namespace Go.Proofs.Ytffkkhaiedhaiaa
namespace Pg
open Go.ChangeShapes Go.WideShapes Go.ChangeAt Go.RowKit St

theorem ne_off {g a b : Nat} (h : a ≠ b) : (⟨g, a, none⟩ : Addr) ≠ ⟨g, b, none⟩ := fun e => h (congrArg Addr.off e)
theorem MAt.far {K : Way} {B g o i : Nat} {w : World} {m : Meth} (h : MAt K B w g o m) (hg : g < B) (hi : i < o ∨ o + 3 < i) (v : Value) : MAt K B (w.setCell ⟨g, i, none⟩ v) g o m := by
  obtain ⟨va, vc, h0, h1, h2, h3, h4⟩ := h
  exact ⟨va, vc, (World.cell?_setCell_other _ _ _ _ (ne_off (by omega))).trans h0, (World.cell?_setCell_other _ _ _ _ (ne_off (by omega))).trans h1, (World.cell?_setCell_other _ _ _ _ (ne_off (by omega))).trans h2, (World.cell?_setCell_other _ _ _ _ (ne_off (by omega))).trans h3, h4.on (Keep.set w (p := ⟨g, i, none⟩) hg v)⟩
theorem CAt.far {K : Way} {B g o i : Nat} {w : World} {m : Cls} (h : CAt K B w g o m) (hg : g < B) (hi : i < o ∨ o + 2 < i) (v : Value) : CAt K B (w.setCell ⟨g, i, none⟩ v) g o m := by
  obtain ⟨va, vc, h0, h1, h2, h4⟩ := h
  exact ⟨va, vc, (World.cell?_setCell_other _ _ _ _ (ne_off (by omega))).trans h0, (World.cell?_setCell_other _ _ _ _ (ne_off (by omega))).trans h1, (World.cell?_setCell_other _ _ _ _ (ne_off (by omega))).trans h2, h4.on (Keep.set w (p := ⟨g, i, none⟩) hg v)⟩
/-- All is short. -/
def SmallM (m : Meth) : Prop := m.args.length ≤ 1048576 ∧ m.code.length ≤ 1048576
def SmallC (c : Cls) : Prop := c.fields.length ≤ 1048576 ∧ c.meths.length ≤ 1048576 ∧ ∀ m ∈ c.meths, SmallM m
def SmallP (p : Prg) : Prop := p.length ≤ 1048576 ∧ ∀ c ∈ p, SmallC c
theorem SmallP.of {p : Prg} (h : szP p ≤ 1048576) : SmallP p := by
  refine ⟨by unfold szP at h; omega, fun c hc => ?_⟩
  have h1 := szC_le hc
  have e : szC c = c.fields.length + szMs c.meths := rfl
  have e2 : szMs c.meths = c.meths.length + sumN (c.meths.map szM) := rfl
  refine ⟨by omega, by omega, fun m hm => ?_⟩
  have h2 := szM_le hm
  have e3 : szM m = m.args.length + m.code.length := rfl
  exact ⟨by omega, by omega⟩

end Pg
end Go.Proofs.Ytffkkhaiedhaiaa

/- What the law of the ways wants, plainly: straight code goes on step by step; the program of one code; how far a frame may be. -/
namespace Go.Proofs.Ytffkkhaiedhaiaa
namespace Pg
open Go.ChangeShapes Go.WideShapes Go.ChangeAt Go.RowKit St Wd

theorem mainP_ok {a : List Tx.Ins} (h : Lay.codeOk a = true) : okP (mainP a) = true := by
  have hl := (Lay.ok_len h)
  simp [okP, mainP, okAt, okCB, okK, okMB, tyB, agreeF, mainOk, ownF, h, List.range_succ]
theorem mainP_small {a : List Tx.Ins} (h : a.length ≤ 1048576) : SmallP (mainP a) := by
  refine ⟨by simp [mainP], fun c hc => ?_⟩
  simp only [mainP, List.mem_singleton] at hc
  subst hc
  refine ⟨by simp, by simp, fun m hm => ?_⟩
  simp only [List.mem_singleton] at hm
  subst hm
  exact ⟨by simp, h⟩
theorem main_mach (a : List Tx.Ins) : machB (startM (mainP a)) = true := by
  simp [machB, startM, mainP, fieldsR, obB, frB, valF, valB, frmV, okB]
/-- No frame is further than the code. -/
def PosI (a : List Tx.Ins) (m : Mc) : Prop := ∀ f ∈ m.frames, f.pos ≤ (a.length : Int)
theorem PosI.start {a : List Tx.Ins} (h : 1 ≤ a.length) : PosI a (startM (mainP a)) := fun f hf => by
  simp only [startM, List.mem_singleton] at hf
  subst hf
  show (0 : Int) ≤ _
  omega
theorem pos_step {a : List Tx.Ins} (hok : Lay.codeOk a = true) {m : Mc} (h : WayI a m) (hp : PosI a m) {f : Fr} (hl : m.frames.getLast? = some f) (h0 : (stepS (mainP a) m).2 = 0) : PosI a (stepS (mainP a) m).1 := by
  have hsp := last_split hl
  have hfm : f ∈ m.frames := by rw [hsp]; simp
  obtain ⟨f1, f2, f3, f4⟩ := h.all f hfm
  have hfl : f.pos < (a.length : Int) := by
    rcases Int.lt_or_le f.pos a.length with h1 | h1
    · exact h1
    · rw [way_end hl h1] at h0; simp at h0
  obtain ⟨k, hk⟩ := Int.eq_ofNat_of_zero_le f3
  have hkl : k < a.length := by omega
  have hkn : f.pos.toNat = k := by omega
  have hstep : ∃ own, stepS (mainP a) m = stepI (mainP a) m f own (insF a k) := by
    unfold stepS at h0 ⊢
    rw [hl] at h0 ⊢
    dsimp only at h0 ⊢
    split
    · rename_i hn; rw [hn] at h0; simp at h0
    · rename_i own ho
      obtain ⟨_, _, rfl⟩ := own_main ho
      refine ⟨⟨0, [], -1, a⟩, ?_⟩
      rw [if_neg (by dsimp only; omega), hkn]
      unfold insF
      rw [List.getD_eq_getElem?_getD]
  obtain ⟨own, hs⟩ := hstep
  have hop := Lay.ok_at hok (ins_is hkl)
  have hop2 := Tx.ok_op hop
  rw [hs] at h0 ⊢
  have hdl : ∀ g ∈ m.frames.dropLast, g.pos ≤ (a.length : Int) := fun g hg => hp g (mem_dropLast hg)
  intro x hx
  cases step_kind (mainP a) m f own (insF a k) hop2.2 hop2.1 with
  | ends he => exact absurd h0 he
  | on f' _ hfr hc hn hp' =>
    rw [hfr] at hx
    rcases List.mem_append.1 hx with hx | hx
    · exact hdl x hx
    · simp at hx; subst hx
      rcases hp' with ⟨hp', _⟩ | ⟨hp', hj⟩
      · omega
      · have := jump_in hok hkl hj; omega
  | call f' g _ h17 hfr hc hn hp' hg ho hm =>
    rw [hfr] at hx
    rcases List.mem_append.1 hx with hx | hx
    · rcases List.mem_append.1 hx with hx | hx
      · exact hdl x hx
      · simp at hx; subst hx; omega
    · simp at hx; subst hx
      have := hg.2.1; omega
  | give b b' _ h20 hb hfr hc hn hp' =>
    rw [hfr] at hx
    rcases List.mem_append.1 hx with hx | hx
    · exact hdl x (mem_dropLast hx)
    · simp at hx; subst hx
      have hbm : b ∈ m.frames.dropLast := List.mem_of_getLast? hb
      have := (h.low b hbm).1
      omega
end Pg
end Go.Proofs.Ytffkkhaiedhaiaa

/- How far a frame of a right program may be, plainly. -/
namespace Go.Proofs.Ytffkkhaiedhaiaa
namespace Pg
open Go.ChangeShapes Go.WideShapes Go.ChangeAt Go.RowKit St Wd

structure PosB (m : Mc) : Prop where
  all : ∀ f ∈ m.frames, 0 ≤ f.pos ∧ f.pos ≤ 40
  low : ∀ f ∈ m.frames.dropLast, f.pos < 40
theorem PosB.start (p : Prg) : PosB (startM p) := by
  refine ⟨fun f hf => ?_, fun f hf => ?_⟩
  · simp only [startM, List.mem_singleton] at hf
    subst hf
    exact ⟨by decide, by decide⟩
  · simp [startM] at hf
/-- The step that is done, and the code that it stands in. -/
theorem step_at {p : Prg} {m : Mc} (h0 : (stepS p m).2 = 0) : ∃ f own, m.frames.getLast? = some f ∧ ownS p f = some own ∧ 0 ≤ f.pos ∧ f.pos < (own.code.length : Int) ∧ stepS p m = stepI p m f own (insF own.code f.pos.toNat) := by
  obtain ⟨f, hl⟩ : ∃ f, m.frames.getLast? = some f := by
    cases h : m.frames.getLast? with
    | none => simp [stepS, h] at h0
    | some f => exact ⟨f, rfl⟩
  obtain ⟨own, ho⟩ : ∃ own, ownS p f = some own := by
    cases h : ownS p f with
    | none => simp [stepS, hl, h] at h0
    | some own => exact ⟨own, rfl⟩
  have hb : ¬ (f.pos < 0 ∨ (own.code.length : Int) ≤ f.pos) := fun hb => by
    unfold stepS at h0
    rw [hl] at h0
    dsimp only at h0
    rw [ho] at h0
    dsimp only at h0
    rw [if_pos hb] at h0
    simp at h0
  refine ⟨f, own, hl, ho, by omega, by omega, ?_⟩
  unfold stepS
  rw [hl]
  dsimp only
  rw [ho]
  dsimp only
  rw [if_neg hb]
  unfold insF
  rw [List.getD_eq_getElem?_getD]
theorem PosB.step {p : Prg} (hok : okP p = true) {m : Mc} (h : PosB m) (h0 : (stepS p m).2 = 0) : PosB (stepS p m).1 := by
  obtain ⟨f, own, hl, ho, hp0, hpl, hs⟩ := step_at h0
  have hc := meth_code hok (show methS p f.cls f.name = some own from ho)
  have h40 := (Lay.ok_len hc).2
  obtain ⟨k, hk⟩ := Int.eq_ofNat_of_zero_le hp0
  have hkn : f.pos.toNat = k := by omega
  have hkl : k < own.code.length := by omega
  rw [hkn] at hs
  have hop2 := Tx.ok_op (Lay.ok_at hc (ins_is hkl))
  have hsp := last_split hl
  rw [hs] at h0 ⊢
  have hdl : ∀ g ∈ m.frames.dropLast, 0 ≤ g.pos ∧ g.pos ≤ 40 := fun g hg => h.all g (mem_dropLast hg)
  cases step_kind p m f own (insF own.code k) hop2.2 hop2.1 with
  | ends he => exact absurd h0 he
  | on f' _ hfr hc' hn hp =>
    have hpos : 0 ≤ f'.pos ∧ f'.pos ≤ 40 := by
      rcases hp with ⟨hp, _⟩ | ⟨hp, hj⟩
      · omega
      · have := jump_in hc hkl hj; omega
    refine ⟨fun g hg => ?_, fun g hg => ?_⟩
    · rw [hfr] at hg
      rcases List.mem_append.1 hg with hg | hg
      · exact hdl g hg
      · simp at hg; subst hg; exact hpos
    · rw [hfr, List.dropLast_concat] at hg
      exact h.low g hg
  | call f' g _ h17 hfr hc' hn hp hg ho' hm =>
    refine ⟨fun x hx => ?_, fun x hx => ?_⟩
    · rw [hfr] at hx
      rcases List.mem_append.1 hx with hx | hx
      · rcases List.mem_append.1 hx with hx | hx
        · exact hdl x hx
        · simp at hx; subst hx; omega
      · simp at hx; subst hx
        have := hg.2.1; omega
    · rw [hfr, List.dropLast_concat] at hx
      rcases List.mem_append.1 hx with hx | hx
      · exact h.low x hx
      · simp at hx; subst hx; omega
  | give b b' _ h20 hb hfr hc' hn hp =>
    have hbl := last_split hb
    have hbm : b ∈ m.frames.dropLast := by rw [hbl]; simp
    have h1 := h.low b hbm
    have h2 := hdl b hbm
    refine ⟨fun x hx => ?_, fun x hx => ?_⟩
    · rw [hfr] at hx
      rcases List.mem_append.1 hx with hx | hx
      · exact hdl x (mem_dropLast hx)
      · obtain rfl : x = b' := by simpa using hx
        omega
    · rw [hfr, List.dropLast_concat] at hx
      exact h.low x (by rw [hbl]; exact List.mem_append_left _ hx)
theorem PosB.thou {m : Mc} (h : PosB m) : ∀ f ∈ m.frames, 0 ≤ f.pos ∧ f.pos ≤ 1000 := fun f hf => by have := h.all f hf; omega
theorem ran_end {p : Prg} {n : Nat} {m : Mc} (h : m.fin ≠ 0) : ranS p n m = (m, 0) := by
  cases n with
  | zero => rfl
  | succ n => unfold ranS; rw [if_neg h]
theorem ran_step {p : Prg} {n : Nat} {m : Mc} (h : m.fin = 0) : ranS p (n + 1) m = ((ranS p n { (stepS p m).1 with fin := (stepS p m).2 }).1, (ranS p n { (stepS p m).1 with fin := (stepS p m).2 }).2 + 1) := by
  conv => lhs; unfold ranS
  rw [if_pos h]
/-- A right machine that a run comes to. -/
theorem ran_ok {p : Prg} (hok : okP p = true) : ∀ (n : Nat) (m : Mc), machB m = true → machB (ranS p n m).1 = true
  | 0, m, h => h
  | n + 1, m, h => by
    by_cases hf : m.fin = 0
    · rw [ran_step hf]; exact ran_ok hok n _ (mach_step hok h)
    · rw [ran_end hf]; exact h
end Pg
end Go.Proofs.Ytffkkhaiedhaiaa
