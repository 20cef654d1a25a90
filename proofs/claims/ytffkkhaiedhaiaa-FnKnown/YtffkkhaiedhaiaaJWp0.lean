/- Contracts of the laws' own copying of programs. -/
import Derived.Test.YtffkkhaiedhaiaaJGr0
import Derived.Test.YtffkkhaiedhaiaaJPg2
import Derived.Test.YtffkkhaiedhaiaaJMw0
import Derived.Test.YtffkkhaiedhaiaaJSu0
namespace Go.Proofs.Ytffkkhaiedhaiaa
namespace Pg
open Go.ChangeShapes Go.WideShapes Go.ChangeAt Go.RowKit St

end Pg
end Go.Proofs.Ytffkkhaiedhaiaa

/- Contracts of the laws' own copying of programs: rows of methods, classes, programs. -/
namespace Go.Proofs.Ytffkkhaiedhaiaa
namespace Pg
open Go.ChangeShapes Go.WideShapes Go.ChangeAt Go.RowKit St

theorem infoMe : (Try.prog.info? 78).map (fun i => (i.zero, i.size, i.bytes)) = some (some (.agg #[.int .i64 0, .slice none 0 0, .int .i64 0, .slice none 0 0]), 4, 64) := by kernel_rfl
theorem infoCl : (Try.prog.info? 81).map (fun i => (i.zero, i.size, i.bytes)) = some (some (.agg #[.int .i64 0, .slice none 0 0, .slice none 0 0]), 3, 56) := by kernel_rfl

theorem ne_off {g a b : Nat} (h : a ≠ b) : (⟨g, a, none⟩ : Addr) ≠ ⟨g, b, none⟩ := fun e => h (congrArg Addr.off e)
theorem MAt.far {K : Way} {B g o i : Nat} {w : World} {m : Meth} (h : MAt K B w g o m) (hg : g < B) (hi : i < o ∨ o + 3 < i) (v : Value) : MAt K B (w.setCell ⟨g, i, none⟩ v) g o m := by
  obtain ⟨va, vc, h0, h1, h2, h3, h4⟩ := h
  exact ⟨va, vc, (World.cell?_setCell_other _ _ _ _ (ne_off (by omega))).trans h0, (World.cell?_setCell_other _ _ _ _ (ne_off (by omega))).trans h1, (World.cell?_setCell_other _ _ _ _ (ne_off (by omega))).trans h2, (World.cell?_setCell_other _ _ _ _ (ne_off (by omega))).trans h3, h4.on (Keep.set w (p := ⟨g, i, none⟩) hg v)⟩
theorem CAt.far {K : Way} {B g o i : Nat} {w : World} {m : Cls} (h : CAt K B w g o m) (hg : g < B) (hi : i < o ∨ o + 2 < i) (v : Value) : CAt K B (w.setCell ⟨g, i, none⟩ v) g o m := by
  obtain ⟨va, vc, h0, h1, h2, h4⟩ := h
  exact ⟨va, vc, (World.cell?_setCell_other _ _ _ _ (ne_off (by omega))).trans h0, (World.cell?_setCell_other _ _ _ _ (ne_off (by omega))).trans h1, (World.cell?_setCell_other _ _ _ _ (ne_off (by omega))).trans h2, h4.on (Keep.set w (p := ⟨g, i, none⟩) hg v)⟩
/-- One method more written. -/
theorem meths_next {K : Way} {g k : Nat} {w : World} {ms : List Meth} (hk : k < ms.length) (hroom : Room w g (ms.length * 4)) (h : ∀ j x, (ms.take k)[j]? = some x → MAt K (g + 1) w g (0 + j * 4) x) {va vc : Value} (hv : MV K (g + 1) w va vc ms[k]) :
    ∀ j x, (ms.take (k + 1))[j]? = some x → MAt K (g + 1) ((((w.setCell ⟨g, k * 4, none⟩ (.int .i64 ms[k].name)).setCell ⟨g, k * 4 + 1, none⟩ va).setCell ⟨g, k * 4 + 2, none⟩ (.int .i64 ms[k].gives)).setCell ⟨g, k * 4 + 3, none⟩ vc) g (0 + j * 4) x := by
  intro j x hj
  rw [List.getElem?_take] at hj
  split at hj
  · rename_i hlt
    by_cases e : j = k
    · subst e
      rw [List.getElem?_eq_getElem hk] at hj
      simp at hj
      subst hj
      obtain ⟨⟨x0, h0⟩, _⟩ := hroom (j * 4) (by omega)
      obtain ⟨⟨x1, h1⟩, _⟩ := hroom (j * 4 + 1) (by omega)
      obtain ⟨⟨x2, h2⟩, _⟩ := hroom (j * 4 + 2) (by omega)
      obtain ⟨⟨x3, h3⟩, _⟩ := hroom (j * 4 + 3) (by omega)
      rw [Nat.zero_add]
      have k1 := Keep.set (B := g + 1) w (p := ⟨g, j * 4, none⟩) (by simp) (.int .i64 ms[j].name)
      refine ⟨va, vc, ?_, ?_, ?_, ?_, hv.on (((k1.trans (Keep.set _ (p := ⟨g, j * 4 + 1, none⟩) (by simp) va)).trans (Keep.set _ (p := ⟨g, j * 4 + 2, none⟩) (by simp) _)).trans (Keep.set _ (p := ⟨g, j * 4 + 3, none⟩) (by simp) vc))⟩
      · rw [World.cell?_setCell_other _ _ _ _ (ne_off (by omega)), World.cell?_setCell_other _ _ _ _ (ne_off (by omega)), World.cell?_setCell_other _ _ _ _ (ne_off (by omega))]
        exact World.cell?_setCell_same _ _ _ h0
      · rw [World.cell?_setCell_other _ _ _ _ (ne_off (by omega)), World.cell?_setCell_other _ _ _ _ (ne_off (by omega))]
        exact World.cell?_setCell_same _ _ _ ((World.cell?_setCell_other _ _ _ _ (ne_off (by omega))).trans h1)
      · rw [World.cell?_setCell_other _ _ _ _ (ne_off (by omega))]
        exact World.cell?_setCell_same _ _ _ ((World.cell?_setCell_other _ _ _ _ (ne_off (by omega))).trans ((World.cell?_setCell_other _ _ _ _ (ne_off (by omega))).trans h2))
      · exact World.cell?_setCell_same _ _ _ ((World.cell?_setCell_other _ _ _ _ (ne_off (by omega))).trans ((World.cell?_setCell_other _ _ _ _ (ne_off (by omega))).trans ((World.cell?_setCell_other _ _ _ _ (ne_off (by omega))).trans h3)))
    · have hx := h j x (by rw [List.getElem?_take, if_pos (by omega)]; exact hj)
      exact (((hx.far (by omega) (by omega) _).far (by omega) (by omega) _).far (by omega) (by omega) _).far (by omega) (by omega) _
  · simp at hj
theorem classes_next {K : Way} {g k : Nat} {w : World} {ms : Prg} (hk : k < ms.length) (hroom : Room w g (ms.length * 3)) (h : ∀ j x, (ms.take k)[j]? = some x → CAt K (g + 1) w g (0 + j * 3) x) {vf vm : Value} (hv : CV K (g + 1) w vf vm ms[k]) :
    ∀ j x, (ms.take (k + 1))[j]? = some x → CAt K (g + 1) (((w.setCell ⟨g, k * 3, none⟩ (.int .i64 ms[k].super)).setCell ⟨g, k * 3 + 1, none⟩ vf).setCell ⟨g, k * 3 + 2, none⟩ vm) g (0 + j * 3) x := by
  intro j x hj
  rw [List.getElem?_take] at hj
  split at hj
  · rename_i hlt
    by_cases e : j = k
    · subst e
      rw [List.getElem?_eq_getElem hk] at hj
      simp at hj
      subst hj
      obtain ⟨⟨x0, h0⟩, _⟩ := hroom (j * 3) (by omega)
      obtain ⟨⟨x1, h1⟩, _⟩ := hroom (j * 3 + 1) (by omega)
      obtain ⟨⟨x2, h2⟩, _⟩ := hroom (j * 3 + 2) (by omega)
      rw [Nat.zero_add]
      have k1 := Keep.set (B := g + 1) w (p := ⟨g, j * 3, none⟩) (by simp) (.int .i64 ms[j].super)
      refine ⟨vf, vm, ?_, ?_, ?_, hv.on ((k1.trans (Keep.set _ (p := ⟨g, j * 3 + 1, none⟩) (by simp) vf)).trans (Keep.set _ (p := ⟨g, j * 3 + 2, none⟩) (by simp) vm))⟩
      · rw [World.cell?_setCell_other _ _ _ _ (ne_off (by omega)), World.cell?_setCell_other _ _ _ _ (ne_off (by omega))]
        exact World.cell?_setCell_same _ _ _ h0
      · rw [World.cell?_setCell_other _ _ _ _ (ne_off (by omega))]
        exact World.cell?_setCell_same _ _ _ ((World.cell?_setCell_other _ _ _ _ (ne_off (by omega))).trans h1)
      · exact World.cell?_setCell_same _ _ _ ((World.cell?_setCell_other _ _ _ _ (ne_off (by omega))).trans ((World.cell?_setCell_other _ _ _ _ (ne_off (by omega))).trans h2))
    · have hx := h j x (by rw [List.getElem?_take, if_pos (by omega)]; exact hj)
      exact ((hx.far (by omega) (by omega) _).far (by omega) (by omega) _).far (by omega) (by omega) _
  · simp at hj

/-- All is short. -/
def SmallM (m : Meth) : Prop := m.args.length ≤ 1048576 ∧ m.code.length ≤ 1048576
def SmallC (c : Cls) : Prop := c.fields.length ≤ 1048576 ∧ c.meths.length ≤ 1048576 ∧ ∀ m ∈ c.meths, SmallM m
def SmallP (p : Prg) : Prop := p.length ≤ 1048576 ∧ ∀ c ∈ p, SmallC c
theorem SmallP.of {p : Prg} (h : szP p ≤ 1048576) : SmallP p := by
  refine ⟨by unfold szP at h; omega, fun c hc => ?_⟩
  have h1 := szC_le hc
  have e : szC c = c.fields.length + szMs c.meths := rfl
  have e2 : szMs c.meths = c.meths.length + sumN (c.meths.map szM) := rfl
  refine ⟨by omega, by omega, fun m hm => ?_⟩
  have h2 := szM_le hm
  have e3 : szM m = m.args.length + m.code.length := rfl
  exact ⟨by omega, by omega⟩

end Pg
end Go.Proofs.Ytffkkhaiedhaiaa

/- What the law of the ways wants, plainly: straight code goes on step by step; the program of one code; how far a frame may be. -/
namespace Go.Proofs.Ytffkkhaiedhaiaa
namespace Pg
open Go.ChangeShapes Go.WideShapes Go.ChangeAt Go.RowKit St Wd

theorem nex_rise (l : List Tx.Ins) (n : Int) : Rise (nexA l n) := by unfold nexA; split; exact risL_rise _ _; simp
theorem rch_rise (l : List Tx.Ins) : Rise (rchA l) := by unfold rchA; split; exact risL_rise _ _; simp
theorem ldr_rise (l : List Tx.Ins) : Rise (ldrA l) := by unfold ldrA; split; exact risL_rise _ _; simp
theorem rise_up {l : List Int} (h : Rise l) : ∀ k x y, l[k]? = some x → l[k + 1]? = some y → x < y := fun k x y hx hy => by
  obtain ⟨h1, rfl⟩ := List.getElem?_eq_some_iff.1 hx
  obtain ⟨h2, rfl⟩ := List.getElem?_eq_some_iff.1 hy
  exact List.pairwise_iff_getElem.1 h k (k + 1) h1 h2 (by omega)
/-- In straight code what comes next is the step behind. -/
theorem straight_next {l : List Tx.Ins} {n m : Int} (h : strA l n m = true) {i : Int} (h1 : n ≤ i) (h2 : i < m) : nexA l i = [i + 1] := by
  unfold strA at h
  simp only [Bool.and_eq_true, decide_eq_true_eq] at h
  obtain ⟨ha, hb, hab, hs⟩ := h
  have hok : Lay.codeOk l = true := by unfold atB at ha; simp only [Bool.and_eq_true] at ha; exact ha.1
  unfold atB at ha hb
  rw [hok] at ha hb
  simp only [Bool.true_and, Bool.and_eq_true, decide_eq_true_eq] at ha hb
  obtain ⟨k, rfl⟩ := Int.eq_ofNat_of_zero_le (show 0 ≤ i by omega)
  have hk : k + 1 < l.length := by omega
  have hld : ldB l l.length (k + 1) = false := by
    cases hh : ldB l l.length (k + 1)
    · rfl
    · have := strB_false (code := l) (a := n.toNat) (b := m.toNat) (i := k) (by omega) (by omega) hh
      rw [this] at hs; simp at hs
  have hend : endB (insF l k).1 = false := by
    cases hh : endB (insF l k).1
    · rfl
    · rw [end_leads hk hh] at hld; simp at hld
  have hat : atB l (k : Int) = true := by unfold atB; rw [hok]; simp; omega
  have hop : (insF l k).1 ≠ 20 ∧ (insF l k).1 ≠ 11 ∧ (insF l k).1 ≠ 12 := by
    unfold endB Lay.jumpB at hend
    simp only [Bool.or_eq_false_iff, decide_eq_false_iff_not] at hend
    exact ⟨hend.2, fun e => by simp [e] at hend, fun e => by simp [e] at hend⟩
  have hl40 := (Lay.ok_len hok).2
  unfold nexA
  rw [hat, if_pos rfl, Int.toNat_natCast]
  refine rise_ext (risL_rise _ _) (by simp) fun x => ?_
  rw [risL_mem]
  have hw : waysF (insF l k) k = [k + 1] := by unfold waysF; rw [if_neg hop.1, if_neg hop.2.1, if_neg hop.2.2]
  constructor
  · rintro ⟨j, _, hj, rfl⟩
    unfold nxB at hj
    rw [hw] at hj
    simp only [Bool.and_eq_true, decide_eq_true_eq, List.mem_singleton] at hj
    simp [hj.1]
  · intro hx
    simp only [List.mem_singleton] at hx
    refine ⟨k + 1, by omega, ?_, by rw [hx]; simp⟩
    unfold nxB
    rw [hw]
    simp; omega
theorem mainP_ok {a : List Tx.Ins} (h : Lay.codeOk a = true) : okP (mainP a) = true := by
  have hl := (Lay.ok_len h)
  simp [okP, mainP, okAt, okCB, okK, okMB, tyB, agreeF, mainOk, ownF, h, List.range_succ]
theorem mainP_small {a : List Tx.Ins} (h : a.length ≤ 1048576) : SmallP (mainP a) := by
  refine ⟨by simp [mainP], fun c hc => ?_⟩
  simp only [mainP, List.mem_singleton] at hc
  subst hc
  refine ⟨by simp, by simp, fun m hm => ?_⟩
  simp only [List.mem_singleton] at hm
  subst hm
  exact ⟨by simp, h⟩
theorem main_mach (a : List Tx.Ins) : machB (startM (mainP a)) = true := by
  simp [machB, startM, mainP, fieldsR, obB, frB, valF, valB, frmV, okB]
/-- No frame is further than the code. -/
def PosI (a : List Tx.Ins) (m : Mc) : Prop := ∀ f ∈ m.frames, f.pos ≤ (a.length : Int)
theorem PosI.start {a : List Tx.Ins} (h : 1 ≤ a.length) : PosI a (startM (mainP a)) := fun f hf => by
  simp only [startM, List.mem_singleton] at hf
  subst hf
  show (0 : Int) ≤ _
  omega
theorem pos_step {a : List Tx.Ins} (hok : Lay.codeOk a = true) {m : Mc} (h : WayI a m) (hp : PosI a m) {f : Fr} (hl : m.frames.getLast? = some f) (h0 : (stepS (mainP a) m).2 = 0) : PosI a (stepS (mainP a) m).1 := by
  have hsp := last_split hl
  have hfm : f ∈ m.frames := by rw [hsp]; simp
  obtain ⟨f1, f2, f3, f4⟩ := h.all f hfm
  have hfl : f.pos < (a.length : Int) := by
    rcases Int.lt_or_le f.pos a.length with h1 | h1
    · exact h1
    · rw [way_end hl h1] at h0; simp at h0
  obtain ⟨k, hk⟩ := Int.eq_ofNat_of_zero_le f3
  have hkl : k < a.length := by omega
  have hkn : f.pos.toNat = k := by omega
  have hstep : ∃ own, stepS (mainP a) m = stepI (mainP a) m f own (insF a k) := by
    unfold stepS at h0 ⊢
    rw [hl] at h0 ⊢
    dsimp only at h0 ⊢
    split
    · rename_i hn; rw [hn] at h0; simp at h0
    · rename_i own ho
      obtain ⟨_, _, rfl⟩ := own_main ho
      refine ⟨⟨0, [], -1, a⟩, ?_⟩
      rw [if_neg (by dsimp only; omega), hkn]
      unfold insF
      rw [List.getD_eq_getElem?_getD]
  obtain ⟨own, hs⟩ := hstep
  have hop := Lay.ok_at hok (ins_is hkl)
  have hop2 := Tx.ok_op hop
  rw [hs] at h0 ⊢
  have hdl : ∀ g ∈ m.frames.dropLast, g.pos ≤ (a.length : Int) := fun g hg => hp g (mem_dropLast hg)
  intro x hx
  cases step_kind (mainP a) m f own (insF a k) hop2.2 hop2.1 with
  | ends he => exact absurd h0 he
  | on f' _ hfr hc hn hp' =>
    rw [hfr] at hx
    rcases List.mem_append.1 hx with hx | hx
    · exact hdl x hx
    · simp at hx; subst hx
      rcases hp' with ⟨hp', _⟩ | ⟨hp', hj⟩
      · omega
      · have := jump_in hok hkl hj; omega
  | call f' g _ h17 hfr hc hn hp' hg ho hm =>
    rw [hfr] at hx
    rcases List.mem_append.1 hx with hx | hx
    · rcases List.mem_append.1 hx with hx | hx
      · exact hdl x hx
      · simp at hx; subst hx; omega
    · simp at hx; subst hx
      have := hg.2.1; omega
  | give b b' _ h20 hb hfr hc hn hp' =>
    rw [hfr] at hx
    rcases List.mem_append.1 hx with hx | hx
    · exact hdl x (mem_dropLast hx)
    · simp at hx; subst hx
      have hbm : b ∈ m.frames.dropLast := List.mem_of_getLast? hb
      have := (h.low b hbm).1
      omega
theorem rch_has {a : List Tx.Ins} (hok : Lay.codeOk a = true) {x : Int} (h0 : 0 ≤ x) (hl : x < (a.length : Int)) (h : Rch a x.toNat) : decide (x ∈ rchA a) = true := by
  have := (Lay.ok_len hok).2
  unfold rchA
  rw [if_pos hok]
  simp only [decide_eq_true_eq, risL_mem]
  exact ⟨x.toNat, by omega, rchB_iff.2 h, by omega⟩
theorem nex_has {a : List Tx.Ins} (hok : Lay.codeOk a = true) {x y : Int} (h0 : 0 ≤ x) (hl : x < (a.length : Int)) (hy : 0 ≤ y) (h : nxB a x.toNat y.toNat = true) : decide (y ∈ nexA a x) = true := by
  have := (Lay.ok_len hok).2
  have hat : atB a x = true := by unfold atB; rw [hok]; simp; omega
  have hlt := nxB_lt h
  unfold nexA
  rw [hat, if_pos rfl]
  simp only [decide_eq_true_eq, risL_mem]
  exact ⟨y.toNat, by omega, h, by omega⟩
end Pg
end Go.Proofs.Ytffkkhaiedhaiaa
