/- Contracts of the laws' own copying of programs. -/
import Derived.Test.YtinanjjhkddikaaGreatJSf1
import Derived.Test.YtinanjjhkddikaaGreatJPg2
import Derived.Test.YtinanjjhkddikaaGreatJFl0
namespace Go.Proofs.YtinanjjhkddikaaGreat
namespace Pg
open Go.ChangeShapes Go.WideShapes Go.ChangeAt Go.RowKit St

theorem toInts' (a : Option Addr) (cap : Nat) (l : List Int) (hl : l.length ≤ 1048576) (w : World) (hr : SI false 0 w (.slice a l.length cap) l) :
    Calls Tryz.prog 21 #[.slice a l.length cap] w fun e w' => ∃ v, e = .returned v ∧ SI true w.heap.size w' v l ∧ Below w.heap.size w w' :=
  (toInts a cap l hl w (SI.rows hr)).mono fun _ _ ⟨h1, h2, h3, h4, h5⟩ => ⟨_, h1, SI.row (Nat.le_refl _) h4 h2 h3, h5⟩
theorem toRow' (a : Option Addr) (cap : Nat) (l : List Tx.Ins) (hl : l.length ≤ 1048576) (w : World) (hr : SC 0 w (.slice a l.length cap) l) :
    Calls Tryz.prog 99 #[.slice a l.length cap] w fun e w' => ∃ v, e = .returned v ∧ CS w.heap.size w' v l ∧ Below w.heap.size w w' :=
  (toRowS a cap l hl w (SC.rows hr)).mono fun _ _ ⟨h1, h2, h3, h4, h5⟩ => ⟨_, h1, ⟨_, _, rfl, Nat.le_refl _, h4, h2, h3⟩, h5⟩

set_option maxRecDepth 100000 in
set_option maxHeartbeats 1000000 in
theorem toMethod (m : Meth) (aa ac : Option Addr) (ca cc : Nat) (h1 : m.args.length ≤ 1048576) (h2 : m.code.length ≤ 1048576) (w : World) (hi : SI false 0 w (.slice aa m.args.length ca) m.args) (hc : SC 0 w (.slice ac m.code.length cc) m.code) :
    Calls Tryz.prog 86 #[.agg #[.int .i64 m.name, .slice aa m.args.length ca, .int .i64 m.gives, .slice ac m.code.length cc]] w fun e w' => ∃ va vc, e = .returned (.agg #[.int .i64 m.name, va, .int .i64 m.gives, vc]) ∧ MV front w.heap.size w' va vc m ∧ Below w.heap.size w w' := by
  have HI : Hid (SI false 0 w (.slice aa m.args.length ca) m.args) := hi
  have HC : Hid (SC 0 w (.slice ac m.code.length cc) m.code) := hc
  clear hi hc
  go_enter Tryz.func86, Tryz.ntmps86
  go_wp2_with fail
  refine (toInts' aa ca m.args h1 _ ?_).mono ?_
  · exact SI.on HI.out (Keep.of (by go_grown))
  rintro e w1 ⟨va, rfl, hi1, hb1⟩
  obtain ⟨a1, c1, rfl⟩ := hi1.form
  have hw1 : Below w.heap.size w w1 := below_over (by go_grown) hb1
  have A1 : Hid (Cells w1 w.heap.size [.int .i64 m.name, .slice aa m.args.length ca, .int .i64 m.gives, .slice ac m.code.length cc]) := by
    show Cells _ _ _
    refine Cells.on ?_ hb1
    exact ((Cells.new w _ rfl _ _).alloc _).alloc _
  have R1 : Hid (Cells w1 (w.heap.size + 1) [.int .i64 0, .slice none 0 0, .int .i64 0, .slice none 0 0]) := by
    show Cells _ _ _
    refine Cells.on ?_ hb1
    exact (Cells.new (w.alloc _) _ (by simp) _ _).alloc _
  have O1 : Hid (Cells w1 (w.heap.size + 1 + 1) [.int .i64 m.name, .slice none 0 0, .int .i64 0, .slice none 0 0]) := by
    show Cells _ _ _
    refine Cells.on ?_ hb1
    exact Cells.new ((w.alloc _).alloc _) _ (by simp) _ _
  have HV1 : Hid (SI true (w.heap.size + 1 + 1 + 1) w1 (.slice a1 m.args.length c1) m.args) := SI.weak hi1 (by simp)
  have hz1 : w.heap.size + 1 + 1 + 1 ≤ w1.heap.size := by have := hb1.size; simpa using this
  clear hi1 hb1
  generalize hs : w.heap.size = s at *
  have HSS : Hid (w.heap.size = s) := hs
  clear hs
  obtain ⟨b2, _⟩ := A1.out.g2
  obtain ⟨o1, p1⟩ := O1.out.g1
  obtain ⟨o2, p2⟩ := O1.out.g2
  have n21 : ∀ i, (⟨s + 1 + 1, i, none⟩ : Addr).block ≠ s + 1 := fun i => by show s + 1 + 1 ≠ s + 1; omega
  have n20 : ∀ i, (⟨s + 1 + 1, i, none⟩ : Addr).block ≠ s := fun i => by show s + 1 + 1 ≠ s; omega
  have N21 : Hid (∀ i, (⟨s + 1 + 1, i, none⟩ : Addr).block ≠ s + 1) := n21
  have N20 : Hid (∀ i, (⟨s + 1 + 1, i, none⟩ : Addr).block ≠ s) := n20
  clear n21 n20
  have a3 := (((A1.out.far ⟨s + 1 + 1, 1, none⟩ (.slice a1 m.args.length c1) (N20.out 0)).far ⟨s + 1 + 1, 2, none⟩ (.int .i64 m.gives) (N20.out 0)).g3).1
  have O2 : Hid (Cells ((w1.setCell ⟨s + 1 + 1, 1, none⟩ (.slice a1 m.args.length c1)).setCell ⟨s + 1 + 1, 2, none⟩ (.int .i64 m.gives)) (s + 1 + 1) [.int .i64 m.name, (.slice a1 m.args.length c1), .int .i64 m.gives, .slice none 0 0]) := (O1.out.s1 (.slice a1 m.args.length c1)).s2 (.int .i64 m.gives)
  have R2 : Hid (Cells ((w1.setCell ⟨s + 1 + 1, 1, none⟩ (.slice a1 m.args.length c1)).setCell ⟨s + 1 + 1, 2, none⟩ (.int .i64 m.gives)) (s + 1) [.int .i64 0, .slice none 0 0, .int .i64 0, .slice none 0 0]) := (R1.out.far ⟨s + 1 + 1, 1, none⟩ (.slice a1 m.args.length c1) (N21.out 0)).far ⟨s + 1 + 1, 2, none⟩ (.int .i64 m.gives) (N21.out 0)
  have hw2 : Below s w ((w1.setCell ⟨s + 1 + 1, 1, none⟩ (.slice a1 m.args.length c1)).setCell ⟨s + 1 + 1, 2, none⟩ (.int .i64 m.gives)) := (hw1.setCell (p := ⟨s + 1 + 1, 1, none⟩) (by simp; omega) _).setCell (p := ⟨s + 1 + 1, 2, none⟩) (by simp; omega) _
  have hk2 : Keep (s + 1 + 1 + 1) w1 ((w1.setCell ⟨s + 1 + 1, 1, none⟩ (.slice a1 m.args.length c1)).setCell ⟨s + 1 + 1, 2, none⟩ (.int .i64 m.gives)) := (Keep.set w1 (p := ⟨s + 1 + 1, 1, none⟩) (by simp) (.slice a1 m.args.length c1)).trans (Keep.set _ (p := ⟨s + 1 + 1, 2, none⟩) (by simp) _)
  have HV2 : Hid (SI true (s + 1 + 1 + 1) ((w1.setCell ⟨s + 1 + 1, 1, none⟩ (.slice a1 m.args.length c1)).setCell ⟨s + 1 + 1, 2, none⟩ (.int .i64 m.gives)) (.slice a1 m.args.length c1) m.args) := SI.on HV1.out hk2
  have hz2 := Nat.le_trans hz1 hk2.size
  have HK2 : Hid (Below s w ((w1.setCell ⟨s + 1 + 1, 1, none⟩ (.slice a1 m.args.length c1)).setCell ⟨s + 1 + 1, 2, none⟩ (.int .i64 m.gives))) := hw2
  clear hk2 HV1 hw1 A1 R1 O1 hw2 hz1
  go_wp2_with fail
  generalize (w1.setCell ⟨s + 1 + 1, 1, none⟩ (.slice a1 m.args.length c1)).setCell ⟨s + 1 + 1, 2, none⟩ (.int .i64 m.gives) = w2 at *
  refine (toRow' ac cc m.code h2 _ (SC.on HC.out (Keep.of (by rw [HSS.out]; exact HK2.out)))).mono ?_
  rintro e w3 ⟨vc, rfl, hc3, hb3⟩
  obtain ⟨a2, c2, rfl⟩ := front.form hc3
  have O3 : Hid (Cells w3 (s + 1 + 1) [.int .i64 m.name, (.slice a1 m.args.length c1), .int .i64 m.gives, .slice none 0 0]) := O2.out.on hb3
  have R3 := R2.out.on hb3
  have HV3 : Hid (SI true (s + 1 + 1 + 1) w3 (.slice a1 m.args.length c1) m.args) := SI.on HV2.out (Keep.of hb3)
  have HC3 : Hid (CS (s + 1 + 1 + 1) w3 (.slice a2 m.code.length c2) m.code) := front.weak hc3 hz2
  have HW3 : Hid (Below s w w3) := HK2.out.trans (hb3.mono (by omega))
  clear hc3 hb3 b2 a3 o1 o2 p1 p2 O2 R2 HV2 HK2 hz2
  have O4 := O3.out.s3 (.slice a2 m.code.length c2)
  have R4 := R3.far ⟨s + 1 + 1, 3, none⟩ (.slice a2 m.code.length c2) (N21.out 0)
  have R5 := (((R4.s0 (.int .i64 m.name)).s1 (.slice a1 m.args.length c1)).s2 (.int .i64 m.gives)).s3 (.slice a2 m.code.length c2)
  obtain ⟨o3, p3⟩ := O3.out.g3
  obtain ⟨i0, _⟩ := O4.g0
  obtain ⟨i1, _⟩ := O4.g1
  obtain ⟨i2, _⟩ := O4.g2
  obtain ⟨i3, _⟩ := O4.g3
  obtain ⟨r0, q0⟩ := R4.g0
  obtain ⟨r1, q1⟩ := R4.g1
  obtain ⟨r2, q2⟩ := R4.g2
  obtain ⟨r3, q3⟩ := R4.g3
  obtain ⟨e0, _⟩ := R5.g0
  obtain ⟨e1, _⟩ := R5.g1
  obtain ⟨e2, _⟩ := R5.g2
  obtain ⟨e3, _⟩ := R5.g3
  clear O4 R4 R5 R3 O3
  go_wp2
  refine bodyPost_ret (v := .agg #[.int .i64 m.name, (.slice a1 m.args.length c1), .int .i64 m.gives, (.slice a2 m.code.length c2)]) (by simp [results, Tryz.results86, go_sem, e0, e1, e2, e3]) rfl ?_
  rw [HSS.out]
  have hk : ∀ (u : World) (j i : Nat) (x : Value), j < s + 1 + 1 + 1 → Keep (s + 1 + 1 + 1) u (u.setCell ⟨j, i, none⟩ x) := fun u j i x hj => Keep.set u (p := ⟨j, i, none⟩) hj x
  have hkk := ((((hk w3 (s + 1 + 1) 3 (.slice a2 m.code.length c2) (by omega)).trans (hk _ (s + 1) 0 (.int .i64 m.name) (by omega))).trans (hk _ (s + 1) 1 (.slice a1 m.args.length c1) (by omega))).trans (hk _ (s + 1) 2 (.int .i64 m.gives) (by omega))).trans (hk _ (s + 1) 3 (.slice a2 m.code.length c2) (by omega))
  have hbb := ((((HW3.out.setCell (p := ⟨s + 1 + 1, 3, none⟩) (by simp; omega) (.slice a2 m.code.length c2)).setCell (p := ⟨s + 1, 0, none⟩) (by simp) (.int .i64 m.name)).setCell (p := ⟨s + 1, 1, none⟩) (by simp) (.slice a1 m.args.length c1)).setCell (p := ⟨s + 1, 2, none⟩) (by simp) (.int .i64 m.gives)).setCell (p := ⟨s + 1, 3, none⟩) (by simp) (.slice a2 m.code.length c2)
  exact ⟨_, _, rfl, ⟨SI.weak (SI.on HV3.out hkk) (by omega), front.weak (front.on HC3.out hkk) (by omega)⟩, hbb⟩
end Pg
end Go.Proofs.YtinanjjhkddikaaGreat

/- Contracts of the laws' own copying of programs: rows of methods, classes, programs. -/
namespace Go.Proofs.YtinanjjhkddikaaGreat
namespace Pg
open Go.ChangeShapes Go.WideShapes Go.ChangeAt Go.RowKit St

theorem infoMe : (Tryz.prog.info? 55).map (fun i => (i.zero, i.size, i.bytes)) = some (some (.agg #[.int .i64 0, .slice none 0 0, .int .i64 0, .slice none 0 0]), 4, 64) := by kernel_rfl
theorem infoCl : (Tryz.prog.info? 52).map (fun i => (i.zero, i.size, i.bytes)) = some (some (.agg #[.int .i64 0, .slice none 0 0, .slice none 0 0]), 3, 56) := by kernel_rfl

theorem ne_off {g a b : Nat} (h : a ≠ b) : (⟨g, a, none⟩ : Addr) ≠ ⟨g, b, none⟩ := fun e => h (congrArg Addr.off e)
theorem MAt.far {K : Way} {B g o i : Nat} {w : World} {m : Meth} (h : MAt K B w g o m) (hg : g < B) (hi : i < o ∨ o + 3 < i) (v : Value) : MAt K B (w.setCell ⟨g, i, none⟩ v) g o m := by
  obtain ⟨va, vc, h0, h1, h2, h3, h4⟩ := h
  exact ⟨va, vc, (World.cell?_setCell_other _ _ _ _ (ne_off (by omega))).trans h0, (World.cell?_setCell_other _ _ _ _ (ne_off (by omega))).trans h1, (World.cell?_setCell_other _ _ _ _ (ne_off (by omega))).trans h2, (World.cell?_setCell_other _ _ _ _ (ne_off (by omega))).trans h3, h4.on (Keep.set w (p := ⟨g, i, none⟩) hg v)⟩
theorem CAt.far {K : Way} {B g o i : Nat} {w : World} {m : Cls} (h : CAt K B w g o m) (hg : g < B) (hi : i < o ∨ o + 2 < i) (v : Value) : CAt K B (w.setCell ⟨g, i, none⟩ v) g o m := by
  obtain ⟨va, vc, h0, h1, h2, h4⟩ := h
  exact ⟨va, vc, (World.cell?_setCell_other _ _ _ _ (ne_off (by omega))).trans h0, (World.cell?_setCell_other _ _ _ _ (ne_off (by omega))).trans h1, (World.cell?_setCell_other _ _ _ _ (ne_off (by omega))).trans h2, h4.on (Keep.set w (p := ⟨g, i, none⟩) hg v)⟩
/-- One method more written. -/
theorem meths_next {K : Way} {g k : Nat} {w : World} {ms : List Meth} (hk : k < ms.length) (hroom : Room w g (ms.length * 4)) (h : ∀ j x, (ms.take k)[j]? = some x → MAt K (g + 1) w g (0 + j * 4) x) {va vc : Value} (hv : MV K (g + 1) w va vc ms[k]) :
    ∀ j x, (ms.take (k + 1))[j]? = some x → MAt K (g + 1) ((((w.setCell ⟨g, k * 4, none⟩ (.int .i64 ms[k].name)).setCell ⟨g, k * 4 + 1, none⟩ va).setCell ⟨g, k * 4 + 2, none⟩ (.int .i64 ms[k].gives)).setCell ⟨g, k * 4 + 3, none⟩ vc) g (0 + j * 4) x := by
  intro j x hj
  rw [List.getElem?_take] at hj
  split at hj
  · rename_i hlt
    by_cases e : j = k
    · subst e
      rw [List.getElem?_eq_getElem hk] at hj
      simp at hj
      subst hj
      obtain ⟨⟨x0, h0⟩, _⟩ := hroom (j * 4) (by omega)
      obtain ⟨⟨x1, h1⟩, _⟩ := hroom (j * 4 + 1) (by omega)
      obtain ⟨⟨x2, h2⟩, _⟩ := hroom (j * 4 + 2) (by omega)
      obtain ⟨⟨x3, h3⟩, _⟩ := hroom (j * 4 + 3) (by omega)
      rw [Nat.zero_add]
      have k1 := Keep.set (B := g + 1) w (p := ⟨g, j * 4, none⟩) (by simp) (.int .i64 ms[j].name)
      refine ⟨va, vc, ?_, ?_, ?_, ?_, hv.on (((k1.trans (Keep.set _ (p := ⟨g, j * 4 + 1, none⟩) (by simp) va)).trans (Keep.set _ (p := ⟨g, j * 4 + 2, none⟩) (by simp) _)).trans (Keep.set _ (p := ⟨g, j * 4 + 3, none⟩) (by simp) vc))⟩
      · rw [World.cell?_setCell_other _ _ _ _ (ne_off (by omega)), World.cell?_setCell_other _ _ _ _ (ne_off (by omega)), World.cell?_setCell_other _ _ _ _ (ne_off (by omega))]
        exact World.cell?_setCell_same _ _ _ h0
      · rw [World.cell?_setCell_other _ _ _ _ (ne_off (by omega)), World.cell?_setCell_other _ _ _ _ (ne_off (by omega))]
        exact World.cell?_setCell_same _ _ _ ((World.cell?_setCell_other _ _ _ _ (ne_off (by omega))).trans h1)
      · rw [World.cell?_setCell_other _ _ _ _ (ne_off (by omega))]
        exact World.cell?_setCell_same _ _ _ ((World.cell?_setCell_other _ _ _ _ (ne_off (by omega))).trans ((World.cell?_setCell_other _ _ _ _ (ne_off (by omega))).trans h2))
      · exact World.cell?_setCell_same _ _ _ ((World.cell?_setCell_other _ _ _ _ (ne_off (by omega))).trans ((World.cell?_setCell_other _ _ _ _ (ne_off (by omega))).trans ((World.cell?_setCell_other _ _ _ _ (ne_off (by omega))).trans h3)))
    · have hx := h j x (by rw [List.getElem?_take, if_pos (by omega)]; exact hj)
      exact (((hx.far (by omega) (by omega) _).far (by omega) (by omega) _).far (by omega) (by omega) _).far (by omega) (by omega) _
  · simp at hj
theorem classes_next {K : Way} {g k : Nat} {w : World} {ms : Prg} (hk : k < ms.length) (hroom : Room w g (ms.length * 3)) (h : ∀ j x, (ms.take k)[j]? = some x → CAt K (g + 1) w g (0 + j * 3) x) {vf vm : Value} (hv : CV K (g + 1) w vf vm ms[k]) :
    ∀ j x, (ms.take (k + 1))[j]? = some x → CAt K (g + 1) (((w.setCell ⟨g, k * 3, none⟩ (.int .i64 ms[k].super)).setCell ⟨g, k * 3 + 1, none⟩ vf).setCell ⟨g, k * 3 + 2, none⟩ vm) g (0 + j * 3) x := by
  intro j x hj
  rw [List.getElem?_take] at hj
  split at hj
  · rename_i hlt
    by_cases e : j = k
    · subst e
      rw [List.getElem?_eq_getElem hk] at hj
      simp at hj
      subst hj
      obtain ⟨⟨x0, h0⟩, _⟩ := hroom (j * 3) (by omega)
      obtain ⟨⟨x1, h1⟩, _⟩ := hroom (j * 3 + 1) (by omega)
      obtain ⟨⟨x2, h2⟩, _⟩ := hroom (j * 3 + 2) (by omega)
      rw [Nat.zero_add]
      have k1 := Keep.set (B := g + 1) w (p := ⟨g, j * 3, none⟩) (by simp) (.int .i64 ms[j].super)
      refine ⟨vf, vm, ?_, ?_, ?_, hv.on ((k1.trans (Keep.set _ (p := ⟨g, j * 3 + 1, none⟩) (by simp) vf)).trans (Keep.set _ (p := ⟨g, j * 3 + 2, none⟩) (by simp) vm))⟩
      · rw [World.cell?_setCell_other _ _ _ _ (ne_off (by omega)), World.cell?_setCell_other _ _ _ _ (ne_off (by omega))]
        exact World.cell?_setCell_same _ _ _ h0
      · rw [World.cell?_setCell_other _ _ _ _ (ne_off (by omega))]
        exact World.cell?_setCell_same _ _ _ ((World.cell?_setCell_other _ _ _ _ (ne_off (by omega))).trans h1)
      · exact World.cell?_setCell_same _ _ _ ((World.cell?_setCell_other _ _ _ _ (ne_off (by omega))).trans ((World.cell?_setCell_other _ _ _ _ (ne_off (by omega))).trans h2))
    · have hx := h j x (by rw [List.getElem?_take, if_pos (by omega)]; exact hj)
      exact ((hx.far (by omega) (by omega) _).far (by omega) (by omega) _).far (by omega) (by omega) _
  · simp at hj

/-- All is short. -/
def SmallM (m : Meth) : Prop := m.args.length ≤ 1048576 ∧ m.code.length ≤ 1048576
def SmallC (c : Cls) : Prop := c.fields.length ≤ 1048576 ∧ c.meths.length ≤ 1048576 ∧ ∀ m ∈ c.meths, SmallM m
def SmallP (p : Prg) : Prop := p.length ≤ 1048576 ∧ ∀ c ∈ p, SmallC c
theorem SmallP.of {p : Prg} (h : szP p ≤ 1048576) : SmallP p := by
  refine ⟨by unfold szP at h; omega, fun c hc => ?_⟩
  have h1 := szC_le hc
  have e : szC c = c.fields.length + szMs c.meths := rfl
  have e2 : szMs c.meths = c.meths.length + sumN (c.meths.map szM) := rfl
  refine ⟨by omega, by omega, fun m hm => ?_⟩
  have h2 := szM_le hm
  have e3 : szM m = m.args.length + m.code.length := rfl
  exact ⟨by omega, by omega⟩

set_option maxRecDepth 100000 in
set_option maxHeartbeats 1000000 in
theorem toMethods (ms : List Meth) (a : Option Addr) (cap : Nat) (hn : ms.length ≤ 1048576) (hs : ∀ m ∈ ms, SmallM m) (w : World) (hm : SM wide 0 w (.slice a ms.length cap) ms) :
    Calls Tryz.prog 70 #[.slice a ms.length cap] w fun e w' => ∃ v, e = .returned v ∧ SM front w.heap.size w' v ms ∧ Below w.heap.size w w' := by
  obtain ⟨i0, hi, hz0, hz1, hz2⟩ := info_parts infoMe
  have HM : Hid (SM wide 0 w (.slice a ms.length cap) ms) := hm
  have HS : Hid (∀ m ∈ ms, SmallM m) := hs
  clear hm hs
  go_enter Tryz.func70, Tryz.ntmps70
  go_wp2_with (at_make; refine wpList_make_full _ rfl _ _ 50 rfl w.heap.size 55 i0 (.agg #[.int .i64 0, .slice none 0 0, .int .i64 0, .slice none 0 0]) 4 Tryz.underlying50 hi hz0 hz1 .i64 .i64 _ _ ms.length rfl rfl rfl rfl (by rw [hz2]; omega) (by unfold maxLen; omega) (Nat.le_refl _) ?_; intro w0 hown0 hgrow0)
  have hroom := room_own hown0 (Nat.le_refl _)
  have hsz0 : w.heap.size < w0.heap.size := row_made_lt hown0
  have hb0 : Below w.heap.size w w0 := (Below.refl _ _).grown hgrow0 (Nat.le_refl _) (fun _ h => by simp at h)
  clear hown0 hgrow0
  go_loopw [4] (fun i wr => ∃ k : Nat, k ≤ ms.length ∧ i = .int .i64 k ∧ Hid (Room wr w.heap.size (ms.length * 4)) ∧ Hid (∀ j x, (ms.take k)[j]? = some x → MAt front (w.heap.size + 1) wr w.heap.size (0 + j * 4) x) ∧ w.heap.size < wr.heap.size ∧ Below w.heap.size w wr) (fun i _ => ms.length - (intOf i).toNat)
  case atStart => exact ⟨0, Nat.zero_le _, rfl, hroom, fun j x h => by simp at h, hsz0, hb0⟩
  case round =>
    obtain ⟨k, hk, rfl, hrm, hrw, hsz, hb⟩ := hrel
    by_cases hlt : k < ms.length
    · obtain ⟨b, o, rfl, _, va, vc, h0, h1, h2, h3, hmv⟩ := (SM.on HM.out (Keep.of hb)).get hlt
      obtain ⟨aa, ca, rfl⟩ := hmv.1.form
      obtain ⟨ac, cc, rfl⟩ := wide.form hmv.2
      have HMA : Hid (SI false 0 wr (.slice aa ms[k].args.length ca) ms[k].args) := hmv.1
      have HMC : Hid (SC 0 wr (.slice ac ms[k].code.length cc) ms[k].code) := hmv.2
      have hsm := HS.out _ (List.getElem_mem hlt)
      obtain ⟨⟨x0, d0⟩, f0⟩ := hrm.out (k * 4) (by omega)
      obtain ⟨⟨x1, d1⟩, f1⟩ := hrm.out (k * 4 + 1) (by omega)
      obtain ⟨⟨x2, d2⟩, f2⟩ := hrm.out (k * 4 + 2) (by omega)
      obtain ⟨⟨x3, d3⟩, f3⟩ := hrm.out (k * 4 + 3) (by omega)
      have HN : Hid (∀ u, Below wr.heap.size wr u → ∀ va vc, MV front (w.heap.size + 1) u va vc ms[k] → ∀ j x, (ms.take (k + 1))[j]? = some x → MAt front (w.heap.size + 1) ((((u.setCell ⟨w.heap.size, k * 4, none⟩ (.int .i64 ms[k].name)).setCell ⟨w.heap.size, k * 4 + 1, none⟩ va).setCell ⟨w.heap.size, k * 4 + 2, none⟩ (.int .i64 ms[k].gives)).setCell ⟨w.heap.size, k * 4 + 3, none⟩ vc) w.heap.size (0 + j * 4) x) :=
        fun u hu va vc hv => meths_next hlt (hrm.out.on hu) (fun j x hj => by
          obtain ⟨q1, q2, c0, c1, c2, c3, c4⟩ := hrw.out j x hj
          have l : w.heap.size < wr.heap.size := hsz
          exact ⟨q1, q2, (hu.cell l).trans c0, (hu.cell l).trans c1, (hu.cell l).trans c2, (hu.cell l).trans c3, c4.on (Keep.of hu)⟩) hv
      clear hrw hmv HM
      generalize ms[k] = m at *
      go_wp2_with fail
      refine (toMethod m aa ac ca cc hsm.1 hsm.2 _ HMA.out HMC.out).mono ?_
      rintro e w1 ⟨va, vc, rfl, hv1, hb1⟩
      obtain ⟨a1, c1, rfl⟩ := hv1.1.form
      obtain ⟨a2, c2, rfl⟩ := front.form hv1.2
      have hw1 : Below w.heap.size w w1 := below_over hb hb1
      have hsz1 : w.heap.size < w1.heap.size := Nat.lt_of_lt_of_le hsz hb1.size
      have l0 : w.heap.size < wr.heap.size := hsz
      have d0' := (hb1.cell l0).trans d0
      have d1' := (hb1.cell l0).trans d1
      have d2' := (hb1.cell l0).trans d2
      have d3' := (hb1.cell l0).trans d3
      have f0' := (hb1.frozen l0).trans f0
      have f1' := (hb1.frozen l0).trans f1
      have f2' := (hb1.frozen l0).trans f2
      have f3' := (hb1.frozen l0).trans f3
      have HRM : Hid (Room w1 w.heap.size (ms.length * 4)) := hrm.out.on hb1
      have HNX : Hid (∀ j x, (ms.take (k + 1))[j]? = some x → MAt front (w.heap.size + 1) ((((w1.setCell ⟨w.heap.size, k * 4, none⟩ (.int .i64 m.name)).setCell ⟨w.heap.size, k * 4 + 1, none⟩ (.slice a1 m.args.length c1)).setCell ⟨w.heap.size, k * 4 + 2, none⟩ (.int .i64 m.gives)).setCell ⟨w.heap.size, k * 4 + 3, none⟩ (.slice a2 m.code.length c2)) w.heap.size (0 + j * 4) x) := HN.out w1 hb1 _ _ (hv1.weak hsz)
      clear d0 d1 d2 d3 f0 f1 f2 f3 h0 h1 h2 h3 hb1 hrm HN hb hv1 hsm HMA HMC
      go_wp2
      go_roundw
      case rel => exact ⟨k + 1, by omega, by go_num, (((HRM.out.set _ _).set _ _).set _ _).set _ _, HNX.out, by simpa using hsz1, (((hw1.setCell (Nat.le_refl _) _).setCell (Nat.le_refl _) _).setCell (Nat.le_refl _) _).setCell (Nat.le_refl _) _⟩
      case measure => simp [intOf]; omega
    · have e : ms.take k = ms := List.take_of_length_le (by omega)
      have HE := hrw.out
      rw [e] at HE
      have HEE : Hid (∀ j x, ms[j]? = some x → MAt front (w.heap.size + 1) wr w.heap.size (0 + j * 4) x) := HE
      clear HE e
      go_wp2
      go_ret
      exact ⟨_, rfl, ⟨_, _, rfl, fun _ h => by simp at h, fun _ => ⟨w.heap.size, 0, rfl, Nat.le_refl _, ⟨hsz, fun _ j hj => by rw [Nat.zero_add]; exact (hrm.out j hj).2⟩, fun j x hj => by
        obtain ⟨q1, q2, c0, c1, c2, c3, c4⟩ := HEE.out j x hj
        exact ⟨q1, q2, c0, c1, c2, c3, c4.weak (by omega)⟩⟩⟩, hb⟩

set_option maxRecDepth 100000 in
set_option maxHeartbeats 1000000 in
theorem toClass (c : Cls) (aa ac : Option Addr) (ca cc : Nat) (hs : SmallC c) (w : World) (hi : SI false 0 w (.slice aa c.fields.length ca) c.fields) (hc : SM wide 0 w (.slice ac c.meths.length cc) c.meths) :
    Calls Tryz.prog 48 #[.agg #[.int .i64 c.super, .slice aa c.fields.length ca, .slice ac c.meths.length cc]] w fun e w' => ∃ va vc, e = .returned (.agg #[.int .i64 c.super, va, vc]) ∧ CV front w.heap.size w' va vc c ∧ Below w.heap.size w w' := by
  have HI : Hid (SI false 0 w (.slice aa c.fields.length ca) c.fields) := hi
  have HC : Hid (SM wide 0 w (.slice ac c.meths.length cc) c.meths) := hc
  have h1 := hs.1
  have h2 := hs.2.1
  have HSM : Hid (∀ m ∈ c.meths, SmallM m) := hs.2.2
  clear hi hc hs
  go_enter Tryz.func48, Tryz.ntmps48
  go_wp2_with fail
  refine (toInts' aa ca c.fields h1 _ ?_).mono ?_
  · exact SI.on HI.out (Keep.of (by go_grown))
  rintro e w1 ⟨va, rfl, hi1, hb1⟩
  obtain ⟨a1, c1, rfl⟩ := hi1.form
  have hw1 : Below w.heap.size w w1 := below_over (by go_grown) hb1
  have A1 : Hid (Cells w1 w.heap.size [.int .i64 c.super, .slice aa c.fields.length ca, .slice ac c.meths.length cc]) := by
    show Cells _ _ _
    refine Cells.on ?_ hb1
    exact ((Cells.new w _ rfl _ _).alloc _).alloc _
  have R1 : Hid (Cells w1 (w.heap.size + 1) [.int .i64 0, .slice none 0 0, .slice none 0 0]) := by
    show Cells _ _ _
    refine Cells.on ?_ hb1
    exact (Cells.new (w.alloc _) _ (by simp) _ _).alloc _
  have O1 : Hid (Cells w1 (w.heap.size + 1 + 1) [.int .i64 c.super, .slice none 0 0, .slice none 0 0]) := by
    show Cells _ _ _
    refine Cells.on ?_ hb1
    exact Cells.new ((w.alloc _).alloc _) _ (by simp) _ _
  have HV1 : Hid (SI true (w.heap.size + 1 + 1 + 1) w1 (.slice a1 c.fields.length c1) c.fields) := SI.weak hi1 (by simp)
  have hz1 : w.heap.size + 1 + 1 + 1 ≤ w1.heap.size := by have := hb1.size; simpa using this
  clear hi1 hb1
  generalize hs : w.heap.size = s at *
  have HSS : Hid (w.heap.size = s) := hs
  clear hs
  obtain ⟨o1, p1⟩ := O1.out.g1
  have N21 : Hid (s + 1 + 1 ≠ s + 1) := by show s + 1 + 1 ≠ s + 1; omega
  have N20 : Hid (s + 1 + 1 ≠ s) := by show s + 1 + 1 ≠ s; omega
  have a3 := ((A1.out.far ⟨s + 1 + 1, 1, none⟩ (.slice a1 c.fields.length c1) N20.out).g2).1
  have O2 : Hid (Cells (w1.setCell ⟨s + 1 + 1, 1, none⟩ (.slice a1 c.fields.length c1)) (s + 1 + 1) [.int .i64 c.super, .slice a1 c.fields.length c1, .slice none 0 0]) := O1.out.s1 (.slice a1 c.fields.length c1)
  have R2 : Hid (Cells (w1.setCell ⟨s + 1 + 1, 1, none⟩ (.slice a1 c.fields.length c1)) (s + 1) [.int .i64 0, .slice none 0 0, .slice none 0 0]) := R1.out.far ⟨s + 1 + 1, 1, none⟩ (.slice a1 c.fields.length c1) N21.out
  have hk2 : Keep (s + 1 + 1 + 1) w1 (w1.setCell ⟨s + 1 + 1, 1, none⟩ (.slice a1 c.fields.length c1)) := Keep.set w1 (p := ⟨s + 1 + 1, 1, none⟩) (by simp) _
  have HV2 : Hid (SI true (s + 1 + 1 + 1) (w1.setCell ⟨s + 1 + 1, 1, none⟩ (.slice a1 c.fields.length c1)) (.slice a1 c.fields.length c1) c.fields) := SI.on HV1.out hk2
  have hz2 := Nat.le_trans hz1 hk2.size
  have HK2 : Hid (Below s w (w1.setCell ⟨s + 1 + 1, 1, none⟩ (.slice a1 c.fields.length c1))) := hw1.setCell (p := ⟨s + 1 + 1, 1, none⟩) (by simp; omega) _
  clear hk2 HV1 hw1 A1 R1 O1 hz1
  go_wp2_with fail
  generalize w1.setCell ⟨s + 1 + 1, 1, none⟩ (.slice a1 c.fields.length c1) = w2 at *
  refine (toMethods c.meths ac cc h2 HSM.out _ (SM.on HC.out (Keep.of (by rw [HSS.out]; exact HK2.out)))).mono ?_
  rintro e w3 ⟨vc, rfl, hc3, hb3⟩
  obtain ⟨a2, c2, rfl⟩ := hc3.form
  have O3 : Hid (Cells w3 (s + 1 + 1) [.int .i64 c.super, .slice a1 c.fields.length c1, .slice none 0 0]) := O2.out.on hb3
  have R3 := R2.out.on hb3
  have HV3 : Hid (SI true (s + 1 + 1 + 1) w3 (.slice a1 c.fields.length c1) c.fields) := SI.on HV2.out (Keep.of hb3)
  have HC3 : Hid (SM front (s + 1 + 1 + 1) w3 (.slice a2 c.meths.length c2) c.meths) := SM.weak hc3 hz2
  have HW3 : Hid (Below s w w3) := HK2.out.trans (hb3.mono (by omega))
  clear hc3 hb3 a3 o1 p1 O2 R2 HV2 HK2 hz2
  have O4 := O3.out.s2 (.slice a2 c.meths.length c2)
  have R4 := R3.far ⟨s + 1 + 1, 2, none⟩ (.slice a2 c.meths.length c2) N21.out
  have R5 := ((R4.s0 (.int .i64 c.super)).s1 (.slice a1 c.fields.length c1)).s2 (.slice a2 c.meths.length c2)
  obtain ⟨o3, p3⟩ := O3.out.g2
  obtain ⟨i0, _⟩ := O4.g0
  obtain ⟨i1, _⟩ := O4.g1
  obtain ⟨i2, _⟩ := O4.g2
  obtain ⟨r0, q0⟩ := R4.g0
  obtain ⟨r1, q1⟩ := R4.g1
  obtain ⟨r2, q2⟩ := R4.g2
  obtain ⟨e0, _⟩ := R5.g0
  obtain ⟨e1, _⟩ := R5.g1
  obtain ⟨e2, _⟩ := R5.g2
  clear O4 R4 R5 R3 O3
  go_wp2
  refine bodyPost_ret (v := .agg #[.int .i64 c.super, .slice a1 c.fields.length c1, .slice a2 c.meths.length c2]) (by simp [results, Tryz.results48, go_sem, e0, e1, e2]) rfl ?_
  rw [HSS.out]
  have hk : ∀ (u : World) (j i : Nat) (x : Value), j < s + 1 + 1 + 1 → Keep (s + 1 + 1 + 1) u (u.setCell ⟨j, i, none⟩ x) := fun u j i x hj => Keep.set u (p := ⟨j, i, none⟩) hj x
  have hkk := (((hk w3 (s + 1 + 1) 2 (.slice a2 c.meths.length c2) (by omega)).trans (hk _ (s + 1) 0 (.int .i64 c.super) (by omega))).trans (hk _ (s + 1) 1 (.slice a1 c.fields.length c1) (by omega))).trans (hk _ (s + 1) 2 (.slice a2 c.meths.length c2) (by omega))
  have hbb := (((HW3.out.setCell (p := ⟨s + 1 + 1, 2, none⟩) (by simp; omega) (.slice a2 c.meths.length c2)).setCell (p := ⟨s + 1, 0, none⟩) (by simp) (.int .i64 c.super)).setCell (p := ⟨s + 1, 1, none⟩) (by simp) (.slice a1 c.fields.length c1)).setCell (p := ⟨s + 1, 2, none⟩) (by simp) (.slice a2 c.meths.length c2)
  exact ⟨_, _, rfl, ⟨SI.weak (SI.on HV3.out hkk) (by omega), SM.weak (SM.on HC3.out hkk) (by omega)⟩, hbb⟩

set_option maxRecDepth 100000 in
set_option maxHeartbeats 1000000 in
theorem toClasses (ms : Prg) (a : Option Addr) (cap : Nat) (hs0 : SmallP ms) (w : World) (hm : SK wide 0 w (.slice a ms.length cap) ms) :
    Calls Tryz.prog 26 #[.slice a ms.length cap] w fun e w' => ∃ v, e = .returned v ∧ SK front w.heap.size w' v ms ∧ Below w.heap.size w w' := by
  obtain ⟨i0, hi, hz0, hz1, hz2⟩ := info_parts infoCl
  have hn := hs0.1
  have HM : Hid (SK wide 0 w (.slice a ms.length cap) ms) := hm
  have HS : Hid (∀ m ∈ ms, SmallC m) := hs0.2
  clear hm hs0
  go_enter Tryz.func26, Tryz.ntmps26
  go_wp2_with (at_make; refine wpList_make_full _ rfl _ _ 28 rfl w.heap.size 52 i0 (.agg #[.int .i64 0, .slice none 0 0, .slice none 0 0]) 3 Tryz.underlying28 hi hz0 hz1 .i64 .i64 _ _ ms.length rfl rfl rfl rfl (by rw [hz2]; omega) (by unfold maxLen; omega) (Nat.le_refl _) ?_; intro w0 hown0 hgrow0)
  have hroom := room_own hown0 (Nat.le_refl _)
  have hsz0 : w.heap.size < w0.heap.size := row_made_lt hown0
  have hb0 : Below w.heap.size w w0 := (Below.refl _ _).grown hgrow0 (Nat.le_refl _) (fun _ h => by simp at h)
  clear hown0 hgrow0
  go_loopw [4] (fun i wr => ∃ k : Nat, k ≤ ms.length ∧ i = .int .i64 k ∧ Hid (Room wr w.heap.size (ms.length * 3)) ∧ Hid (∀ j x, (ms.take k)[j]? = some x → CAt front (w.heap.size + 1) wr w.heap.size (0 + j * 3) x) ∧ w.heap.size < wr.heap.size ∧ Below w.heap.size w wr) (fun i _ => ms.length - (intOf i).toNat)
  case atStart => exact ⟨0, Nat.zero_le _, rfl, hroom, fun j x h => by simp at h, hsz0, hb0⟩
  case round =>
    obtain ⟨k, hk, rfl, hrm, hrw, hsz, hb⟩ := hrel
    by_cases hlt : k < ms.length
    · obtain ⟨b, o, rfl, _, va, vc, h0, h1, h2, hmv⟩ := (SK.on HM.out (Keep.of hb)).get hlt
      obtain ⟨aa, ca, rfl⟩ := hmv.1.form
      obtain ⟨ac, cc, rfl⟩ := hmv.2.form
      have HMA : Hid (SI false 0 wr (.slice aa ms[k].fields.length ca) ms[k].fields) := hmv.1
      have HMC : Hid (SM wide 0 wr (.slice ac ms[k].meths.length cc) ms[k].meths) := hmv.2
      have HSM : Hid (SmallC ms[k]) := HS.out _ (List.getElem_mem hlt)
      obtain ⟨⟨x0, d0⟩, f0⟩ := hrm.out (k * 3) (by omega)
      obtain ⟨⟨x1, d1⟩, f1⟩ := hrm.out (k * 3 + 1) (by omega)
      obtain ⟨⟨x2, d2⟩, f2⟩ := hrm.out (k * 3 + 2) (by omega)
      have HN : Hid (∀ u, Below wr.heap.size wr u → ∀ va vc, CV front (w.heap.size + 1) u va vc ms[k] → ∀ j x, (ms.take (k + 1))[j]? = some x → CAt front (w.heap.size + 1) (((u.setCell ⟨w.heap.size, k * 3, none⟩ (.int .i64 ms[k].super)).setCell ⟨w.heap.size, k * 3 + 1, none⟩ va).setCell ⟨w.heap.size, k * 3 + 2, none⟩ vc) w.heap.size (0 + j * 3) x) :=
        fun u hu va vc hv => classes_next hlt (hrm.out.on hu) (fun j x hj => by
          obtain ⟨q1, q2, c0, c1, c2, c4⟩ := hrw.out j x hj
          have l : w.heap.size < wr.heap.size := hsz
          exact ⟨q1, q2, (hu.cell l).trans c0, (hu.cell l).trans c1, (hu.cell l).trans c2, c4.on (Keep.of hu)⟩) hv
      clear hrw hmv HM
      generalize ms[k] = m at *
      go_wp2_with fail
      refine (toClass m aa ac ca cc HSM.out _ HMA.out HMC.out).mono ?_
      rintro e w1 ⟨va, vc, rfl, hv1, hb1⟩
      obtain ⟨a1, c1, rfl⟩ := hv1.1.form
      obtain ⟨a2, c2, rfl⟩ := hv1.2.form
      have hw1 : Below w.heap.size w w1 := below_over hb hb1
      have hsz1 : w.heap.size < w1.heap.size := Nat.lt_of_lt_of_le hsz hb1.size
      have l0 : w.heap.size < wr.heap.size := hsz
      have d0' := (hb1.cell l0).trans d0
      have d1' := (hb1.cell l0).trans d1
      have d2' := (hb1.cell l0).trans d2
      have f0' := (hb1.frozen l0).trans f0
      have f1' := (hb1.frozen l0).trans f1
      have f2' := (hb1.frozen l0).trans f2
      have HRM : Hid (Room w1 w.heap.size (ms.length * 3)) := hrm.out.on hb1
      have HNX : Hid (∀ j x, (ms.take (k + 1))[j]? = some x → CAt front (w.heap.size + 1) (((w1.setCell ⟨w.heap.size, k * 3, none⟩ (.int .i64 m.super)).setCell ⟨w.heap.size, k * 3 + 1, none⟩ (.slice a1 m.fields.length c1)).setCell ⟨w.heap.size, k * 3 + 2, none⟩ (.slice a2 m.meths.length c2)) w.heap.size (0 + j * 3) x) := HN.out w1 hb1 _ _ (hv1.weak hsz)
      clear d0 d1 d2 f0 f1 f2 h0 h1 h2 hb1 hrm HN hb hv1 HSM HMA HMC
      go_wp2
      go_roundw
      case rel => exact ⟨k + 1, by omega, by go_num, ((HRM.out.set _ _).set _ _).set _ _, HNX.out, by simpa using hsz1, ((hw1.setCell (Nat.le_refl _) _).setCell (Nat.le_refl _) _).setCell (Nat.le_refl _) _⟩
      case measure => simp [intOf]; omega
    · have e : ms.take k = ms := List.take_of_length_le (by omega)
      have HE := hrw.out
      rw [e] at HE
      have HEE : Hid (∀ j x, ms[j]? = some x → CAt front (w.heap.size + 1) wr w.heap.size (0 + j * 3) x) := HE
      clear HE e
      go_wp2
      go_ret
      exact ⟨_, rfl, ⟨_, _, rfl, fun _ h => by simp at h, fun _ => ⟨w.heap.size, 0, rfl, Nat.le_refl _, ⟨hsz, fun _ j hj => by rw [Nat.zero_add]; exact (hrm.out j hj).2⟩, fun j x hj => by
        obtain ⟨q1, q2, c0, c1, c2, c4⟩ := HEE.out j x hj
        exact ⟨q1, q2, c0, c1, c2, c4.weak (by omega)⟩⟩⟩, hb⟩

set_option maxRecDepth 100000 in
set_option maxHeartbeats 1000000 in
theorem toProgram (p : Prg) (a : Option Addr) (cap : Nat) (hs : SmallP p) (w : World) (hm : SK wide 0 w (.slice a p.length cap) p) :
    Calls Tryz.prog 9 #[.agg #[.slice a p.length cap]] w fun e w' => ∃ v, e = .returned (.agg #[v]) ∧ SK front w.heap.size w' v p ∧ Below w.heap.size w w' := by
  have HM : Hid (SK wide 0 w (.slice a p.length cap) p) := hm
  have HS : Hid (SmallP p) := hs
  clear hm hs
  go_enter Tryz.func9, Tryz.ntmps9
  go_wp2_with fail
  refine (toClasses p a cap HS.out _ ?_).mono ?_
  · exact SK.on HM.out (Keep.of (by go_grown))
  rintro e w1 ⟨v, rfl, hv, hb1⟩
  obtain ⟨a1, c1, rfl⟩ := hv.form
  have hw1 : Below w.heap.size w w1 := below_over (by go_grown) hb1
  have R1 : Hid (Cells w1 (w.heap.size + 1) [.slice none 0 0]) := by
    show Cells _ _ _
    refine Cells.on ?_ hb1
    exact (Cells.new (w.alloc _) _ (by simp) _ _).alloc _
  have O1 : Hid (Cells w1 (w.heap.size + 1 + 1) [.slice none 0 0]) := by
    show Cells _ _ _
    refine Cells.on ?_ hb1
    exact Cells.new ((w.alloc _).alloc _) _ (by simp) _ _
  have HV1 : Hid (SK front (w.heap.size + 1 + 1 + 1) w1 (.slice a1 p.length c1) p) := SK.weak hv (by simp)
  clear hv hb1
  generalize hs : w.heap.size = s at *
  have HSS : Hid (w.heap.size = s) := hs
  clear hs
  have N21 : Hid (s + 1 + 1 ≠ s + 1) := by show s + 1 + 1 ≠ s + 1; omega
  have O4 := O1.out.s0 (.slice a1 p.length c1)
  have R4 := R1.out.far ⟨s + 1 + 1, 0, none⟩ (.slice a1 p.length c1) N21.out
  have R5 := R4.s0 (.slice a1 p.length c1)
  obtain ⟨o3, p3⟩ := O1.out.g0
  obtain ⟨i0, _⟩ := O4.g0
  obtain ⟨r0, q0⟩ := R4.g0
  obtain ⟨e0, _⟩ := R5.g0
  have HW : Hid (Below s w w1) := hw1
  clear O4 R4 R5 R1 O1 hw1
  go_wp2
  refine bodyPost_ret (v := .agg #[.slice a1 p.length c1]) (by simp [results, Tryz.results9, go_sem, e0]) rfl ?_
  rw [HSS.out]
  have hk : ∀ (u : World) (j i : Nat) (x : Value), j < s + 1 + 1 + 1 → Keep (s + 1 + 1 + 1) u (u.setCell ⟨j, i, none⟩ x) := fun u j i x hj => Keep.set u (p := ⟨j, i, none⟩) hj x
  have hkk := (hk w1 (s + 1 + 1) 0 (.slice a1 p.length c1) (by omega)).trans (hk _ (s + 1) 0 (.slice a1 p.length c1) (by omega))
  have hbb := (HW.out.setCell (p := ⟨s + 1 + 1, 0, none⟩) (by simp; omega) (.slice a1 p.length c1)).setCell (p := ⟨s + 1, 0, none⟩) (by simp) (.slice a1 p.length c1)
  exact ⟨_, rfl, SK.weak (SK.on HV1.out hkk) (by omega), hbb⟩
end Pg
end Go.Proofs.YtinanjjhkddikaaGreat

/- Contracts of the laws' own comparing of programs, where both are the same. -/
namespace Go.Proofs.YtinanjjhkddikaaGreat
namespace Pg
open Go.ChangeShapes Go.WideShapes Go.ChangeAt Go.RowKit St

set_option maxHeartbeats 800000 in
theorem eqInts' {f f' : Bool} (B B' : Nat) (a a' : Option Addr) (cap cap' : Nat) (l : List Int) (hl : l.length ≤ 1048576) (w : World) (h1 : SI f B w (.slice a l.length cap) l) (h2 : SI f' B' w (.slice a' l.length cap') l) :
    Calls Tryz.prog 11 #[.slice a l.length cap, .slice a' l.length cap'] w fun e w' => e = .returned (.bool true) ∧ Below w.heap.size w w' := by
  have H1 : Hid (SI f B w (.slice a l.length cap) l) := h1
  have H2 : Hid (SI f' B' w (.slice a' l.length cap') l) := h2
  clear h1 h2
  go_enter Tryz.func11, Tryz.ntmps11
  go_wp2
  go_loopw [5] (fun i wr => ∃ k : Nat, k ≤ l.length ∧ i = .int .i64 k ∧ Below w.heap.size w wr) (fun i _ => l.length - (intOf i).toNat)
  case atStart => exact ⟨0, Nat.zero_le _, rfl, Below.refl _ _⟩
  case round =>
    obtain ⟨k, hk, rfl, hb⟩ := hrel
    by_cases hlt : k < l.length
    · obtain ⟨b, o, rfl, _, a0⟩ := (SI.on H1.out (Keep.of hb)).get hlt
      obtain ⟨b', o', rfl, _, b0⟩ := (SI.on H2.out (Keep.of hb)).get hlt
      unfold IntAt at a0 b0
      rw [Nat.mul_one] at a0 b0
      generalize l[k] = x at *
      have hki : (k : Int) < (l.length : Int) := by omega
      have hki0 : (0 : Int) ≤ (k : Int) := by omega
      have r0 := cell_regrown a0
      have s0 := cell_regrown b0
      go_wp2_with fail
      refine wp_region_quiet_below (by kernel_rfl) (by kernel_rfl) ?_
      repeat (quiet_step (fail))
      refine wpQuiet_nil ?_
      intro _ hw'
      obtain ⟨⟨dq, osq⟩, hw''⟩ := hw'
      subst hw''
      have hw1 : Below w.heap.size w (Sort.grow (redrawn wr dq) osq) := below_over hb (below_regrown wr dq osq)
      clear a0 b0 r0 s0 hb
      generalize Sort.grow (redrawn wr dq) osq = w1 at *
      go_wp2
      go_roundw
      case rel => exact ⟨k + 1, by omega, by go_num, hw1⟩
      case measure => simp [intOf]; omega
    · go_wp2
      go_ret
      exact ⟨rfl, hb⟩
theorem eqRow' (B B' : Nat) (v v' : Value) (l : List Tx.Ins) (hl : l.length ≤ 1048576) (w : World) (h1 : CS B w v l) (h2 : CS B' w v' l) :
    Calls Tryz.prog 100 #[v, v'] w fun e w' => e = .returned (.bool true) ∧ Below w.heap.size w w' := by
  obtain ⟨g, cap, rfl, _, _, r1, _⟩ := h1
  obtain ⟨g', cap', rfl, _, _, r2, _⟩ := h2
  exact eqRows g g' cap cap' l hl w r1 r2

set_option maxHeartbeats 800000 in
theorem eqMethod (B B' : Nat) (m : Meth) (aa aa' ac ac' : Option Addr) (ca ca' cc cc' : Nat) (hs : SmallM m) (w : World) (h1 : MV front B w (.slice aa m.args.length ca) (.slice ac m.code.length cc) m) (h2 : MV front B' w (.slice aa' m.args.length ca') (.slice ac' m.code.length cc') m) :
    Calls Tryz.prog 87 #[.agg #[.int .i64 m.name, .slice aa m.args.length ca, .int .i64 m.gives, .slice ac m.code.length cc], .agg #[.int .i64 m.name, .slice aa' m.args.length ca', .int .i64 m.gives, .slice ac' m.code.length cc']] w fun e w' => e = .returned (.bool true) ∧ Below w.heap.size w w' := by
  have H1 : Hid (MV front B w (.slice aa m.args.length ca) (.slice ac m.code.length cc) m) := h1
  have H2 : Hid (MV front B' w (.slice aa' m.args.length ca') (.slice ac' m.code.length cc') m) := h2
  have hs1 := hs.1
  have hs2 := hs.2
  clear h1 h2 hs
  go_enter Tryz.func87, Tryz.ntmps87
  go_wp2_with fail
  refine (eqInts' (f := true) (f' := true) B B' aa aa' ca ca' m.args hs1 _ ?_ ?_).mono ?_
  · exact SI.on H1.out.1 (Keep.of (by go_grown))
  · exact SI.on H2.out.1 (Keep.of (by go_grown))
  rintro e w1 ⟨rfl, hb1⟩
  have hw1 : Below w.heap.size w w1 := below_over (by go_grown) hb1
  have A1 : Cells w1 w.heap.size [.int .i64 m.name, .slice aa m.args.length ca, .int .i64 m.gives, .slice ac m.code.length cc] := by
    refine Cells.on ?_ hb1
    exact (Cells.new w _ rfl _ _).alloc _
  have B1 : Cells w1 (w.heap.size + 1) [.int .i64 m.name, .slice aa' m.args.length ca', .int .i64 m.gives, .slice ac' m.code.length cc'] := by
    refine Cells.on ?_ hb1
    exact Cells.new (w.alloc _) _ (by simp) _ _
  have a2 := A1.g2.1
  have a3 := A1.g3.1
  have b2 := B1.g2.1
  have b3 := B1.g3.1
  clear A1 B1 hb1
  go_wp2_with fail
  refine (eqRow' B B' _ _ m.code hs2 _ (front.on H1.out.2 (Keep.of hw1)) (front.on H2.out.2 (Keep.of hw1))).mono ?_
  rintro e w2 ⟨rfl, hb2⟩
  have hw2 : Below w.heap.size w w2 := below_over hw1 hb2
  clear hb2 hw1 a2 a3 b2 b3
  go_wp2
  go_ret
  exact ⟨rfl, hw2⟩

set_option maxRecDepth 100000 in
set_option maxHeartbeats 1000000 in
theorem eqMethods (B B' : Nat) (a a' : Option Addr) (cap cap' : Nat) (ms : List Meth) (hn : ms.length ≤ 1048576) (hs : ∀ m ∈ ms, SmallM m) (w : World) (h1 : SM front B w (.slice a ms.length cap) ms) (h2 : SM front B' w (.slice a' ms.length cap') ms) :
    Calls Tryz.prog 71 #[.slice a ms.length cap, .slice a' ms.length cap'] w fun e w' => e = .returned (.bool true) ∧ Below w.heap.size w w' := by
  have H1 : Hid (SM front B w (.slice a ms.length cap) ms) := h1
  have H2 : Hid (SM front B' w (.slice a' ms.length cap') ms) := h2
  have HS : Hid (∀ m ∈ ms, SmallM m) := hs
  clear h1 h2 hs
  go_enter Tryz.func71, Tryz.ntmps71
  go_wp2
  go_loopw [5] (fun i wr => ∃ k : Nat, k ≤ ms.length ∧ i = .int .i64 k ∧ Below w.heap.size w wr) (fun i _ => ms.length - (intOf i).toNat)
  case atStart => exact ⟨0, Nat.zero_le _, rfl, Below.refl _ _⟩
  case round =>
    obtain ⟨k, hk, rfl, hb⟩ := hrel
    by_cases hlt : k < ms.length
    · obtain ⟨b, o, rfl, _, va, vc, a0, a1, a2, a3, hma⟩ := (SM.on H1.out (Keep.of hb)).get hlt
      obtain ⟨b', o', rfl, _, va', vc', b0, b1, b2, b3, hmb⟩ := (SM.on H2.out (Keep.of hb)).get hlt
      obtain ⟨x1, y1, rfl⟩ := hma.1.form
      obtain ⟨x2, y2, rfl⟩ := front.form hma.2
      obtain ⟨x3, y3, rfl⟩ := hmb.1.form
      obtain ⟨x4, y4, rfl⟩ := front.form hmb.2
      have hsm := HS.out _ (List.getElem_mem hlt)
      generalize ms[k] = m at *
      have hki : (k : Int) < (ms.length : Int) := by omega
      have hki0 : (0 : Int) ≤ (k : Int) := by omega
      have r0 := cell_regrown a0
      have r1 := cell_regrown a1
      have r2 := cell_regrown a2
      have r3 := cell_regrown a3
      have s0 := cell_regrown b0
      have s1 := cell_regrown b1
      have s2 := cell_regrown b2
      have s3 := cell_regrown b3
      have cE : ∀ d os, Calls Tryz.prog 87 #[.agg #[.int .i64 m.name, .slice x1 m.args.length y1, .int .i64 m.gives, .slice x2 m.code.length y2], .agg #[.int .i64 m.name, .slice x3 m.args.length y3, .int .i64 m.gives, .slice x4 m.code.length y4]] (Sort.grow (redrawn wr d) os) fun e w'' => e = .returned (.bool true) ∧ ∃ p : Regrown, w'' = Sort.grow (redrawn wr p.d) p.os := by
        intro d os
        exact Calls.regrown_of (eqMethod B B' m x1 x3 x2 x4 y1 y3 y2 y4 hsm _ (hma.on (Keep.of (below_regrown wr d os))) (hmb.on (Keep.of (below_regrown wr d os))))
      clear hma hmb hsm
      go_wp2_with fail
      refine wp_region_quiet_below (by kernel_rfl) (by kernel_rfl) ?_
      repeat (quiet_step ((go_at_call 87; exact cE _ _)))
      refine wpQuiet_nil ?_
      intro _ hw'
      obtain ⟨⟨dq, osq⟩, hw''⟩ := hw'
      subst hw''
      have hw1 : Below w.heap.size w (Sort.grow (redrawn wr dq) osq) := below_over hb (below_regrown wr dq osq)
      clear a0 a1 a2 a3 b0 b1 b2 b3 r0 r1 r2 r3 s0 s1 s2 s3 cE hb
      generalize Sort.grow (redrawn wr dq) osq = w1 at *
      go_wp2
      go_roundw
      case rel => exact ⟨k + 1, by omega, by go_num, hw1⟩
      case measure => simp [intOf]; omega
    · go_wp2
      go_ret
      exact ⟨rfl, hb⟩

set_option maxHeartbeats 800000 in
theorem eqClass (B B' : Nat) (c : Cls) (aa aa' ac ac' : Option Addr) (ca ca' cc cc' : Nat) (hs : SmallC c) (w : World) (h1 : CV front B w (.slice aa c.fields.length ca) (.slice ac c.meths.length cc) c) (h2 : CV front B' w (.slice aa' c.fields.length ca') (.slice ac' c.meths.length cc') c) :
    Calls Tryz.prog 49 #[.agg #[.int .i64 c.super, .slice aa c.fields.length ca, .slice ac c.meths.length cc], .agg #[.int .i64 c.super, .slice aa' c.fields.length ca', .slice ac' c.meths.length cc']] w fun e w' => e = .returned (.bool true) ∧ Below w.heap.size w w' := by
  have H1 : Hid (CV front B w (.slice aa c.fields.length ca) (.slice ac c.meths.length cc) c) := h1
  have H2 : Hid (CV front B' w (.slice aa' c.fields.length ca') (.slice ac' c.meths.length cc') c) := h2
  have hs1 := hs.1
  have hs2 := hs.2.1
  have HS3 : Hid (∀ m ∈ c.meths, SmallM m) := hs.2.2
  clear h1 h2 hs
  go_enter Tryz.func49, Tryz.ntmps49
  go_wp2_with fail
  refine (eqInts' (f := true) (f' := true) B B' aa aa' ca ca' c.fields hs1 _ ?_ ?_).mono ?_
  · exact SI.on H1.out.1 (Keep.of (by go_grown))
  · exact SI.on H2.out.1 (Keep.of (by go_grown))
  rintro e w1 ⟨rfl, hb1⟩
  have hw1 : Below w.heap.size w w1 := below_over (by go_grown) hb1
  have A1 : Cells w1 w.heap.size [.int .i64 c.super, .slice aa c.fields.length ca, .slice ac c.meths.length cc] := by
    refine Cells.on ?_ hb1
    exact (Cells.new w _ rfl _ _).alloc _
  have B1 : Cells w1 (w.heap.size + 1) [.int .i64 c.super, .slice aa' c.fields.length ca', .slice ac' c.meths.length cc'] := by
    refine Cells.on ?_ hb1
    exact Cells.new (w.alloc _) _ (by simp) _ _
  have a2 := A1.g2.1
  have b2 := B1.g2.1
  clear A1 B1 hb1
  go_wp2_with fail
  refine (eqMethods B B' ac ac' cc cc' c.meths hs2 HS3.out _ (SM.on H1.out.2 (Keep.of hw1)) (SM.on H2.out.2 (Keep.of hw1))).mono ?_
  rintro e w2 ⟨rfl, hb2⟩
  have hw2 : Below w.heap.size w w2 := below_over hw1 hb2
  clear hb2 hw1 a2 b2
  go_wp2
  go_ret
  exact ⟨rfl, hw2⟩

set_option maxRecDepth 100000 in
set_option maxHeartbeats 1000000 in
theorem eqClasses (B B' : Nat) (a a' : Option Addr) (cap cap' : Nat) (ms : Prg) (hs : SmallP ms) (w : World) (h1 : SK front B w (.slice a ms.length cap) ms) (h2 : SK front B' w (.slice a' ms.length cap') ms) :
    Calls Tryz.prog 28 #[.slice a ms.length cap, .slice a' ms.length cap'] w fun e w' => e = .returned (.bool true) ∧ Below w.heap.size w w' := by
  have H1 : Hid (SK front B w (.slice a ms.length cap) ms) := h1
  have H2 : Hid (SK front B' w (.slice a' ms.length cap') ms) := h2
  have hn := hs.1
  have HS : Hid (∀ m ∈ ms, SmallC m) := hs.2
  clear h1 h2 hs
  go_enter Tryz.func28, Tryz.ntmps28
  go_wp2
  go_loopw [5] (fun i wr => ∃ k : Nat, k ≤ ms.length ∧ i = .int .i64 k ∧ Below w.heap.size w wr) (fun i _ => ms.length - (intOf i).toNat)
  case atStart => exact ⟨0, Nat.zero_le _, rfl, Below.refl _ _⟩
  case round =>
    obtain ⟨k, hk, rfl, hb⟩ := hrel
    by_cases hlt : k < ms.length
    · obtain ⟨b, o, rfl, _, va, vc, a0, a1, a2, hma⟩ := (SK.on H1.out (Keep.of hb)).get hlt
      obtain ⟨b', o', rfl, _, va', vc', b0, b1, b2, hmb⟩ := (SK.on H2.out (Keep.of hb)).get hlt
      obtain ⟨x1, y1, rfl⟩ := hma.1.form
      obtain ⟨x2, y2, rfl⟩ := hma.2.form
      obtain ⟨x3, y3, rfl⟩ := hmb.1.form
      obtain ⟨x4, y4, rfl⟩ := hmb.2.form
      have hsm := HS.out _ (List.getElem_mem hlt)
      generalize ms[k] = m at *
      have hki : (k : Int) < (ms.length : Int) := by omega
      have hki0 : (0 : Int) ≤ (k : Int) := by omega
      have r0 := cell_regrown a0
      have r1 := cell_regrown a1
      have r2 := cell_regrown a2
      have s0 := cell_regrown b0
      have s1 := cell_regrown b1
      have s2 := cell_regrown b2
      have cE : ∀ d os, Calls Tryz.prog 49 #[.agg #[.int .i64 m.super, .slice x1 m.fields.length y1, .slice x2 m.meths.length y2], .agg #[.int .i64 m.super, .slice x3 m.fields.length y3, .slice x4 m.meths.length y4]] (Sort.grow (redrawn wr d) os) fun e w'' => e = .returned (.bool true) ∧ ∃ p : Regrown, w'' = Sort.grow (redrawn wr p.d) p.os := by
        intro d os
        exact Calls.regrown_of (eqClass B B' m x1 x3 x2 x4 y1 y3 y2 y4 hsm _ (hma.on (Keep.of (below_regrown wr d os))) (hmb.on (Keep.of (below_regrown wr d os))))
      clear hma hmb hsm
      go_wp2_with fail
      refine wp_region_quiet_below (by kernel_rfl) (by kernel_rfl) ?_
      repeat (quiet_step ((go_at_call 49; exact cE _ _)))
      refine wpQuiet_nil ?_
      intro _ hw'
      obtain ⟨⟨dq, osq⟩, hw''⟩ := hw'
      subst hw''
      have hw1 : Below w.heap.size w (Sort.grow (redrawn wr dq) osq) := below_over hb (below_regrown wr dq osq)
      clear a0 a1 a2 b0 b1 b2 r0 r1 r2 s0 s1 s2 cE hb
      generalize Sort.grow (redrawn wr dq) osq = w1 at *
      go_wp2
      go_roundw
      case rel => exact ⟨k + 1, by omega, by go_num, hw1⟩
      case measure => simp [intOf]; omega
    · go_wp2
      go_ret
      exact ⟨rfl, hb⟩

set_option maxHeartbeats 800000 in
theorem eqProgram (B B' : Nat) (v v' : Value) (p : Prg) (hs : SmallP p) (w : World) (h1 : SK front B w v p) (h2 : SK front B' w v' p) :
    Calls Tryz.prog 12 #[.agg #[v], .agg #[v']] w fun e w' => e = .returned (.bool true) ∧ Below w.heap.size w w' := by
  obtain ⟨a, cap, rfl⟩ := h1.form
  obtain ⟨a', cap', rfl⟩ := h2.form
  have H1 : Hid (SK front B w (.slice a p.length cap) p) := h1
  have H2 : Hid (SK front B' w (.slice a' p.length cap') p) := h2
  have HS : Hid (SmallP p) := hs
  clear h1 h2 hs
  go_enter Tryz.func12, Tryz.ntmps12
  go_wp2_with fail
  refine (eqClasses B B' a a' cap cap' p HS.out _ ?_ ?_).mono ?_
  · exact SK.on H1.out (Keep.of (by go_grown))
  · exact SK.on H2.out (Keep.of (by go_grown))
  rintro e w1 ⟨rfl, hb1⟩
  have hw1 : Below w.heap.size w w1 := below_over (by go_grown) hb1
  clear hb1
  go_wp2
  go_ret
  exact ⟨rfl, hw1⟩
end Pg
end Go.Proofs.YtinanjjhkddikaaGreat

/- Contracts of the two sides' small functions on the layout: which step is a jump, and its bytes. -/
namespace Go.Proofs.YtinanjjhkddikaaGreat
namespace St
open Go.ChangeShapes Go.WideShapes Go.ChangeAt Go.RowKit

theorem jump_cases (op : Int) : (op = 11 ∧ Lay.jumpB op = true) ∨ (op = 12 ∧ Lay.jumpB op = true) ∨ (¬ op = 11 ∧ ¬ op = 12 ∧ Lay.jumpB op = false) := by
  unfold Lay.jumpB
  by_cases h1 : op = 11
  · simp [h1]
  · by_cases h2 : op = 12
    · simp [h2]
    · simp [h1, h2]
theorem boxC {w w1 : World} {x y z : Value} {t : TypeId} (hb : Below (w.alloc (.cells #[x, y, z] t)).heap.size (w.alloc (.cells #[x, y, z] t)) w1) :
    w1.cell? ⟨w.heap.size, 0, none⟩ = some x ∧ w1.cell? ⟨w.heap.size, 1, none⟩ = some y ∧ w1.cell? ⟨w.heap.size, 2, none⟩ = some z :=
  ⟨(hb.cell (by simp)).trans (by simp), (hb.cell (by simp)).trans (by simp), (hb.cell (by simp)).trans (by simp)⟩
theorem allocC (w : World) (x y z : Value) (t : TypeId) : (w.alloc (.cells #[x, y, z] t)).cell? ⟨w.heap.size, 0, none⟩ = some x ∧ (w.alloc (.cells #[x, y, z] t)).cell? ⟨w.heap.size, 1, none⟩ = some y ∧ (w.alloc (.cells #[x, y, z] t)).cell? ⟨w.heap.size, 2, none⟩ = some z := ⟨by simp, by simp, by simp⟩
theorem retI {a b : Int} (h : a = b) : Ending.returned (.int .i64 a) = .returned (.int .i64 b) := by rw [h]

set_option maxHeartbeats 800000 in
theorem isJump (op a b : Int) (w : World) :
    Calls Tryz.prog 102 #[.agg #[.int .i64 op, .int .i64 a, .int .i64 b]] w fun e w' => e = .returned (.bool (Lay.jumpB op)) ∧ Below w.heap.size w w' := by
  by_cases h : op = 11
  · subst h
    go_enter Tryz.func102, Tryz.ntmps102
    go_wp2
    go_ret
    exact ⟨rfl, by go_grown⟩
  · go_enter Tryz.func102, Tryz.ntmps102
    go_wp2
    go_ret
    exact ⟨rfl, by go_grown⟩
theorem l3Jump (op : Int) (w : World) :
    Calls Tryz.prog 85 #[.int .i64 op] w fun e w' => e = .returned (.bool (Lay.jumpB op)) ∧ w = w' := by
  by_cases h : op = 11
  · subst h
    go_enter Tryz.func85, Tryz.ntmps85
    go_wp2
    go_ret
    exact ⟨rfl, rfl⟩
  · go_enter Tryz.func85, Tryz.ntmps85
    go_wp2
    go_ret
    exact ⟨rfl, rfl⟩
end St
end Go.Proofs.YtinanjjhkddikaaGreat
